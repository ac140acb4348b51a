/- The document's Long. -/
import Derived.Test.YtdlcnbfiklbiiaaCo10
namespace Go.Proofs.Ytdlcnbfiklbiiaa.Co
open Go.RowKit Go.Maps Go.Sort
set_option linter.unusedVariables false
set_option linter.unusedSimpArgs false

theorem fb_take (l : List Nat) (k j x : Nat) (h : l[j]? = some x) : fb (l.take (j + 1)) k = fb (l.take j) k + (x / 2 ^ k + (1 + k)) := by
  unfold fb
  rw [List.take_add_one, h, List.map_append, List.sum_append]; simp
theorem fb_le (l : List Nat) (k : Nat) (h : ∀ m ∈ l, m < 524288) : fb l k ≤ l.length * (524289 + k) := by
  rw [fb_sh]
  have := sh_le l k h
  have e : l.length * (524289 + k) = l.length * 524288 + l.length * (1 + k) := by rw [← Nat.mul_add]; congr 1; omega
  omega
set_option maxRecDepth 8000 in
set_option maxHeartbeats 8000000 in
theorem long_any (f : List Int) (S : Nat → Prop) (xa : Option Addr) (n c o k : Nat) (w : World) (hI : IL w S xa f) (hS : ∀ b, S b → b < w.heap.size) (hn : f.length = n) (hc : n ≤ c) (hc2 : c ≤ 9223372036854775807) (hr : ∀ x ∈ f, inR x) (ho : o ≤ 3) (hk : k ≤ 15) (hn2 : n ≤ 256) :
    Calls Try.prog 37 #[.slice xa n c, .int .i64 (o : Int), .int .i64 (k : Int)] w fun e w' => e = .returned (.int .i64 ((6 + lg f o k : Nat) : Int)) ∧ Below w.heap.size w w' := by
  have hq := misses_any f S xa n c o w hI hS hn hc hc2 hr ho (by omega)
  have HLl : Hid ((fal f o).length = n - o ∧ (∀ m ∈ fal f o, m < 524288)) := ⟨by unfold fal; rw [fa_len, hn], fa_lt f hr o _⟩
  obtain ⟨A, hA⟩ : ∃ A, A = 6 + 16 * min o n := ⟨_, rfl⟩
  have hAb : A ≤ 100 := by omega
  have HE : Hid (6 + lg f o k = A + fb (fal f o) k) := by show _ = _; unfold lg; rw [hn, hA]; omega
  obtain ⟨R, hR⟩ : ∃ R : Nat, R = 6 + lg f o k := ⟨_, rfl⟩
  rw [← hR]
  have HR : Hid (R = A + fb (fal f o) k) := by show _ = _; rw [hR, HE.out]
  clear hR HE hI hr
  have hw1 : IntKind.i64.wrap (16 * (o : Int)) = 16 * (o : Int) := wid (by omega) (by omega)
  have hw2 : IntKind.i64.wrap (6 + 16 * (o : Int)) = 6 + 16 * (o : Int) := wid (by omega) (by omega)
  have hw3 : IntKind.i64.wrap (16 * (n : Int)) = 16 * (n : Int) := wid (by omega) (by omega)
  have hw4 : IntKind.i64.wrap (6 + 16 * (n : Int)) = 6 + 16 * (n : Int) := wid (by omega) (by omega)
  have HA : Hid (A = 6 + 16 * min o n) := hA
  clear hA hn hS
  go_enter Try.func37, Try.ntmps37
  by_cases hno : n < o
  case' pos =>
    have hno' : (n : Int) < (o : Int) := by omega
    have hAv : 6 + 16 * (n : Int) = (A : Int) := by have := HA.out; omega
    go_wp2_with (simp only [hAv])
  case' neg =>
    have hno' : ¬ (n : Int) < (o : Int) := by omega
    have hAv : 6 + 16 * (o : Int) = (A : Int) := by have := HA.out; omega
    go_wp2_with (simp only [hAv])
  all_goals
    refine hq.mono ?_
    rintro e w1 ⟨v, rfl, hv, hb1⟩
    obtain ⟨va, vc, rfl, v1, v2, v3, v4⟩ := IL.own hv (by rw [nts_len]; exact HLl.out.1)
    have HI1 : Hid (IL w1 (fun b => some b = (Value.slice va (n - o) vc).ownBlock) va (nts (fal f o))) := v4
    have HB1 : Hid (Below w.heap.size w w1) := hb1
    obtain ⟨L, hL⟩ : ∃ L, L = fal f o := ⟨_, rfl⟩
    rw [← hL] at HI1 HLl HR
    obtain ⟨m, hm⟩ : ∃ m, m = n - o := ⟨_, rfl⟩
    rw [← hm] at HLl v1 HI1 ⊢
    have hmb : m ≤ 256 := by omega
    clear hq hv v4 hb1 v3 hL hm hno hno' hAv hw1 hw2 hw3 hw4
    go_wp2_with fail
    go_loopw [25, 7] (fun i s wr => ∃ j : Nat, j ≤ m ∧ i = .int .i64 (j : Int) ∧ s = .int .i64 ((A + fb (L.take j) k : Nat) : Int) ∧ wr = w1) (fun i _ _ => m - (intOf i).toNat)
    case atStart => exact ⟨0, by omega, rfl, by simp [fb], rfl⟩
    case round =>
      obtain ⟨j, hj, rfl, rfl, hwr⟩ := hrel
      subst hwr
      by_cases hlt : j < m
      · have hlt' : (j : Int) < (m : Int) := by omega
        obtain ⟨x, hx⟩ : ∃ x, L[j]? = some x := ⟨_, List.getElem?_eq_getElem (by rw [HLl.out.1]; exact hlt)⟩
        have hxb := HLl.out.2 x (List.mem_of_getElem? hx)
        obtain ⟨b, off, rfl, lb, _, cc⟩ := HI1.out.at' (by rw [nts_len, HLl.out.1]; omega)
        have cx := cc j (x : Int) (by unfold nts; rw [List.getElem?_map, hx]; rfl)
        have hst := fb_take L k j x hx
        have hsl := fb_le (L.take j) k (fun m hm => HLl.out.2 m (List.mem_of_mem_take hm))
        rw [List.length_take] at hsl
        have hsl2 : fb (L.take j) k ≤ 256 * (524289 + 15) := Nat.le_trans hsl (Nat.mul_le_mul (by omega) (by omega))
        have hpq := power_any k wr (by omega)
        have hpp : 0 < 2 ^ k := Nat.two_pow_pos k
        have hdx : x / 2 ^ k ≤ x := Nat.div_le_self _ _
        have hpl := pow_lt62 k (by omega)
        have HS : Hid (fb (L.take (j + 1)) k = fb (L.take j) k + (x / 2 ^ k + (1 + k))) := hst
        have hdv : Int.tdiv (x : Int) ((2 ^ k : Nat) : Int) = ((x / 2 ^ k : Nat) : Int) := by rw [Int.tdiv_eq_ediv_of_nonneg (by omega)]; push_cast; rfl
        clear cc hx hst hsl
        generalize fb (L.take j) k = B at *
        generalize x / 2 ^ k = D at *
        generalize 2 ^ k = P at *
        have w0 : IntKind.i64.wrap (D : Int) = (D : Int) := wid (by omega) (by omega)
        have w1' : IntKind.i64.wrap (((A + B : Nat) : Int) + (D : Int)) = ((A + B + D : Nat) : Int) := by rw [wid (by omega) (by omega)]; omega
        have w2' : IntKind.i64.wrap (((A + B + D : Nat) : Int) + 1) = ((A + B + D + 1 : Nat) : Int) := by rw [wid (by omega) (by omega)]; omega
        have w3' : IntKind.i64.wrap (((A + B + D + 1 : Nat) : Int) + (k : Int)) = ((A + (B + (D + (1 + k))) : Nat) : Int) := by rw [wid (by omega) (by omega)]; omega
        have w4' : IntKind.i64.wrap ((j : Int) + 1) = (j : Int) + 1 := wid (by omega) (by omega)
        have hp0 : ((P : Int) == 0) = false := by simp; omega
        go_wp2_with fail
        refine hpq.mono ?_
        rintro e w5 ⟨rfl, hw5⟩
        subst hw5
        clear hpq
        go_wp2_with (simp only [hdv, w0, w1', w2', w3'])
        exact ⟨⟨j + 1, by omega, by go_num, by rw [HS.out]; go_num, trivial⟩, by simp [intOf]; omega⟩
      · obtain rfl : j = m := by omega
        have hlt' : ¬ (j : Int) < (j : Int) := by omega
        have HRR : Hid (Value.int .i64 ((A + fb (L.take j) k : Nat) : Int) = .int .i64 (R : Int)) := by
          show _ = _
          rw [HR.out, List.take_of_length_le (by rw [HLl.out.1]; omega)]
        generalize fb (L.take j) k = B at *
        go_wp2_with fail
        go_ret
        exact ⟨congrArg Ending.returned HRR.out, HB1.out⟩
end Go.Proofs.Ytdlcnbfiklbiiaa.Co
