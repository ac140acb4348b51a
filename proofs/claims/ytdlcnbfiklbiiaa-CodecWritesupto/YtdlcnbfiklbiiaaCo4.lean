/- What foldedBits and shortest come to. -/
import Derived.Test.YtdlcnbfiklbiiaaCo3
namespace Go.Proofs.Ytdlcnbfiklbiiaa.Co
open Go.RowKit Go.Maps Go.Sort
set_option linter.unusedVariables false
set_option linter.unusedSimpArgs false

def sh (l : List Nat) (k : Nat) : Nat := (l.map fun m => m / 2 ^ k).sum
theorem fb_sh (l : List Nat) (k : Nat) : fb l k = sh l k + l.length * (1 + k) := by
  unfold fb sh
  induction l with
  | nil => simp
  | cons x t ih => simp only [List.map_cons, List.sum_cons, List.length_cons, ih, Nat.add_mul]; omega
theorem sh_take (l : List Nat) (k j : Nat) (x : Nat) (h : l[j]? = some x) : sh (l.take (j + 1)) k = sh (l.take j) k + x / 2 ^ k := by
  unfold sh
  rw [List.take_add_one, h, List.map_append, List.sum_append]; simp
theorem sh_le (l : List Nat) (k : Nat) (h : ∀ m ∈ l, m < 524288) : sh l k ≤ l.length * 524288 := by
  unfold sh
  induction l with
  | nil => simp
  | cons x t ih =>
    have h1 := ih (fun m hm => h m (List.mem_cons_of_mem _ hm))
    have h2 := h x (List.mem_cons_self ..)
    have h3 := Nat.div_le_self x (2 ^ k)
    simp only [List.map_cons, List.sum_cons, List.length_cons, Nat.add_mul]; omega
set_option maxRecDepth 8000 in
set_option maxHeartbeats 4000000 in
theorem foldedBits_any (l : List Nat) (S : Nat → Prop) (xa : Option Addr) (n c k : Nat) (w : World) (hI : IL w S xa (nts l)) (hn : l.length = n) (hc : n ≤ c) (hc2 : c ≤ 9223372036854775807) (hr : ∀ m ∈ l, m < 524288) (hk : k ≤ 62) (hn2 : n ≤ 65536) :
    Calls Try.prog 57 #[.slice xa n c, .int .i64 (k : Int)] w fun e w' => e = .returned (.int .i64 (fb l k : Nat)) ∧ w' = w := by
  have HI : Hid (IL w S xa (nts l)) := hI
  have HR : Hid (∀ m ∈ l, m < 524288) := hr
  have HN : Hid (l.length = n) := hn
  clear hI hr hn
  obtain ⟨M, hM⟩ : ∃ M, M = n * (1 + k) := ⟨_, rfl⟩
  have hMb : M ≤ 65536 * 63 := by rw [hM]; exact Nat.mul_le_mul hn2 (by omega)
  have wM : IntKind.i64.wrap ((n : Int) * (1 + (k : Int))) = (M : Int) := by
    have e : (n : Int) * (1 + (k : Int)) = (M : Int) := by rw [hM]; push_cast; rfl
    rw [e]; exact wid (by omega) (by omega)
  have HM : Hid (M = n * (1 + k)) := hM
  clear hM
  go_enter Try.func57, Try.ntmps57
  go_wp2_with (simp only [wM])
  go_loopw [15, 5] (fun i v wr => ∃ j : Nat, j ≤ n ∧ i = .int .i64 (j : Int) ∧ v = .int .i64 ((M + sh (l.take j) k : Nat) : Int) ∧ wr = w) (fun i _ _ => n - (intOf i).toNat)
  case atStart => exact ⟨0, by omega, rfl, by simp [sh], rfl⟩
  case round =>
    obtain ⟨j, hj, rfl, rfl, rfl⟩ := hrel
    by_cases hlt : j < n
    · have hlt' : (j : Int) < (n : Int) := by omega
      obtain ⟨x, hx⟩ : ∃ x, l[j]? = some x := ⟨_, List.getElem?_eq_getElem (by rw [HN.out]; exact hlt)⟩
      have hxb := HR.out x (List.mem_of_getElem? hx)
      obtain ⟨b, off, rfl, lb, _, cc⟩ := HI.out.at' (by rw [nts_len, HN.out]; omega)
      have cx := cc j (x : Int) (by unfold nts; rw [List.getElem?_map, hx]; rfl)
      have hst := sh_take l k j x hx
      have hsl := sh_le (l.take j) k (fun m hm => HR.out m (List.mem_of_mem_take hm))
      rw [List.length_take] at hsl
      have hsl2 : sh (l.take j) k ≤ 65536 * 524288 := Nat.le_trans hsl (Nat.mul_le_mul (by omega) (Nat.le_refl _))
      have hdx : x / 2 ^ k ≤ x := Nat.div_le_self _ _
      have ed : ((x : Int) / 2 ^ k) = ((x / 2 ^ k : Nat) : Int) := by push_cast; rfl
      have HS : Hid (sh (l.take (j + 1)) k = sh (l.take j) k + x / 2 ^ k) := hst
      clear cc hx hst hsl
      generalize sh (l.take j) k = A at *
      generalize x / 2 ^ k = D at *
      have w1 : IntKind.i64.wrap (((M + A : Nat) : Int) + (D : Int)) = ((M + (A + D) : Nat) : Int) := by rw [wid (by omega) (by omega)]; omega
      have w2 : IntKind.i64.wrap ((j : Int) + 1) = (j : Int) + 1 := wid (by omega) (by omega)
      go_wp2_with (simp only [ed, w1])
      go_roundw
      case rel => exact ⟨j + 1, by omega, by go_num, by rw [HS.out]; go_num, by first | rfl | trivial⟩
      case measure => simp [intOf]; omega
    · obtain rfl : j = n := by omega
      have hlt' : ¬ (j : Int) < (j : Int) := by omega
      have e : M + sh (l.take j) k = fb l k := by
        rw [List.take_of_length_le (by rw [HN.out]; omega), fb_sh, HN.out, HM.out]; omega
      rw [e]
      clear e
      go_wp2_with fail
      go_ret
      exact ⟨rfl, rfl⟩
/-- The fewest bits of the first n tries. -/
def stf (f : List Int) (n : Nat) : Int := if n = 0 then 9223372036854775807 else (lg f (bs f n).1 (bs f n).2 : Nat)
theorem lg_le (f : List Int) (hr : ∀ x ∈ f, inR x) (hn : f.length ≤ 256) (o k : Nat) (hk : k ≤ 62) : lg f o k ≤ 1099511627776 := by
  unfold lg
  rw [fb_sh]
  have h := sh_le (fal f o) k (fa_lt f hr o _)
  have h2 : (fal f o).length ≤ 256 := by unfold fal; rw [fa_len]; omega
  have h3 : (fal f o).length * 524288 ≤ 256 * 524288 := Nat.mul_le_mul_right _ h2
  have h4 : (fal f o).length * (1 + k) ≤ 256 * 63 := Nat.mul_le_mul h2 (by omega)
  omega
theorem bs_yes (f : List Int) (n : Nat) (hr : ∀ x ∈ f, inR x) (hn : f.length ≤ 256) (h : ((lg f (n / 16) (n % 16) : Nat) : Int) < stf f n) : bs f (n + 1) = (n / 16, n % 16) ∧ stf f (n + 1) = (lg f (n / 16) (n % 16) : Nat) := by
  have e : bs f (n + 1) = (n / 16, n % 16) := by
    by_cases c : n = 0
    · subst c; exact bs_one f
    · unfold stf at h
      rw [if_neg c] at h
      show (if _ then _ else _) = _
      rw [if_pos (by omega)]
  refine ⟨e, ?_⟩
  unfold stf; rw [if_neg (by omega), e]
theorem bs_no (f : List Int) (n : Nat) (hr : ∀ x ∈ f, inR x) (hn : f.length ≤ 256) (h : ¬ ((lg f (n / 16) (n % 16) : Nat) : Int) < stf f n) : bs f (n + 1) = bs f n ∧ stf f (n + 1) = stf f n := by
  have hb := lg_le f hr hn (n / 16) (n % 16) (by omega)
  have c : n ≠ 0 := fun c => by unfold stf at h; rw [if_pos c] at h; omega
  unfold stf at h
  rw [if_neg c] at h
  have e : bs f (n + 1) = bs f n := by
    show (if _ then _ else _) = _
    rw [if_neg (by omega)]
  refine ⟨e, ?_⟩
  unfold stf; rw [if_neg (by omega), if_neg c, e]
theorem stf_le (f : List Int) (n : Nat) (hr : ∀ x ∈ f, inR x) (hn : f.length ≤ 256) (h : n ≤ 64) : 0 ≤ stf f n ∧ stf f n ≤ 9223372036854775807 := by
  unfold stf
  by_cases c : n = 0
  · rw [if_pos c]; omega
  · rw [if_neg c]
    have := bs_ok f n h
    have hb := lg_le f hr hn (bs f n).1 (bs f n).2 (by omega)
    omega
/-- Two numbers in a block of their own. -/
structure CD (w : World) (b : Nat) (x y : Nat) : Prop where
  c0 : w.cell? ⟨b, 0, none⟩ = some (.int .i64 (x : Int))
  c1 : w.cell? ⟨b, 1, none⟩ = some (.int .i64 (y : Int))
  f0 : w.frozen? ⟨b, 0, none⟩ = false
  f1 : w.frozen? ⟨b, 1, none⟩ = false
theorem CD.keep {w w' : World} {b x y : Nat} (h : CD w b x y) (hb : w'.heap[b]? = w.heap[b]?) : CD w' b x y :=
  ⟨(World.cell?_of_block (w := w) (w' := w') (a := ⟨b, 0, none⟩) hb).trans h.c0, (World.cell?_of_block (w := w) (w' := w') (a := ⟨b, 1, none⟩) hb).trans h.c1, (World.frozen?_of_block (w := w) (w' := w') (a := ⟨b, 0, none⟩) hb).trans h.f0, (World.frozen?_of_block (w := w) (w' := w') (a := ⟨b, 1, none⟩) hb).trans h.f1⟩
theorem CD.put {w : World} {b x y : Nat} (h : CD w b x y) (x' y' : Nat) : CD ((w.setCell ⟨b, 0, none⟩ (.int .i64 (x' : Int))).setCell ⟨b, 1, none⟩ (.int .i64 (y' : Int))) b x' y' := by
  refine ⟨?_, ?_, by rw [World.frozen?_setCell, World.frozen?_setCell]; exact h.f0, by rw [World.frozen?_setCell, World.frozen?_setCell]; exact h.f1⟩
  · rw [World.cell?_setCell_other _ _ _ _ (by intro e; cases e)]; exact World.cell?_setCell_same' _ _ _ (by rw [h.c0]; rfl)
  · exact World.cell?_setCell_same' _ _ _ (by rw [World.cell?_setCell_other _ _ _ _ (by intro e; cases e), h.c1]; rfl)
theorem CD.lt {w : World} {b x y : Nat} (h : CD w b x y) : b < w.heap.size := lt_cell h.c0
theorem put_blk (w : World) (b : Nat) (x y : Value) (k : Nat) (h : k ≠ b) : ((w.setCell ⟨b, 0, none⟩ x).setCell ⟨b, 1, none⟩ y).heap[k]? = w.heap[k]? := by
  rw [Below.heap_setCell _ _ _ _ (by show k ≠ b; exact h), Below.heap_setCell _ _ _ _ (by show k ≠ b; exact h)]
theorem put_bel (B : Nat) (w : World) (b : Nat) (x y : Value) (h : B ≤ b) : Below B w ((w.setCell ⟨b, 0, none⟩ x).setCell ⟨b, 1, none⟩ y) :=
  ((Below.refl B w).setCell (p := ⟨b, 0, none⟩) h _).setCell (p := ⟨b, 1, none⟩) h _
theorem min_is (x y : Nat) : (if y < x then (y : Int) else (x : Int)) = ((min x y : Nat) : Int) := by
  by_cases c : y < x
  · rw [if_pos c, Nat.min_eq_right (by omega)]
  · rw [if_neg c, Nat.min_eq_left (by omega)]
set_option maxRecDepth 8000 in
set_option maxHeartbeats 8000000 in
theorem shortest_any (f : List Int) (S : Nat → Prop) (xa : Option Addr) (n c : Nat) (w : World) (hI : IL w S xa f) (hn : f.length = n) (hc : n ≤ c) (hc2 : c ≤ 9223372036854775807) (hr : ∀ x ∈ f, inR x) (hn2 : n ≤ 256) :
    Calls Try.prog 35 #[.slice xa n c] w fun e w' => e = .returned (.agg #[.int .i64 ((be f).1 : Nat), .int .i64 ((be f).2 : Nat)]) ∧ Below w.heap.size w w' := by
  have HI : Hid (IL w S xa f) := hI
  have HR : Hid (∀ x ∈ f, inR x) := hr
  have HN : Hid (f.length = n) := hn
  have HN2 : Hid (f.length ≤ 256) := by show _ ≤ _; omega
  clear hI hr hn
  go_enter Try.func35, Try.ntmps35
  go_wp2_with fail
  obtain ⟨w0, hw0⟩ : ∃ w0, w0 = ((w.alloc (.cells #[.int .i64 0, .int .i64 0] 70)).alloc (.cells #[.int .i64 0, .int .i64 0] 70)) := ⟨_, rfl⟩
  have A0 : Hid (CD w0 w.heap.size 0 0) := by rw [hw0]; exact ⟨by simp [go_sem], by simp [go_sem], by simp [go_sem], by simp [go_sem]⟩
  have A1 : Hid (CD w0 (w.heap.size + 1) 0 0) := by rw [hw0]; exact ⟨by simp [go_sem], by simp [go_sem], by simp [go_sem], by simp [go_sem]⟩
  have AB : Hid (Below w.heap.size w w0) := by rw [hw0]; show Below _ _ _; go_grown
  rw [← hw0]
  clear hw0
  go_loopw [10, 4] (fun i fw wr => ∃ o : Nat, o ≤ 4 ∧ i = .int .i64 (o : Int) ∧ fw = .int .i64 (stf f (16 * o)) ∧ Hid (CD wr (w.heap.size + 1) (bs f (16 * o)).1 (bs f (16 * o)).2) ∧ Hid (CD wr w.heap.size 0 0) ∧ Hid (Below w.heap.size w wr)) (fun i _ _ => 4 - (intOf i).toNat)
  case atStart => exact ⟨0, by omega, rfl, rfl, A1, A0, AB⟩
  case round =>
    obtain ⟨o, ho, rfl, rfl, hC, hR, hB⟩ := hrel
    by_cases hlt : o < 4
    · have hlt' : (o : Int) < 4 := by omega
      have hmin := min_is o n
      have hmb : min o n ≤ 4 := by omega
      obtain ⟨mi, hmi⟩ : ∃ mi, mi = min o n := ⟨_, rfl⟩
      rw [← hmi] at hmin hmb
      have HMi : Hid (mi = min o n) := hmi
      have w1 : IntKind.i64.wrap (16 * (mi : Int)) = 16 * (mi : Int) := wid (by omega) (by omega)
      have hq := foldAll_any f S xa n c o wr (HI.out.bel hB.out) HN.out hc hc2 HR.out (by omega) (by omega)
      have hst := stf_le f (16 * o) HR.out HN2.out (by omega)
      clear hmi
      generalize hSV : stf f (16 * o) = SV at *
      have HSV : Hid (stf f (16 * o) = SV) := hSV
      clear hSV
      go_wp2_with fail
      refine hq.mono ?_
      rintro e w1' ⟨v, rfl, hv, hb1⟩
      obtain ⟨va, vc, rfl, v1, v2, v3, v4⟩ := IL.own hv (by rw [nts_len]; unfold fal; rw [fa_len, HN.out])
      have HV : Hid (IL w1' (fun b => wr.heap.size ≤ b) va (nts (fal f o))) := by
        refine v4.keep (fun _ _ _ => rfl) (Nat.le_refl _) (fun b hb _ => own_block hv b hb.symm)
      have hC1 : Hid (CD w1' (w.heap.size + 1) (bs f (16 * o)).1 (bs f (16 * o)).2) := hC.out.keep (hb1.block _ hC.out.lt)
      have hR1 : Hid (CD w1' w.heap.size 0 0) := hR.out.keep (hb1.block _ hR.out.lt)
      have hB1 : Hid (Below w.heap.size w w1') := hB.out.trans (hb1.mono hB.out.size)
      have hlr : Hid (w.heap.size + 1 < wr.heap.size) := hC.out.lt
      clear hq hv v4 hb1 hC hR hB
      go_wp2_with fail
      obtain ⟨w2r, hw2r⟩ : ∃ x, x = wr := ⟨wr, rfl⟩
      rw [← hw2r] at HV hlr
      clear hw2r
      go_loopw [21, 4] (fun i fw wr => ∃ k : Nat, k ≤ 16 ∧ i = .int .i64 (k : Int) ∧ fw = .int .i64 (stf f (16 * o + k)) ∧ Hid (CD wr (w.heap.size + 1) (bs f (16 * o + k)).1 (bs f (16 * o + k)).2) ∧ Hid (CD wr w.heap.size 0 0) ∧ Hid (Below w.heap.size w wr) ∧ Hid (IL wr (fun b => w2r.heap.size ≤ b) va (nts (fal f o)))) (fun i _ _ => 16 - (intOf i).toNat)
      case atStart => exact ⟨0, by omega, rfl, by rw [Nat.add_zero, HSV.out], by rw [Nat.add_zero]; exact hC1, hR1, hB1, HV⟩
      case round =>
        obtain ⟨k, hk, rfl, rfl, hC, hR, hB, hV⟩ := hrel
        by_cases hlk : k < 16
        · have hlk' : (k : Int) < 16 := by omega
          have hln : (fal f o).length = n - o := by unfold fal; rw [fa_len, HN.out]
          have hb := foldedBits_any (fal f o) _ va (n - o) vc k wr hV.out hln v1 v2 (fa_lt f HR.out o _) (by omega) (by omega)
          have hlg := lg_le f HR.out HN2.out o k (by omega)
          have hL : Hid (lg f o k = 16 * mi + fb (fal f o) k) := by show _ = _; unfold lg; rw [HN.out, HMi.out]
          have w2 : IntKind.i64.wrap (16 * (mi : Int) + ((fb (fal f o) k : Nat) : Int)) = ((lg f o k : Nat) : Int) := by rw [hL.out] at hlg ⊢; rw [wid (by omega) (by omega)]; omega
          have w3 : IntKind.i64.wrap ((k : Int) + 1) = (k : Int) + 1 := wid (by omega) (by omega)
          have hs2 := stf_le f (16 * o + k) HR.out HN2.out (by omega)
          have hyes := bs_yes f (16 * o + k) HR.out HN2.out
          have hno := bs_no f (16 * o + k) HR.out HN2.out
          rw [show (16 * o + k) / 16 = o by omega, show (16 * o + k) % 16 = k by omega] at hyes hno
          generalize hL2 : lg f o k = LG at *
          generalize hS2 : stf f (16 * o + k) = ST at *
          have HS2 : Hid (stf f (16 * o + k) = ST) := hS2
          clear hL2 hS2
          have lq : w.heap.size + 1 < wr.heap.size := hC.out.lt
          by_cases hcmp : (LG : Int) < ST
          · obtain ⟨y1, y2⟩ := hyes hcmp
            have HY : Hid (bs f (16 * o + (k + 1)) = (o, k) ∧ stf f (16 * o + (k + 1)) = (LG : Int)) := ⟨y1, y2⟩
            have d0 := hC.out.c0
            have d1 := hC.out.c1
            have g0 := hC.out.f0
            have g1 := hC.out.f1
            have HC : Hid (CD wr (w.heap.size + 1) (bs f (16 * o + k)).1 (bs f (16 * o + k)).2) := hC
            generalize (bs f (16 * o + k)).1 = B1 at *
            generalize (bs f (16 * o + k)).2 = B2 at *
            clear hyes hno y1 y2 hC hln hL
            go_wp2_with (simp only [w2])
            refine hb.mono ?_
            rintro e w5 ⟨rfl, hw5⟩
            subst hw5
            clear hb
            go_wp2_with (simp only [w2])
            have P1 : Hid (CD ((w5.setCell ⟨w.heap.size + 1, 0, none⟩ (.int .i64 (o : Int))).setCell ⟨w.heap.size + 1, 1, none⟩ (.int .i64 (k : Int))) (w.heap.size + 1) o k) := HC.out.put o k
            have P2 : Hid (CD ((w5.setCell ⟨w.heap.size + 1, 0, none⟩ (.int .i64 (o : Int))).setCell ⟨w.heap.size + 1, 1, none⟩ (.int .i64 (k : Int))) w.heap.size 0 0) := hR.out.keep (put_blk _ _ _ _ _ (by omega))
            have P3 : Hid (Below w.heap.size w ((w5.setCell ⟨w.heap.size + 1, 0, none⟩ (.int .i64 (o : Int))).setCell ⟨w.heap.size + 1, 1, none⟩ (.int .i64 (k : Int)))) := hB.out.trans (put_bel _ _ _ _ _ (by omega))
            have P4 : Hid (IL ((w5.setCell ⟨w.heap.size + 1, 0, none⟩ (.int .i64 (o : Int))).setCell ⟨w.heap.size + 1, 1, none⟩ (.int .i64 (k : Int))) (fun b => w2r.heap.size ≤ b) va (nts (fal f o))) := hV.out.keep (fun b hb _ => put_blk _ _ _ _ _ (by have := hlr.out; omega)) (by simp [World.setCell]) (fun _ h _ => h)
            clear hR hB hV HC d0 d1 g0 g1
            go_roundw
            case rel => exact ⟨k + 1, by omega, by go_num, by rw [HY.out.2], by rw [HY.out.1]; exact P1, P2, P3, P4⟩
            case measure => simp [intOf]; omega
          · obtain ⟨y1, y2⟩ := hno hcmp
            have HY : Hid (bs f (16 * o + (k + 1)) = bs f (16 * o + k) ∧ stf f (16 * o + (k + 1)) = ST) := ⟨y1, y2⟩
            clear hyes hno y1 y2 hln hL
            go_wp2_with (simp only [w2])
            refine hb.mono ?_
            rintro e w5 ⟨rfl, hw5⟩
            subst hw5
            clear hb
            go_wp2_with (simp only [w2])
            go_roundw
            case rel => exact ⟨k + 1, by omega, by go_num, by rw [HY.out.2], by rw [HY.out.1]; exact hC, hR, hB, hV⟩
            case measure => simp [intOf]; omega
        · have h16 : k = 16 := by omega
          subst h16
          have e : 16 * o + 16 = 16 * (o + 1) := by omega
          rw [e] at hC ⊢
          have w3 : IntKind.i64.wrap ((o : Int) + 1) = (o : Int) + 1 := wid (by omega) (by omega)
          clear hst
          generalize hS2 : stf f (16 * (o + 1)) = ST at *
          have HS2 : Hid (stf f (16 * (o + 1)) = ST) := hS2
          clear hS2
          go_wp2_with fail
          go_roundw
          case rel => exact ⟨o + 1, by omega, by go_num, by rw [HS2.out], hC, hR, hB⟩
          case measure => simp [intOf]; omega
    · have h4 : o = 4 := by omega
      subst h4
      have d0 := hC.out.c0
      have d1 := hC.out.c1
      have r0 := hR.out.c0
      have r1 := hR.out.c1
      have g0 := hR.out.f0
      have g1 := hR.out.f1
      have e : bs f (16 * 4) = be f := rfl
      rw [e] at d0 d1
      generalize stf f (16 * 4) = ST at *
      have HRr : Hid (CD wr w.heap.size 0 0) := hR
      clear hR hC e
      obtain ⟨B1, hB1⟩ : ∃ x, x = (be f).1 := ⟨_, rfl⟩
      obtain ⟨B2, hB2⟩ : ∃ x, x = (be f).2 := ⟨_, rfl⟩
      rw [← hB1] at d0
      rw [← hB2] at d1
      have HB12 : Hid (Value.agg #[.int .i64 (B1 : Int), .int .i64 (B2 : Int)] = .agg #[.int .i64 ((be f).1 : Nat), .int .i64 ((be f).2 : Nat)]) := by show _ = _; rw [hB1, hB2]
      clear hB1 hB2
      have lq : w.heap.size + 1 < wr.heap.size := lt_cell d0
      go_wp2_with fail
      have P3 : Hid (Below w.heap.size w ((wr.setCell ⟨w.heap.size, 0, none⟩ (.int .i64 (B1 : Int))).setCell ⟨w.heap.size, 1, none⟩ (.int .i64 (B2 : Int)))) := hB.out.trans (put_bel _ _ _ _ _ (by omega))
      have P1 := HRr.out.put B1 B2
      clear d0 d1 r0 r1 g0 g1
      obtain ⟨W, hW⟩ : ∃ W, W = ((wr.setCell ⟨w.heap.size, 0, none⟩ (.int .i64 (B1 : Int))).setCell ⟨w.heap.size, 1, none⟩ (.int .i64 (B2 : Int))) := ⟨_, rfl⟩
      rw [← hW] at P1 P3 ⊢
      clear hW
      have p0 := P1.c0
      have p1 := P1.c1
      have lW : w.heap.size < W.heap.size := P1.lt
      refine bodyPost_ret (v := .agg #[.int .i64 (B1 : Int), .int .i64 (B2 : Int)]) (by simp [results, Try.results35, go_sem, p0, p1, lW]) rfl ⟨congrArg Ending.returned HB12.out, P3.out⟩
end Go.Proofs.Ytdlcnbfiklbiiaa.Co
