/- The document's take and rice. -/
import Derived.Test.YtdlcnbfiklbiiaaCo33
import Derived.Test.YtdlcnbfiklbiiaaCoMath4
namespace Go.Proofs.Ytdlcnbfiklbiiaa.Co
open Go.RowKit Go.Maps Go.Sort
set_option linter.unusedVariables false
set_option linter.unusedSimpArgs false

theorem IL.nt {w : World} {S : Nat → Prop} {l : List Nat} {b off : Nat} (h : IL w S (some ⟨b, off, none⟩) (nts l)) (j : Nat) (hj : j < l.length) : w.cell? ⟨b, off + j, none⟩ = some (.int .i64 ((l.getD j 0 : Nat) : Int)) := by
  have h2 := h.getD rfl j (by rw [nts_len]; exact hj)
  have e : (nts l).getD j 0 = ((l.getD j 0 : Nat) : Int) := by
    unfold nts
    rw [List.getD_eq_getElem?_getD, List.getD_eq_getElem?_getD, List.getElem?_map, List.getElem?_eq_getElem hj]; rfl
  rw [e] at h2; exact h2
theorem va_take2 (l : List Nat) (a j : Nat) (h : a + j < l.length) : va ((l.drop a).take (j + 1)) = 2 * va ((l.drop a).take j) + l.getD (a + j) 0 := by
  rw [List.take_add_one, List.getElem?_drop, List.getElem?_eq_getElem h, List.getD_eq_getElem?_getD, List.getElem?_eq_getElem h]
  exact va_snoc _ _
set_option maxRecDepth 8000 in
set_option maxHeartbeats 4000000 in
theorem take_any (l : List Nat) (S : Nat → Prop) (xa : Option Addr) (n c a m : Nat) (w : World) (hI : IL w S xa (nts l)) (hn : l.length = n) (hc : n ≤ c) (hc2 : c ≤ 9223372036854775807) (hb : bits2 l) (ha : a ≤ n + 1) (hm : m ≤ 24) (hn2 : n ≤ 1099511627776) :
    Calls Try.prog 44 #[.slice xa n c, .int .i64 (a : Int), .int .i64 (m : Int)] w fun e w' => e = .returned (.tuple #[.int .i64 (((tk l a m).1 : Nat) : Int), .int .i64 (((tk l a m).2.1 : Nat) : Int), .bool (tk l a m).2.2]) ∧ Below w.heap.size w w' := by
  obtain ⟨T, hT⟩ : ∃ T, T = tk l a m := ⟨_, rfl⟩
  rw [← hT]
  have w1 : IntKind.i64.wrap ((a : Int) + (m : Int)) = ((a + m : Nat) : Int) := by rw [wid (by omega) (by omega)]; omega
  obtain ⟨E, hE⟩ : ∃ E, E = a + m := ⟨_, rfl⟩
  rw [← hE] at w1
  by_cases d : a + m ≤ n
  · have HT : Hid (T = (va ((l.drop a).take m), E, true)) := by show _ = _; rw [hT, tk_yes (by omega), hE]
    have d' : ¬ (n : Int) < (E : Int) := by omega
    have HB : Hid (bits2 l) := hb
    have HN : Hid (l.length = n) := hn
    have HE : Hid (E = a + m) := hE
    have HI : Hid (IL w S xa (nts l)) := hI
    clear hT hb hI hn hE
    go_enter Try.func44, Try.ntmps44
    go_wp2_with (simp only [w1])
    go_loopw [10, 9] (fun i v wr => ∃ (j A : Nat), j ≤ m ∧ i = .int .i64 (j : Int) ∧ v = .int .i64 (A : Int) ∧ A < 16777216 ∧ Hid (A = va ((l.drop a).take j)) ∧ Hid (Below w.heap.size w wr)) (fun i _ _ => m - (intOf i).toNat)
    case atStart => exact ⟨0, 0, by omega, rfl, rfl, by omega, rfl, Below.refl _ _⟩
    case round =>
      obtain ⟨j, A, hj, rfl, rfl, hA, hV, hBe⟩ := hrel
      by_cases hlt : j < m
      · have hlt' : (j : Int) < (m : Int) := by omega
        obtain ⟨b, off, rfl, lb, _, _⟩ := HI.out.at' (by rw [nts_len, HN.out]; omega)
        obtain ⟨q, hq⟩ : ∃ q, q = a + j := ⟨_, rfl⟩
        have hqn : q < n := by omega
        have cx := (HI.out.bel hBe.out).nt q (by rw [HN.out]; exact hqn)
        have hx := getD_lt2 l HB.out q
        have hs := va_take2 l a j (by rw [HN.out]; omega)
        rw [← hq, ← hV.out] at hs
        have hvl : va ((l.drop a).take (j + 1)) < 16777216 := by
          have h1 := va_lt _ ((HB.out.drop a).take (j + 1))
          have h2 : ((l.drop a).take (j + 1)).length ≤ 24 := by rw [List.length_take]; omega
          have h3 : 2 ^ ((l.drop a).take (j + 1)).length ≤ 2 ^ 24 := Nat.pow_le_pow_right (by omega) h2
          omega
        rw [hs] at hvl
        have HS : Hid (2 * A + l.getD q 0 = va ((l.drop a).take (j + 1))) := hs.symm
        generalize l.getD q 0 = x at *
        obtain ⟨A2, hA2⟩ : ∃ A2, A2 = 2 * A + x := ⟨_, rfl⟩
        rw [← hA2] at HS hvl
        have w2 : IntKind.i64.wrap (2 * (A : Int)) = 2 * (A : Int) := wid (by omega) (by omega)
        have w3 : IntKind.i64.wrap (2 * (A : Int) + (x : Int)) = (A2 : Int) := by rw [wid (by omega) (by omega)]; omega
        have w4 : IntKind.i64.wrap ((a : Int) + (j : Int)) = (q : Int) := by rw [wid (by omega) (by omega)]; omega
        have w5 : IntKind.i64.wrap ((j : Int) + 1) = (j : Int) + 1 := wid (by omega) (by omega)
        have lbr : b < wr.heap.size := by have := hBe.out.size; omega
        clear hs hV hA2 hq lb
        go_wp2_with (simp only [w2, w3, w4])
        try go_region
        try go_wp2_with (simp only [w2, w3, w4])
        go_roundw
        case rel => exact ⟨j + 1, A2, by omega, by go_num, rfl, hvl, HS, hBe.out⟩
        case measure => simp [intOf]; omega
      · obtain rfl : j = m := by omega
        have hlt' : ¬ (j : Int) < (j : Int) := by omega
        have HV : Hid (T = (A, E, true)) := by show _ = _; rw [HT.out, hV.out]
        clear hV HT
        go_wp2_with (simp only [w1])
        go_returns
        exact ⟨by rw [HV.out]; go_num, hBe.out⟩
  · have HT : Hid (T = (0, a, false)) := by show _ = _; rw [hT, tk_no (by omega)]
    have d' : (n : Int) < (E : Int) := by omega
    clear hT hb hI hn hE
    go_enter Try.func44, Try.ntmps44
    go_wp2_with (simp only [w1])
    go_returns
    exact ⟨by rw [HT.out]; rfl, by go_grown⟩
end Go.Proofs.Ytdlcnbfiklbiiaa.Co
