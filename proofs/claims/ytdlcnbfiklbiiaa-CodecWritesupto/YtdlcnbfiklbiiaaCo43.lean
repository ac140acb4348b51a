/- The document's rice. -/
import Derived.Test.YtdlcnbfiklbiiaaCo41
namespace Go.Proofs.Ytdlcnbfiklbiiaa.Co
open Go.RowKit Go.Maps Go.Sort
set_option linter.unusedVariables false
set_option linter.unusedSimpArgs false

theorem On.zero (l : List Nat) (a : Nat) (h : a ≤ l.length) : On l a 0 := ⟨by omega, fun i hi => by omega⟩
theorem On.succ {l : List Nat} {a u : Nat} (h : On l a u) (hl : a + u < l.length) (h1 : l.getD (a + u) 0 = 1) : On l a (u + 1) := ⟨by omega, fun i hi => by
  by_cases c : i = u
  · rw [c]; exact h1
  · exact h.one i (by omega)⟩
set_option maxRecDepth 8000 in
set_option maxHeartbeats 4000000 in
theorem rice_any (l : List Nat) (S : Nat → Prop) (xa : Option Addr) (n c a k : Nat) (w : World) (hI : IL w S xa (nts l)) (hn : l.length = n) (hc : n ≤ c) (hc2 : c ≤ 9223372036854775807) (hb : bits2 l) (ha : a ≤ n) (hk : k ≤ 15) (hn2 : n ≤ 1099511627776) :
    Calls Try.prog 45 #[.slice xa n c, .int .i64 (a : Int), .int .i64 (k : Int)] w fun e w' => ∃ u, Ones l a u ∧ e = .returned (.tuple #[.int .i64 (((ri l a k u).1 : Nat) : Int), .int .i64 (((ri l a k u).2.1 : Nat) : Int), .bool (ri l a k u).2.2]) ∧ Below w.heap.size w w' := by
  have HB : Hid (bits2 l) := hb
  have HN : Hid (l.length = n) := hn
  have HI : Hid (IL w S xa (nts l)) := hI
  have H0 : Hid (On l a 0) := On.zero l a (by omega)
  clear hb hI hn
  go_enter Try.func45, Try.ntmps45
  go_wp2_with fail
  go_loopw [1, 9] (fun i v wr => ∃ (u q : Nat), q ≤ n ∧ u ≤ n ∧ i = .int .i64 (q : Int) ∧ v = .int .i64 (u : Int) ∧ Hid (q = a + u) ∧ Hid (On l a u) ∧ Hid (Below w.heap.size w wr)) (fun i _ _ => n - (intOf i).toNat)
  case atStart => exact ⟨0, a, ha, by omega, rfl, rfl, rfl, H0, Below.refl _ _⟩
  case round =>
    obtain ⟨u, q, hq, hu, rfl, rfl, hqe, hO, hBe⟩ := hrel
    by_cases hlt : q < n
    · have hlt' : (q : Int) < (n : Int) := by omega
      obtain ⟨b, off, rfl, lb, _, _⟩ := HI.out.at' (by rw [nts_len, HN.out]; omega)
      have hIr := HI.out.bel hBe.out
      have cx := hIr.nt q (by rw [HN.out]; exact hlt)
      have hx := getD_lt2 l HB.out q
      obtain ⟨x, hxe⟩ : ∃ x, x = l.getD q 0 := ⟨_, rfl⟩
      have HX : Hid (x = l.getD q 0) := hxe
      rw [← hxe] at cx hx
      have lbr : b < wr.heap.size := by have := hBe.out.size; omega
      clear hxe lb
      by_cases h1 : x = 1
      · subst h1
        have hO2 : Hid (On l a (u + 1)) := On.succ hO.out (by have := hqe.out; rw [HN.out]; omega) (by have := hqe.out; rw [← this]; exact HX.out.symm)
        have w5 : IntKind.i64.wrap ((q : Int) + 1) = (q : Int) + 1 := wid (by omega) (by omega)
        have w6 : IntKind.i64.wrap ((u : Int) + 1) = (u : Int) + 1 := wid (by omega) (by omega)
        have hun : u + 1 ≤ n := by have := hO2.out.le; rw [HN.out] at this; omega
        have HQ : Hid (q + 1 = a + (u + 1)) := by show _ = _; have := hqe.out; omega
        clear hO hIr hqe
        go_wp2_with fail
        try go_quiet (fail)
        try go_wp2_with fail
        go_roundw
        case rel => exact ⟨u + 1, q + 1, by omega, hun, by go_num, by go_num, HQ, hO2, by first | exact hBe | (exact below_drewN hBe.out _)⟩
        case measure => simp [intOf]; omega
      · have hx0 : x = 0 := by omega
        subst hx0
        have HOn : Hid (Ones l a u) := ⟨hO.out, fun _ => by rw [← hqe.out, ← HX.out]; omega⟩
        have hne : ¬ (q : Int) = (n : Int) := by omega
        have w5 : IntKind.i64.wrap ((q : Int) + 1) = ((q + 1 : Nat) : Int) := by rw [wid (by omega) (by omega)]; omega
        have hqt : ∀ w', Below w.heap.size w w' → Calls Try.prog 44 #[.slice (some ⟨b, off, none⟩) n c, .int .i64 ((q + 1 : Nat) : Int), .int .i64 (k : Int)] w' fun e w2 => e = .returned (.tuple #[.int .i64 (((tk l (q + 1) k).1 : Nat) : Int), .int .i64 (((tk l (q + 1) k).2.1 : Nat) : Int), .bool (tk l (q + 1) k).2.2]) ∧ Below w'.heap.size w' w2 := fun w' h => take_any l S _ n c (q + 1) k w' (HI.out.bel h) HN.out hc hc2 HB.out (by omega) (by omega) hn2
        have hT1 := tk_lt l (q + 1) k HB.out
        have HR : Hid (ri l a k u = (u * 2 ^ k + (tk l (q + 1) k).1, (tk l (q + 1) k).2.1, (tk l (q + 1) k).2.2)) := by
          show _ = _; unfold ri; rw [if_neg (by have := hqe.out; rw [HN.out]; omega), ← hqe.out]
        have hpw := pow_le15 k hk
        have hqp := fun w' => power_any k w' (by omega)
        generalize tk l (q + 1) k = T at *
        generalize 2 ^ k = P at *
        obtain ⟨t1, t2, t3⟩ := T
        simp only at HR hqt hT1
        obtain ⟨M, hM⟩ : ∃ M, M = u * P := ⟨_, rfl⟩
        have hMb : M ≤ u * 32768 := by rw [hM]; exact Nat.mul_le_mul_left _ hpw
        have hMi : (u : Int) * (P : Int) = (M : Int) := by rw [hM]; push_cast; rfl
        rw [← hM] at HR
        have w7 : IntKind.i64.wrap ((u : Int) * (P : Int)) = (M : Int) := by rw [hMi, wid (by omega) (by omega)]
        have w7' : IntKind.i64.wrap (M : Int) = (M : Int) := wid (by omega) (by omega)
        have w8 : IntKind.i64.wrap ((M : Int) + (t1 : Int)) = ((M + t1 : Nat) : Int) := by rw [wid (by omega) (by omega)]; omega
        clear hIr hM hO hqe
        have HBe : Hid (Below w.heap.size w wr) := hBe
        go_wp2_with fail
        try go_quiet (fail)
        try go_wp2_with fail
        refine (hqt _ (by first | exact HBe.out | (exact below_drewN HBe.out _))).mono ?_
        rintro e w2 ⟨rfl, hb2⟩
        have HB2 : Hid (Below w.heap.size w w2) := (by first | exact HBe.out.trans (hb2.mono HBe.out.size) | exact (below_drewN HBe.out _).trans (hb2.mono (below_drewN HBe.out _).size))
        clear hqt hb2
        go_wp2_with fail
        refine (hqp _).mono ?_
        rintro e w3 ⟨rfl, rfl⟩
        clear hqp
        go_wp2_with (simp only [w7, w7', w8, hMi])
        go_returns
        refine ⟨u, HOn.out, ?_, HB2.out⟩
        rw [HR.out]
        first | (rfl; done) | (go_num; done) | (simp only [w8]; rfl)
    · obtain rfl : q = n := by omega
      have hlt' : ¬ (q : Int) < (q : Int) := by omega
      have HOn : Hid (Ones l a u) := ⟨hO.out, fun h => by have := hqe.out; rw [HN.out] at h; omega⟩
      have HR : Hid (ri l a k u = (0, q, false)) := by
        show _ = _; unfold ri; rw [if_pos (by have := hqe.out; rw [HN.out]; omega), ← hqe.out]
      have HBe : Hid (Below w.heap.size w wr) := hBe
      clear hO hqe
      go_wp2_with fail
      try go_quiet (fail)
      try go_wp2_with fail
      go_returns
      refine ⟨u, HOn.out, ?_, by first | exact HBe.out | (exact below_drewN HBe.out _)⟩
      rw [HR.out]; rfl
end Go.Proofs.Ytdlcnbfiklbiiaa.Co
