/- The statement PitchTurns: the walk of its text. -/
import Derived.Test.YtchifnaafboefabDoorQW6
import Derived.Test.YtchifnaafboefabDoorQT3c
import Derived.Test.YtchifnaafboefabDoorQT10
namespace Go.Proofs.YtchifnaafboefabDoor
open Go.RowKit

/-- Either an interval has no name, or its name is read as it was. -/
theorem name_cases (s h : Int) :
    (∀ W, Tab W → Pows W → Calls Tryd.prog 9 #[.agg #[.int .i64 s, .int .i64 h]] W fun e w' => e = .returned (.tuple #[.string ⟨#[]⟩, .int .i64 3]) ∧ Below W.heap.size W w') ∨
    (∃ T : ByteArray, (∀ W, Tab W → Pows W → Calls Tryd.prog 9 #[.agg #[.int .i64 s, .int .i64 h]] W fun e w' => e = .returned (.tuple #[.string T, .int .i64 0]) ∧ Below W.heap.size W w') ∧
      (∀ W, Tab W → Pows W → Calls Tryd.prog 10 #[.string T] W fun e w' => e = .returned (.tuple #[.agg #[.int .i64 s, .int .i64 h], .int .i64 0]) ∧ Below W.heap.size W w')) := by
  cases hi : M.inb s h
  · exact Or.inl fun W _ _ => Name_range s h W hi
  · by_cases hd : s < 0 ∨ (s = 0 ∧ h < 0)
    · by_cases hq : M.un (-s) (-h) ≤ 6
      · refine Or.inr ⟨M.ndn s h, fun W t p => Name_dn s h W t p hi hd hq, fun W t p => ?_⟩
        have hx := isName_dn s h hi (by omega) hq
        have := Named_dn _ _ _ _ _ _ _ _ _ W t p hx (fun W' t' p' => by rw [Int.neg_neg, Int.neg_neg]; exact Name_dn s h W' t' p' hi hd hq)
        rw [Int.neg_neg, Int.neg_neg] at this
        exact this
      · exact Or.inl fun W t p => Name_dnx s h W t p hi hd (by omega)
    · by_cases hq : M.un s h ≤ 6
      · refine Or.inr ⟨M.nup s h, fun W t p => Name_up s h W t p hi (by omega) (by omega) hq, fun W t p => ?_⟩
        exact Named_up _ _ _ _ _ _ _ _ _ W t p (isName_up s h hi (by omega) hq) (fun W' t' p' => Name_up s h W' t' p' hi (by omega) (by omega) hq)
      · exact Or.inl fun W t p => Name_upx s h W t p hi (by omega) (by omega) (by omega)

set_option maxRecDepth 100000 in
set_option maxHeartbeats 4000000 in
theorem turns_walk (l a o s h : Int) (w : World) (ht : Tab w) (hpw : Pows w) (hsg : Sgs w) :
    Calls Tryd.prog 3 #[.agg #[.int .i64 l, .int .i64 a, .int .i64 o], .agg #[.int .i64 s, .int .i64 h]] w fun e w' => e = .returned (.bool true) ∧ Below w.heap.size w w' := by
  cases hr : M.rt l a o
  · rcases name_cases s h with hN | ⟨TT, hN, hD⟩
    case inl =>
      go_enter Tryd.func3, Tryd.ntmps3
      go_wp2_with fail
      refine (alive_any _ (ht.step (by go_grown))).mono ?_
      rintro e w1 ⟨rfl, hb1⟩
      have sz1 := hb1.size
      try simp at sz1
      have k1 : Below w.heap.size w w1 := Below.trans (by go_grown) (hb1.mono (by (first | (simp; done) | (simp; omega))))
      have h0w1 : Below w.heap.size w w1 := k1
      have Cp0 : w1.cell? ⟨w.heap.size, 0, none⟩ = some (.int .i64 l) := keepC hb1 (by (first | (simp; done) | (simp; omega))) (by simp [go_sem])
      have Cp1 : w1.cell? ⟨w.heap.size, 1, none⟩ = some (.int .i64 a) := keepC hb1 (by (first | (simp; done) | (simp; omega))) (by simp [go_sem])
      have Cp2 : w1.cell? ⟨w.heap.size, 2, none⟩ = some (.int .i64 o) := keepC hb1 (by (first | (simp; done) | (simp; omega))) (by simp [go_sem])
      have tCp : w.heap.size < w1.heap.size := by omega
      have Cv0 : w1.cell? ⟨w.heap.size + 1, 0, none⟩ = some (.int .i64 s) := keepC hb1 (by (first | (simp; done) | (simp; omega))) (by simp [go_sem])
      have Cv1 : w1.cell? ⟨w.heap.size + 1, 1, none⟩ = some (.int .i64 h) := keepC hb1 (by (first | (simp; done) | (simp; omega))) (by simp [go_sem])
      have tCv : w.heap.size + 1 < w1.heap.size := by omega
      go_wp2_with fail
      refine (Print_no l a o _ hr).mono ?_
      rintro e w2 ⟨rfl, hb2⟩
      have sz2 := hb2.size
      try simp at sz2
      have k2 : Below w1.heap.size w1 w2 := Below.trans (by go_grown) (hb2.mono (by (first | (simp; done) | (simp; omega))))
      have h0w2 : Below w.heap.size w w2 := h0w1.trans (k2.mono h0w1.size)
      replace Cp0 := keepC k2 (by omega) Cp0
      replace Cp1 := keepC k2 (by omega) Cp1
      replace Cp2 := keepC k2 (by omega) Cp2
      have tCp : w.heap.size < w2.heap.size := by omega
      replace Cv0 := keepC k2 (by omega) Cv0
      replace Cv1 := keepC k2 (by omega) Cv1
      have tCv : w.heap.size + 1 < w2.heap.size := by omega
      go_wp2_with fail
      refine (hN _ ((ht.step h0w2).step (by go_grown)) ((hpw.step h0w2).step (by go_grown))).mono ?_
      rintro e w3 ⟨rfl, hb3⟩
      have sz3 := hb3.size
      try simp at sz3
      have k3 : Below w2.heap.size w2 w3 := Below.trans (by go_grown) (hb3.mono (by (first | (simp; done) | (simp; omega))))
      have h0w3 : Below w.heap.size w w3 := h0w2.trans (k3.mono h0w2.size)
      replace Cp0 := keepC k3 (by omega) Cp0
      replace Cp1 := keepC k3 (by omega) Cp1
      replace Cp2 := keepC k3 (by omega) Cp2
      have tCp : w.heap.size < w3.heap.size := by omega
      replace Cv0 := keepC k3 (by omega) Cv0
      replace Cv1 := keepC k3 (by omega) Cv1
      have tCv : w.heap.size + 1 < w3.heap.size := by omega
      go_wp2_with fail
      go_ret
      exact ⟨rfl, Below.trans h0w3 (Below.mono (by go_grown) h0w3.size)⟩
    case inr =>
      go_enter Tryd.func3, Tryd.ntmps3
      go_wp2_with fail
      refine (alive_any _ (ht.step (by go_grown))).mono ?_
      rintro e w1 ⟨rfl, hb1⟩
      have sz1 := hb1.size
      try simp at sz1
      have k1 : Below w.heap.size w w1 := Below.trans (by go_grown) (hb1.mono (by (first | (simp; done) | (simp; omega))))
      have h0w1 : Below w.heap.size w w1 := k1
      have Cp0 : w1.cell? ⟨w.heap.size, 0, none⟩ = some (.int .i64 l) := keepC hb1 (by (first | (simp; done) | (simp; omega))) (by simp [go_sem])
      have Cp1 : w1.cell? ⟨w.heap.size, 1, none⟩ = some (.int .i64 a) := keepC hb1 (by (first | (simp; done) | (simp; omega))) (by simp [go_sem])
      have Cp2 : w1.cell? ⟨w.heap.size, 2, none⟩ = some (.int .i64 o) := keepC hb1 (by (first | (simp; done) | (simp; omega))) (by simp [go_sem])
      have tCp : w.heap.size < w1.heap.size := by omega
      have Cv0 : w1.cell? ⟨w.heap.size + 1, 0, none⟩ = some (.int .i64 s) := keepC hb1 (by (first | (simp; done) | (simp; omega))) (by simp [go_sem])
      have Cv1 : w1.cell? ⟨w.heap.size + 1, 1, none⟩ = some (.int .i64 h) := keepC hb1 (by (first | (simp; done) | (simp; omega))) (by simp [go_sem])
      have tCv : w.heap.size + 1 < w1.heap.size := by omega
      go_wp2_with fail
      refine (Print_no l a o _ hr).mono ?_
      rintro e w2 ⟨rfl, hb2⟩
      have sz2 := hb2.size
      try simp at sz2
      have k2 : Below w1.heap.size w1 w2 := Below.trans (by go_grown) (hb2.mono (by (first | (simp; done) | (simp; omega))))
      have h0w2 : Below w.heap.size w w2 := h0w1.trans (k2.mono h0w1.size)
      replace Cp0 := keepC k2 (by omega) Cp0
      replace Cp1 := keepC k2 (by omega) Cp1
      replace Cp2 := keepC k2 (by omega) Cp2
      have tCp : w.heap.size < w2.heap.size := by omega
      replace Cv0 := keepC k2 (by omega) Cv0
      replace Cv1 := keepC k2 (by omega) Cv1
      have tCv : w.heap.size + 1 < w2.heap.size := by omega
      go_wp2_with fail
      refine (hN _ ((ht.step h0w2).step (by go_grown)) ((hpw.step h0w2).step (by go_grown))).mono ?_
      rintro e w3 ⟨rfl, hb3⟩
      have sz3 := hb3.size
      try simp at sz3
      have k3 : Below w2.heap.size w2 w3 := Below.trans (by go_grown) (hb3.mono (by (first | (simp; done) | (simp; omega))))
      have h0w3 : Below w.heap.size w w3 := h0w2.trans (k3.mono h0w2.size)
      replace Cp0 := keepC k3 (by omega) Cp0
      replace Cp1 := keepC k3 (by omega) Cp1
      replace Cp2 := keepC k3 (by omega) Cp2
      have tCp : w.heap.size < w3.heap.size := by omega
      replace Cv0 := keepC k3 (by omega) Cv0
      replace Cv1 := keepC k3 (by omega) Cv1
      have tCv : w.heap.size + 1 < w3.heap.size := by omega
      go_wp2_with fail
      refine (hD _ ((ht.step h0w3).step (by go_grown)) ((hpw.step h0w3).step (by go_grown))).mono ?_
      rintro e w4 ⟨rfl, hb4⟩
      have sz4 := hb4.size
      try simp at sz4
      have k4 : Below w3.heap.size w3 w4 := Below.trans (by go_grown) (hb4.mono (by (first | (simp; done) | (simp; omega))))
      have h0w4 : Below w.heap.size w w4 := h0w3.trans (k4.mono h0w3.size)
      replace Cp0 := keepC k4 (by omega) Cp0
      replace Cp1 := keepC k4 (by omega) Cp1
      replace Cp2 := keepC k4 (by omega) Cp2
      have tCp : w.heap.size < w4.heap.size := by omega
      replace Cv0 := keepC k4 (by omega) Cv0
      replace Cv1 := keepC k4 (by omega) Cv1
      have tCv : w.heap.size + 1 < w4.heap.size := by omega
      go_wp2_with fail
      go_ret
      exact ⟨rfl, Below.trans h0w4 (Below.mono (by go_grown) h0w4.size)⟩
  · rcases name_cases s h with hN | ⟨TT, hN, hD⟩
    case inl =>
      go_enter Tryd.func3, Tryd.ntmps3
      go_wp2_with fail
      refine (alive_any _ (ht.step (by go_grown))).mono ?_
      rintro e w1 ⟨rfl, hb1⟩
      have sz1 := hb1.size
      try simp at sz1
      have k1 : Below w.heap.size w w1 := Below.trans (by go_grown) (hb1.mono (by (first | (simp; done) | (simp; omega))))
      have h0w1 : Below w.heap.size w w1 := k1
      have Cp0 : w1.cell? ⟨w.heap.size, 0, none⟩ = some (.int .i64 l) := keepC hb1 (by (first | (simp; done) | (simp; omega))) (by simp [go_sem])
      have Cp1 : w1.cell? ⟨w.heap.size, 1, none⟩ = some (.int .i64 a) := keepC hb1 (by (first | (simp; done) | (simp; omega))) (by simp [go_sem])
      have Cp2 : w1.cell? ⟨w.heap.size, 2, none⟩ = some (.int .i64 o) := keepC hb1 (by (first | (simp; done) | (simp; omega))) (by simp [go_sem])
      have tCp : w.heap.size < w1.heap.size := by omega
      have Cv0 : w1.cell? ⟨w.heap.size + 1, 0, none⟩ = some (.int .i64 s) := keepC hb1 (by (first | (simp; done) | (simp; omega))) (by simp [go_sem])
      have Cv1 : w1.cell? ⟨w.heap.size + 1, 1, none⟩ = some (.int .i64 h) := keepC hb1 (by (first | (simp; done) | (simp; omega))) (by simp [go_sem])
      have tCv : w.heap.size + 1 < w1.heap.size := by omega
      go_wp2_with fail
      refine (Print_yes l a o _ ((hsg.step h0w1).step (by go_grown)) ((hpw.step h0w1).step (by go_grown)) hr).mono ?_
      rintro e w2 ⟨rfl, hb2⟩
      have sz2 := hb2.size
      try simp at sz2
      have k2 : Below w1.heap.size w1 w2 := Below.trans (by go_grown) (hb2.mono (by (first | (simp; done) | (simp; omega))))
      have h0w2 : Below w.heap.size w w2 := h0w1.trans (k2.mono h0w1.size)
      replace Cp0 := keepC k2 (by omega) Cp0
      replace Cp1 := keepC k2 (by omega) Cp1
      replace Cp2 := keepC k2 (by omega) Cp2
      have tCp : w.heap.size < w2.heap.size := by omega
      replace Cv0 := keepC k2 (by omega) Cv0
      replace Cv1 := keepC k2 (by omega) Cv1
      have tCv : w.heap.size + 1 < w2.heap.size := by omega
      go_wp2_with fail
      refine (Read_ok _ _ _ _ _ l a o _ _ (isPitch_pr l a o hr)).mono ?_
      rintro e w3 ⟨rfl, hb3⟩
      have sz3 := hb3.size
      try simp at sz3
      have k3 : Below w2.heap.size w2 w3 := Below.trans (by go_grown) (hb3.mono (by (first | (simp; done) | (simp; omega))))
      have h0w3 : Below w.heap.size w w3 := h0w2.trans (k3.mono h0w2.size)
      replace Cp0 := keepC k3 (by omega) Cp0
      replace Cp1 := keepC k3 (by omega) Cp1
      replace Cp2 := keepC k3 (by omega) Cp2
      have tCp : w.heap.size < w3.heap.size := by omega
      replace Cv0 := keepC k3 (by omega) Cv0
      replace Cv1 := keepC k3 (by omega) Cv1
      have tCv : w.heap.size + 1 < w3.heap.size := by omega
      go_wp2_with fail
      refine (hN _ ((ht.step h0w3).step (by go_grown)) ((hpw.step h0w3).step (by go_grown))).mono ?_
      rintro e w4 ⟨rfl, hb4⟩
      have sz4 := hb4.size
      try simp at sz4
      have k4 : Below w3.heap.size w3 w4 := Below.trans (by go_grown) (hb4.mono (by (first | (simp; done) | (simp; omega))))
      have h0w4 : Below w.heap.size w w4 := h0w3.trans (k4.mono h0w3.size)
      replace Cp0 := keepC k4 (by omega) Cp0
      replace Cp1 := keepC k4 (by omega) Cp1
      replace Cp2 := keepC k4 (by omega) Cp2
      have tCp : w.heap.size < w4.heap.size := by omega
      replace Cv0 := keepC k4 (by omega) Cv0
      replace Cv1 := keepC k4 (by omega) Cv1
      have tCv : w.heap.size + 1 < w4.heap.size := by omega
      have Cr0 : w4.cell? ⟨w3.heap.size, 0, none⟩ = some (.int .i64 l) := keepC hb4 (by (first | (simp; done) | (simp; omega))) (by simp [go_sem])
      have Cr1 : w4.cell? ⟨w3.heap.size, 1, none⟩ = some (.int .i64 a) := keepC hb4 (by (first | (simp; done) | (simp; omega))) (by simp [go_sem])
      have Cr2 : w4.cell? ⟨w3.heap.size, 2, none⟩ = some (.int .i64 o) := keepC hb4 (by (first | (simp; done) | (simp; omega))) (by simp [go_sem])
      have tCr : w3.heap.size < w4.heap.size := by omega
      have Cf0 : w4.cell? ⟨w3.heap.size + 1, 0, none⟩ = some (.int .i64 0) := keepC hb4 (by (first | (simp; done) | (simp; omega))) (by simp [go_sem])
      have Cf1 : w4.cell? ⟨w3.heap.size + 1, 1, none⟩ = some (.int .i64 0) := keepC hb4 (by (first | (simp; done) | (simp; omega))) (by simp [go_sem])
      have tCf : w3.heap.size + 1 < w4.heap.size := by omega
      go_wp2_with fail
      go_ret
      exact ⟨rfl, Below.trans h0w4 (Below.mono (by go_grown) h0w4.size)⟩
    case inr =>
      go_enter Tryd.func3, Tryd.ntmps3
      go_wp2_with fail
      refine (alive_any _ (ht.step (by go_grown))).mono ?_
      rintro e w1 ⟨rfl, hb1⟩
      have sz1 := hb1.size
      try simp at sz1
      have k1 : Below w.heap.size w w1 := Below.trans (by go_grown) (hb1.mono (by (first | (simp; done) | (simp; omega))))
      have h0w1 : Below w.heap.size w w1 := k1
      have Cp0 : w1.cell? ⟨w.heap.size, 0, none⟩ = some (.int .i64 l) := keepC hb1 (by (first | (simp; done) | (simp; omega))) (by simp [go_sem])
      have Cp1 : w1.cell? ⟨w.heap.size, 1, none⟩ = some (.int .i64 a) := keepC hb1 (by (first | (simp; done) | (simp; omega))) (by simp [go_sem])
      have Cp2 : w1.cell? ⟨w.heap.size, 2, none⟩ = some (.int .i64 o) := keepC hb1 (by (first | (simp; done) | (simp; omega))) (by simp [go_sem])
      have tCp : w.heap.size < w1.heap.size := by omega
      have Cv0 : w1.cell? ⟨w.heap.size + 1, 0, none⟩ = some (.int .i64 s) := keepC hb1 (by (first | (simp; done) | (simp; omega))) (by simp [go_sem])
      have Cv1 : w1.cell? ⟨w.heap.size + 1, 1, none⟩ = some (.int .i64 h) := keepC hb1 (by (first | (simp; done) | (simp; omega))) (by simp [go_sem])
      have tCv : w.heap.size + 1 < w1.heap.size := by omega
      go_wp2_with fail
      refine (Print_yes l a o _ ((hsg.step h0w1).step (by go_grown)) ((hpw.step h0w1).step (by go_grown)) hr).mono ?_
      rintro e w2 ⟨rfl, hb2⟩
      have sz2 := hb2.size
      try simp at sz2
      have k2 : Below w1.heap.size w1 w2 := Below.trans (by go_grown) (hb2.mono (by (first | (simp; done) | (simp; omega))))
      have h0w2 : Below w.heap.size w w2 := h0w1.trans (k2.mono h0w1.size)
      replace Cp0 := keepC k2 (by omega) Cp0
      replace Cp1 := keepC k2 (by omega) Cp1
      replace Cp2 := keepC k2 (by omega) Cp2
      have tCp : w.heap.size < w2.heap.size := by omega
      replace Cv0 := keepC k2 (by omega) Cv0
      replace Cv1 := keepC k2 (by omega) Cv1
      have tCv : w.heap.size + 1 < w2.heap.size := by omega
      go_wp2_with fail
      refine (Read_ok _ _ _ _ _ l a o _ _ (isPitch_pr l a o hr)).mono ?_
      rintro e w3 ⟨rfl, hb3⟩
      have sz3 := hb3.size
      try simp at sz3
      have k3 : Below w2.heap.size w2 w3 := Below.trans (by go_grown) (hb3.mono (by (first | (simp; done) | (simp; omega))))
      have h0w3 : Below w.heap.size w w3 := h0w2.trans (k3.mono h0w2.size)
      replace Cp0 := keepC k3 (by omega) Cp0
      replace Cp1 := keepC k3 (by omega) Cp1
      replace Cp2 := keepC k3 (by omega) Cp2
      have tCp : w.heap.size < w3.heap.size := by omega
      replace Cv0 := keepC k3 (by omega) Cv0
      replace Cv1 := keepC k3 (by omega) Cv1
      have tCv : w.heap.size + 1 < w3.heap.size := by omega
      go_wp2_with fail
      refine (hN _ ((ht.step h0w3).step (by go_grown)) ((hpw.step h0w3).step (by go_grown))).mono ?_
      rintro e w4 ⟨rfl, hb4⟩
      have sz4 := hb4.size
      try simp at sz4
      have k4 : Below w3.heap.size w3 w4 := Below.trans (by go_grown) (hb4.mono (by (first | (simp; done) | (simp; omega))))
      have h0w4 : Below w.heap.size w w4 := h0w3.trans (k4.mono h0w3.size)
      replace Cp0 := keepC k4 (by omega) Cp0
      replace Cp1 := keepC k4 (by omega) Cp1
      replace Cp2 := keepC k4 (by omega) Cp2
      have tCp : w.heap.size < w4.heap.size := by omega
      replace Cv0 := keepC k4 (by omega) Cv0
      replace Cv1 := keepC k4 (by omega) Cv1
      have tCv : w.heap.size + 1 < w4.heap.size := by omega
      have Cr0 : w4.cell? ⟨w3.heap.size, 0, none⟩ = some (.int .i64 l) := keepC hb4 (by (first | (simp; done) | (simp; omega))) (by simp [go_sem])
      have Cr1 : w4.cell? ⟨w3.heap.size, 1, none⟩ = some (.int .i64 a) := keepC hb4 (by (first | (simp; done) | (simp; omega))) (by simp [go_sem])
      have Cr2 : w4.cell? ⟨w3.heap.size, 2, none⟩ = some (.int .i64 o) := keepC hb4 (by (first | (simp; done) | (simp; omega))) (by simp [go_sem])
      have tCr : w3.heap.size < w4.heap.size := by omega
      have Cf0 : w4.cell? ⟨w3.heap.size + 1, 0, none⟩ = some (.int .i64 0) := keepC hb4 (by (first | (simp; done) | (simp; omega))) (by simp [go_sem])
      have Cf1 : w4.cell? ⟨w3.heap.size + 1, 1, none⟩ = some (.int .i64 0) := keepC hb4 (by (first | (simp; done) | (simp; omega))) (by simp [go_sem])
      have tCf : w3.heap.size + 1 < w4.heap.size := by omega
      go_wp2_with fail
      refine (hD _ ((ht.step h0w4).step (by go_grown)) ((hpw.step h0w4).step (by go_grown))).mono ?_
      rintro e w5 ⟨rfl, hb5⟩
      have sz5 := hb5.size
      try simp at sz5
      have k5 : Below w4.heap.size w4 w5 := Below.trans (by go_grown) (hb5.mono (by (first | (simp; done) | (simp; omega))))
      have h0w5 : Below w.heap.size w w5 := h0w4.trans (k5.mono h0w4.size)
      replace Cp0 := keepC k5 (by omega) Cp0
      replace Cp1 := keepC k5 (by omega) Cp1
      replace Cp2 := keepC k5 (by omega) Cp2
      have tCp : w.heap.size < w5.heap.size := by omega
      replace Cv0 := keepC k5 (by omega) Cv0
      replace Cv1 := keepC k5 (by omega) Cv1
      have tCv : w.heap.size + 1 < w5.heap.size := by omega
      replace Cr0 := keepC k5 (by omega) Cr0
      replace Cr1 := keepC k5 (by omega) Cr1
      replace Cr2 := keepC k5 (by omega) Cr2
      have tCr : w3.heap.size < w5.heap.size := by omega
      replace Cf0 := keepC k5 (by omega) Cf0
      replace Cf1 := keepC k5 (by omega) Cf1
      have tCf : w3.heap.size + 1 < w5.heap.size := by omega
      go_wp2_with fail
      go_ret
      exact ⟨rfl, Below.trans h0w5 (Below.mono (by go_grown) h0w5.size)⟩

end Go.Proofs.YtchifnaafboefabDoor
