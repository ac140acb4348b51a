/- What the program's Name comes to. -/
import Derived.Test.YtmccbokjigjpnaaDoorQT6
namespace Go.Proofs.YtmccbokjigjpnaaDoor
open Go.RowKit Go.Lib Go.Joins
set_option linter.unusedSimpArgs false
set_option linter.unusedVariables false

namespace M
/-- How often the letter stands in the name of an interval that goes up; the text of its name. -/
def un (s h : Int) : Int := qn (pf s) (h - wh s)
def ut (s h : Int) : List UInt8 := List.replicate (un s h).toNat (qc (pf s) (h - wh s))
theorem qn_pos (p : Bool) (m : Int) : 1 ≤ qn p m := by unfold qn; repeat' split <;> omega
theorem un_pos (s h : Int) : 1 ≤ un s h := qn_pos _ _
def nup (s h : Int) : ByteArray := ⟨(ut s h ++ Lib.itoa (s + 1)).toArray⟩
def ndn (s h : Int) : ByteArray := ⟨([45] ++ ut (-s) (-h) ++ Lib.itoa (-s + 1)).toArray⟩
theorem rep1 (x : UInt8) (c : Nat) : Lib.repeatL [x] c = List.replicate c x := by
  have := Lib.repeatL_replicate x 1 c
  simpa using this
end M

theorem Name_range (s h : Int) (w : World) (hi : M.inb s h = false) :
    Calls Tryd.prog 19 #[.agg #[.int .i64 s, .int .i64 h]] w fun e w' => e = .returned (.tuple #[.string ⟨#[]⟩, .int .i64 3]) ∧ Below w.heap.size w w' := by
  go_enter Tryd.func19, Tryd.ntmps19
  go_wp2_with fail
  refine (bounded_any s h _).mono ?_
  rintro e w1 ⟨rfl, hb1⟩
  rw [hi]
  go_wp2_with fail
  go_returns
  exact ⟨rfl, Below.trans (by go_grown) (hb1.mono (by simp))⟩

set_option maxRecDepth 100000 in
set_option maxHeartbeats 2000000 in
theorem Name_up (s h : Int) (w : World) (ht : Tab w) (hpw : Pows w) (hi : M.inb s h = true) (hup : 0 ≤ s) (hu2 : s = 0 → 0 ≤ h) (hq : M.un s h ≤ 6) :
    Calls Tryd.prog 19 #[.agg #[.int .i64 s, .int .i64 h]] w fun e w' => e = .returned (.tuple #[.string (M.nup s h), .int .i64 0]) ∧ Below w.heap.size w w' := by
  have hi' := M.inb_yes hi
  have hpos := M.un_pos s h
  have hun : M.qn (M.pf s) (h - M.wh s) = M.un s h := rfl
  have hs0 : ¬ s < 0 := by omega
  have key : ((s == 0) = false) ∨ ((s == 0) = true ∧ ¬ h < 0) := by
    by_cases c : s = 0
    · right; exact ⟨by simp [c], by have := hu2 c; omega⟩
    · left; simp [c]
  clear hu2
  rcases key with b1 | ⟨b1, k2⟩
  all_goals
    obtain ⟨RR, hR, hRs⟩ : ∃ RR : ByteArray, (⟨(Lib.repeatL [M.qc (M.pf s) (h - M.wh s)] (M.un s h).toNat).toArray⟩ : ByteArray) = RR ∧ RR.size ≤ 6 := ⟨_, rfl, by rw [bsize, Lib.repeatL_length]; simp; omega⟩
    obtain ⟨II, hI, hIs⟩ : ∃ II : ByteArray, (⟨(Lib.itoa (s + 1)).toArray⟩ : ByteArray) = II ∧ II.size ≤ 21 := ⟨_, rfl, by rw [bsize]; exact Lib.itoa_length_le _ (by omega) (by omega)⟩
    have y1 : ¬ 9223372036854775807 < RR.size := by omega
    have y2 : ¬ 9223372036854775807 < RR.size + II.size := by omega
    have y3 : ¬ 9223372036854775807 < 1 + RR.size := by omega
    have y4 : ¬ 9223372036854775807 < 1 + RR.size + II.size := by omega
    have hcast : (((M.un s h).toNat : Nat) : Int) = M.un s h := by omega
    go_enter Tryd.func19, Tryd.ntmps19
    go_wp2_with fail
    refine (bounded_any _ _ _).mono ?_
    rintro e w1 ⟨rfl, hb1⟩
    rw [hi]
    have z1 := hb1.size
    simp at z1
    have hb01 : Below w.heap.size w w1 := Below.trans (by go_grown) (hb1.mono (by simp))
    have p0 : w1.cell? ⟨w.heap.size, 0, none⟩ = some (.int .i64 s) := keepC hb1 (by simp) (by simp [go_sem])
    have p1 : w1.cell? ⟨w.heap.size, 1, none⟩ = some (.int .i64 h) := keepC hb1 (by simp) (by simp [go_sem])
    have f0 : w1.frozen? ⟨w.heap.size, 0, none⟩ = false := keepF hb1 (by simp) (by simp [go_sem])
    have f1 : w1.frozen? ⟨w.heap.size, 1, none⟩ = false := keepF hb1 (by simp) (by simp [go_sem])
    have t1 : w.heap.size < w1.heap.size := by omega
    go_wp2_with fail
    refine (qualityOf_any _ _ _ (ht.step hb01) (by omega) (by omega) (by omega) (by omega)).mono ?_
    rintro e w3 ⟨rfl, hb3⟩
    rw [hun]
    have z3 := hb3.size
    replace p0 := keepC hb3 (by omega) p0
    replace p1 := keepC hb3 (by omega) p1
    have hb03 := hb01.trans (hb3.mono hb01.size)
    have t3 : w.heap.size < w3.heap.size := by omega
    go_wp2_with fail
    have mkS : ∀ w', Below w3.heap.size w3 w' → (Below w3.heap.size w3 w' ∧ w'.cell? ⟨w.heap.size, 0, none⟩ = some (.int .i64 s) ∧ w'.cell? ⟨w.heap.size, 1, none⟩ = some (.int .i64 h)) := fun w' k => ⟨k, keepC k t3 p0, keepC k t3 p1⟩
    go_region_held3 (fun w' => Below w3.heap.size w3 w' ∧ w'.cell? ⟨w.heap.size, 0, none⟩ = some (.int .i64 s) ∧ w'.cell? ⟨w.heap.size, 1, none⟩ = some (.int .i64 h))
      (first | exact mkS _ hbn | (refine mkS _ ?_; (solve | go_grown)))
      (first
        | (go_at_call 40; rw [← hcast]; refine (Tryd.strings_Repeat _ _ _ ?_ ?_).mono ?_; omega; (show 1 * _ ≤ _; omega); rintro e wa ⟨rfl, hba⟩; rw [show (ByteArray.mk #[M.qc (M.pf s) (h - M.wh s)]).data.toList = [M.qc (M.pf s) (h - M.wh s)] from rfl, hR]; have hbn : Below w3.heap.size w3 wa := Below.trans (by go_grown) (hba.mono (by simp)))
        | (go_at_call 35; rw [wid (show -9223372036854775808 ≤ s + 1 by omega) (by omega)]; refine (itoa_any _ _ ?_ ?_ ?_).mono ?_; exact (hpw.step hb03).step hbn; omega; omega; rintro e wb ⟨rfl, hbb⟩; rw [hI]; have hbn : Below w3.heap.size w3 wb := hbn.trans (hbb.mono hbn.size)))
    go_wp2_with fail
    go_returns
    refine ⟨congrArg (fun X => Ending.returned (.tuple #[.string X, .int .i64 0])) ?_, hb03.trans (hbn.mono hb03.size)⟩
    rw [← hR, ← hI]
    unfold M.nup M.ut
    apply ByteArray.ext
    simp [ByteArray.data_append, M.rep1]

set_option maxRecDepth 100000 in
set_option maxHeartbeats 2000000 in
theorem Name_upx (s h : Int) (w : World) (ht : Tab w) (hpw : Pows w) (hi : M.inb s h = true) (hup : 0 ≤ s) (hu2 : s = 0 → 0 ≤ h) (hq : 6 < M.un s h) :
    Calls Tryd.prog 19 #[.agg #[.int .i64 s, .int .i64 h]] w fun e w' => e = .returned (.tuple #[.string ⟨#[]⟩, .int .i64 3]) ∧ Below w.heap.size w w' := by
  have hi' := M.inb_yes hi
  have hpos := M.un_pos s h
  have hun : M.qn (M.pf s) (h - M.wh s) = M.un s h := rfl
  have hs0 : ¬ s < 0 := by omega
  have key : ((s == 0) = false) ∨ ((s == 0) = true ∧ ¬ h < 0) := by
    by_cases c : s = 0
    · right; exact ⟨by simp [c], by have := hu2 c; omega⟩
    · left; simp [c]
  clear hu2
  rcases key with b1 | ⟨b1, k2⟩
  all_goals
    go_enter Tryd.func19, Tryd.ntmps19
    go_wp2_with fail
    refine (bounded_any _ _ _).mono ?_
    rintro e w1 ⟨rfl, hb1⟩
    rw [hi]
    have z1 := hb1.size
    simp at z1
    have hb01 : Below w.heap.size w w1 := Below.trans (by go_grown) (hb1.mono (by simp))
    have p0 : w1.cell? ⟨w.heap.size, 0, none⟩ = some (.int .i64 s) := keepC hb1 (by simp) (by simp [go_sem])
    have p1 : w1.cell? ⟨w.heap.size, 1, none⟩ = some (.int .i64 h) := keepC hb1 (by simp) (by simp [go_sem])
    have f0 : w1.frozen? ⟨w.heap.size, 0, none⟩ = false := keepF hb1 (by simp) (by simp [go_sem])
    have f1 : w1.frozen? ⟨w.heap.size, 1, none⟩ = false := keepF hb1 (by simp) (by simp [go_sem])
    have t1 : w.heap.size < w1.heap.size := by omega
    go_wp2_with fail
    refine (qualityOf_any _ _ _ (ht.step hb01) (by omega) (by omega) (by omega) (by omega)).mono ?_
    rintro e w3 ⟨rfl, hb3⟩
    rw [hun]
    have z3 := hb3.size
    replace p0 := keepC hb3 (by omega) p0
    replace p1 := keepC hb3 (by omega) p1
    have hb03 := hb01.trans (hb3.mono hb01.size)
    have t3 : w.heap.size < w3.heap.size := by omega
    go_wp2_with fail
    go_returns
    exact ⟨rfl, hb03⟩

set_option maxRecDepth 100000 in
set_option maxHeartbeats 2000000 in
theorem Name_dn (s h : Int) (w : World) (ht : Tab w) (hpw : Pows w) (hi : M.inb s h = true) (hdn : s < 0 ∨ (s = 0 ∧ h < 0)) (hq : M.un (-s) (-h) ≤ 6) :
    Calls Tryd.prog 19 #[.agg #[.int .i64 s, .int .i64 h]] w fun e w' => e = .returned (.tuple #[.string (M.ndn s h), .int .i64 0]) ∧ Below w.heap.size w w' := by
  have hi' := M.inb_yes hi
  have hpos := M.un_pos (-s) (-h)
  have hun : M.qn (M.pf (-s)) ((-h) - M.wh (-s)) = M.un (-s) (-h) := rfl
  have key : (s < 0) ∨ (¬ s < 0 ∧ (s == 0) = true ∧ h < 0) := by
    rcases hdn with c | ⟨c, c2⟩
    · exact Or.inl c
    · exact Or.inr ⟨by omega, by simp [c], c2⟩
  have hle : s ≤ 0 := by omega
  clear hdn
  rcases key with k1 | ⟨k1, b1, k2⟩
  all_goals
    obtain ⟨RR, hR, hRs⟩ : ∃ RR : ByteArray, (⟨(Lib.repeatL [M.qc (M.pf (-s)) ((-h) - M.wh (-s))] (M.un (-s) (-h)).toNat).toArray⟩ : ByteArray) = RR ∧ RR.size ≤ 6 := ⟨_, rfl, by rw [bsize, Lib.repeatL_length]; simp; omega⟩
    obtain ⟨II, hI, hIs⟩ : ∃ II : ByteArray, (⟨(Lib.itoa ((-s) + 1)).toArray⟩ : ByteArray) = II ∧ II.size ≤ 21 := ⟨_, rfl, by rw [bsize]; exact Lib.itoa_length_le _ (by omega) (by omega)⟩
    have y1 : ¬ 9223372036854775807 < RR.size := by omega
    have y2 : ¬ 9223372036854775807 < RR.size + II.size := by omega
    have y3 : ¬ 9223372036854775807 < 1 + RR.size := by omega
    have y4 : ¬ 9223372036854775807 < 1 + RR.size + II.size := by omega
    have hcast : (((M.un (-s) (-h)).toNat : Nat) : Int) = M.un (-s) (-h) := by omega
    go_enter Tryd.func19, Tryd.ntmps19
    go_wp2_with fail
    refine (bounded_any _ _ _).mono ?_
    rintro e w1 ⟨rfl, hb1⟩
    rw [hi]
    have z1 := hb1.size
    simp at z1
    have hb01 : Below w.heap.size w w1 := Below.trans (by go_grown) (hb1.mono (by simp))
    have p0 : w1.cell? ⟨w.heap.size, 0, none⟩ = some (.int .i64 s) := keepC hb1 (by simp) (by simp [go_sem])
    have p1 : w1.cell? ⟨w.heap.size, 1, none⟩ = some (.int .i64 h) := keepC hb1 (by simp) (by simp [go_sem])
    have f0 : w1.frozen? ⟨w.heap.size, 0, none⟩ = false := keepF hb1 (by simp) (by simp [go_sem])
    have f1 : w1.frozen? ⟨w.heap.size, 1, none⟩ = false := keepF hb1 (by simp) (by simp [go_sem])
    have t1 : w.heap.size < w1.heap.size := by omega
    go_wp2_with fail
    refine (turned_any _ _ _ (by omega) (by omega) (by omega) (by omega)).mono ?_
    rintro e w2 ⟨rfl, hb2⟩
    have z2 := hb2.size
    replace p0 := keepC hb2 (by omega) p0
    replace p1 := keepC hb2 (by omega) p1
    replace f0 := keepF hb2 (by omega) f0
    replace f1 := keepF hb2 (by omega) f1
    have hb02 := hb01.trans (hb2.mono hb01.size)
    have t2 : w.heap.size < w2.heap.size := by omega
    have hset := (hb02.setCell (p := ⟨w.heap.size, 0, none⟩) (Nat.le_refl _) (.int .i64 (-s))).setCell (p := ⟨w.heap.size, 1, none⟩) (Nat.le_refl _) (.int .i64 (-h))
    go_wp2_with fail
    refine (qualityOf_any _ _ _ (ht.step hset) (by omega) (by omega) (by omega) (by omega)).mono ?_
    rintro e w3 ⟨rfl, hb3⟩
    rw [hun]
    have z3 := hb3.size
    have t3 : w.heap.size < w3.heap.size := by simp [World.setCell] at z3; omega
    have P0 : w3.cell? ⟨w.heap.size, 0, none⟩ = some (.int .i64 (-s)) := keepC hb3 (by simpa [World.setCell] using t2) (by simp [go_sem, p0])
    have P1 : w3.cell? ⟨w.heap.size, 1, none⟩ = some (.int .i64 (-h)) := keepC hb3 (by simpa [World.setCell] using t2) (by simp [go_sem, p1])
    clear p0 p1
    have p0 := P0
    have p1 := P1
    clear P0 P1
    have hb03 := hset.trans (hb3.mono hset.size)
    go_wp2_with fail
    have mkS : ∀ w', Below w3.heap.size w3 w' → (Below w3.heap.size w3 w' ∧ w'.cell? ⟨w.heap.size, 0, none⟩ = some (.int .i64 (-s)) ∧ w'.cell? ⟨w.heap.size, 1, none⟩ = some (.int .i64 (-h))) := fun w' k => ⟨k, keepC k t3 p0, keepC k t3 p1⟩
    go_region_held3 (fun w' => Below w3.heap.size w3 w' ∧ w'.cell? ⟨w.heap.size, 0, none⟩ = some (.int .i64 (-s)) ∧ w'.cell? ⟨w.heap.size, 1, none⟩ = some (.int .i64 (-h)))
      (first | exact mkS _ hbn | (refine mkS _ ?_; (solve | go_grown)))
      (first
        | (go_at_call 40; rw [← hcast]; refine (Tryd.strings_Repeat _ _ _ ?_ ?_).mono ?_; omega; (show 1 * _ ≤ _; omega); rintro e wa ⟨rfl, hba⟩; rw [show (ByteArray.mk #[M.qc (M.pf (-s)) ((-h) - M.wh (-s))]).data.toList = [M.qc (M.pf (-s)) ((-h) - M.wh (-s))] from rfl, hR]; have hbn : Below w3.heap.size w3 wa := Below.trans (by go_grown) (hba.mono (by simp)))
        | (go_at_call 35; rw [wid (show -9223372036854775808 ≤ (-s) + 1 by omega) (by omega)]; refine (itoa_any _ _ ?_ ?_ ?_).mono ?_; exact (hpw.step hb03).step hbn; omega; omega; rintro e wb ⟨rfl, hbb⟩; rw [hI]; have hbn : Below w3.heap.size w3 wb := hbn.trans (hbb.mono hbn.size)))
    go_wp2_with fail
    go_returns
    refine ⟨congrArg (fun X => Ending.returned (.tuple #[.string X, .int .i64 0])) ?_, hb03.trans (hbn.mono hb03.size)⟩
    rw [← hR, ← hI]
    unfold M.ndn M.ut
    apply ByteArray.ext
    simp [ByteArray.data_append, M.rep1]

set_option maxRecDepth 100000 in
set_option maxHeartbeats 2000000 in
theorem Name_dnx (s h : Int) (w : World) (ht : Tab w) (hpw : Pows w) (hi : M.inb s h = true) (hdn : s < 0 ∨ (s = 0 ∧ h < 0)) (hq : 6 < M.un (-s) (-h)) :
    Calls Tryd.prog 19 #[.agg #[.int .i64 s, .int .i64 h]] w fun e w' => e = .returned (.tuple #[.string ⟨#[]⟩, .int .i64 3]) ∧ Below w.heap.size w w' := by
  have hi' := M.inb_yes hi
  have hpos := M.un_pos (-s) (-h)
  have hun : M.qn (M.pf (-s)) ((-h) - M.wh (-s)) = M.un (-s) (-h) := rfl
  have key : (s < 0) ∨ (¬ s < 0 ∧ (s == 0) = true ∧ h < 0) := by
    rcases hdn with c | ⟨c, c2⟩
    · exact Or.inl c
    · exact Or.inr ⟨by omega, by simp [c], c2⟩
  have hle : s ≤ 0 := by omega
  clear hdn
  rcases key with k1 | ⟨k1, b1, k2⟩
  all_goals
    go_enter Tryd.func19, Tryd.ntmps19
    go_wp2_with fail
    refine (bounded_any _ _ _).mono ?_
    rintro e w1 ⟨rfl, hb1⟩
    rw [hi]
    have z1 := hb1.size
    simp at z1
    have hb01 : Below w.heap.size w w1 := Below.trans (by go_grown) (hb1.mono (by simp))
    have p0 : w1.cell? ⟨w.heap.size, 0, none⟩ = some (.int .i64 s) := keepC hb1 (by simp) (by simp [go_sem])
    have p1 : w1.cell? ⟨w.heap.size, 1, none⟩ = some (.int .i64 h) := keepC hb1 (by simp) (by simp [go_sem])
    have f0 : w1.frozen? ⟨w.heap.size, 0, none⟩ = false := keepF hb1 (by simp) (by simp [go_sem])
    have f1 : w1.frozen? ⟨w.heap.size, 1, none⟩ = false := keepF hb1 (by simp) (by simp [go_sem])
    have t1 : w.heap.size < w1.heap.size := by omega
    go_wp2_with fail
    refine (turned_any _ _ _ (by omega) (by omega) (by omega) (by omega)).mono ?_
    rintro e w2 ⟨rfl, hb2⟩
    have z2 := hb2.size
    replace p0 := keepC hb2 (by omega) p0
    replace p1 := keepC hb2 (by omega) p1
    replace f0 := keepF hb2 (by omega) f0
    replace f1 := keepF hb2 (by omega) f1
    have hb02 := hb01.trans (hb2.mono hb01.size)
    have t2 : w.heap.size < w2.heap.size := by omega
    have hset := (hb02.setCell (p := ⟨w.heap.size, 0, none⟩) (Nat.le_refl _) (.int .i64 (-s))).setCell (p := ⟨w.heap.size, 1, none⟩) (Nat.le_refl _) (.int .i64 (-h))
    go_wp2_with fail
    refine (qualityOf_any _ _ _ (ht.step hset) (by omega) (by omega) (by omega) (by omega)).mono ?_
    rintro e w3 ⟨rfl, hb3⟩
    rw [hun]
    have z3 := hb3.size
    have t3 : w.heap.size < w3.heap.size := by simp [World.setCell] at z3; omega
    have P0 : w3.cell? ⟨w.heap.size, 0, none⟩ = some (.int .i64 (-s)) := keepC hb3 (by simpa [World.setCell] using t2) (by simp [go_sem, p0])
    have P1 : w3.cell? ⟨w.heap.size, 1, none⟩ = some (.int .i64 (-h)) := keepC hb3 (by simpa [World.setCell] using t2) (by simp [go_sem, p1])
    clear p0 p1
    have p0 := P0
    have p1 := P1
    clear P0 P1
    have hb03 := hset.trans (hb3.mono hset.size)
    go_wp2_with fail
    go_returns
    exact ⟨rfl, hb03⟩

end Go.Proofs.YtmccbokjigjpnaaDoor
