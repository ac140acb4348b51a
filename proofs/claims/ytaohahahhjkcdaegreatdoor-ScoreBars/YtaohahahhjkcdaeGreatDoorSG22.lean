/- What the program's naming of an interval comes to, part by part. -/
import Derived.Test.YtaohahahhjkcdaeGreatDoorSG21
import Derived.Test.YtaohahahhjkcdaeGreatDoorSG6
import Derived.Test.YtaohahahhjkcdaeGreatDoorSG2
import Derived.Lib.Repeat
namespace Go.Proofs.YtaohahahhjkcdaeGreatDoor
open Go.RowKit Go.Lib Go.Joins
set_option linter.unusedSimpArgs false
set_option linter.unusedVariables false

namespace M
def pf (s : Int) : Bool := decide (s % 7 = 0) || (decide (s % 7 = 3) || decide (s % 7 = 4))
/-- The letter of an interval that goes up, and how often it stands there: m is what it is beyond its plain size. -/
def qc (p : Bool) (m : Int) : UInt8 := if 0 < m then 65 else if p = true then (if m = 0 then 80 else 100) else if m = 0 then 77 else if m = -1 then 109 else 100
def qn (p : Bool) (m : Int) : Int := if 0 < m then m else if p = true then (if m = 0 then 1 else -m) else if m = 0 then 1 else if m = -1 then 1 else -m - 1
end M

theorem plainSize_any (s : Int) (w : World) (ht : Tab w) (h1 : -1000 ≤ s) (h2 : s ≤ 1000) :
    Calls Tryz.prog 98 #[.int .i64 s] w fun e w' => e = .returned (.int .i64 (M.wh s)) ∧ Below w.heap.size w w' := by
  have e0 : M.hv (s % 7) 0 (s / 7) = M.wh s := by rw [M.hv_at]; omega
  go_enter Tryz.func98, Tryz.ntmps98
  go_wp2_with fail
  refine (plainAt_any s _ (by omega) (by omega)).mono ?_
  rintro e w1 ⟨rfl, hb1⟩
  go_wp2_with fail
  refine (halvesOf_any (s % 7) 0 (s / 7) _ (ht.step hb1) (by omega) (by omega) (by omega) (by omega) (by omega) (by omega)).mono ?_
  rintro e w2 ⟨rfl, hb2⟩
  go_wp2_with fail
  go_ret
  exact ⟨ret_int (by first | rfl | exact e0), hb1.trans (hb2.mono hb1.size)⟩

theorem isPerfect_any (s : Int) (w : World) (h1 : 0 ≤ s) (h2 : s ≤ 1000) :
    Calls Tryz.prog 99 #[.int .i64 s] w fun e w' => e = .returned (.bool (M.pf s)) ∧ w' = w := by
  have key : s % 7 = 0 ∨ s % 7 = 3 ∨ s % 7 = 4 ∨ (s % 7 ≠ 0 ∧ s % 7 ≠ 3 ∧ s % 7 ≠ 4) := by omega
  rcases key with h | h | h | ⟨g1, g2, g3⟩
  case inr.inr.inr =>
    have e : M.pf s = false := by unfold M.pf; simp [g1, g2, g3]
    have b1 : (s % 7 == 0) = false := by simp [g1]
    have b2 : (s % 7 == 3) = false := by simp [g2]
    have b3 : (s % 7 == 4) = false := by simp [g3]
    rw [e]
    clear g1 g2 g3 e
    go_enter Tryz.func99, Tryz.ntmps99
    go_wp2
    go_ret
    exact ⟨rfl, rfl⟩
  all_goals
    have e : M.pf s = true := by unfold M.pf; simp [h]
    rw [e]
    clear e
    go_enter Tryz.func99, Tryz.ntmps99
    go_wp2
    go_ret
    exact ⟨rfl, rfl⟩

theorem turned_any (s h : Int) (w : World) (h1 : -100000 ≤ s) (h2 : s ≤ 100000) (h3 : -100000 ≤ h) (h4 : h ≤ 100000) :
    Calls Tryz.prog 80 #[.agg #[.int .i64 s, .int .i64 h]] w fun e w' => e = .returned (.agg #[.int .i64 (-s), .int .i64 (-h)]) ∧ Below w.heap.size w w' := by
  go_enter Tryz.func80, Tryz.ntmps80
  go_wp2
  go_returns
  exact ⟨rfl, by go_grown⟩

set_option maxHeartbeats 1000000 in
theorem qualityOf_any (s h : Int) (w : World) (ht : Tab w) (h1 : 0 ≤ s) (h2 : s ≤ 1000) (h3 : -100000 ≤ h) (h4 : h ≤ 100000) :
    Calls Tryz.prog 81 #[.agg #[.int .i64 s, .int .i64 h]] w fun e w' => e = .returned (.tuple #[.string ⟨#[M.qc (M.pf s) (h - M.wh s)]⟩, .int .i64 (M.qn (M.pf s) (h - M.wh s))]) ∧ Below w.heap.size w w' := by
  have hwb := M.wh_bd s
  have hd : Below (w.heap.size + 1) (w.alloc (Obj.cells #[.int .i64 s, .int .i64 h] 59)) (w.alloc (Obj.cells #[.int .i64 s, .int .i64 h] 59)).drew := (Below.refl _ _).drew
  have mkS : ∀ w', Below (w.heap.size + 1) (w.alloc (Obj.cells #[.int .i64 s, .int .i64 h] 59)) w' → (Below w.heap.size w w' ∧ w'.cell? ⟨w.heap.size, 0, none⟩ = some (.int .i64 s) ∧ w'.cell? ⟨w.heap.size, 1, none⟩ = some (.int .i64 h)) := fun w' k =>
    ⟨Below.trans (by go_grown) (k.mono (by omega)), keepC k (by omega) (by simp [go_sem]), keepC k (by omega) (by simp [go_sem])⟩
  have key : (0 < h - M.wh s) ∨ (¬ 0 < h - M.wh s ∧ h - M.wh s = 0) ∨ (¬ 0 < h - M.wh s ∧ h - M.wh s ≠ 0 ∧ h - M.wh s = -1) ∨ (¬ 0 < h - M.wh s ∧ h - M.wh s ≠ 0 ∧ h - M.wh s ≠ -1) := by omega
  cases hp : M.pf s
  all_goals
    rcases key with k1 | ⟨k1, k2⟩ | ⟨k1, k2, k3⟩ | ⟨k1, k2, k3⟩
  all_goals
    generalize hm : h - M.wh s = m at *
    have hmb : -200000 ≤ m ∧ m ≤ 200000 := by omega
    first
      | (have b1 : (m == 0) = false := by simp [k2]
         have b2 : (m == -1) = false := by simp [k3])
      | (have b1 : (m == 0) = false := by simp [k2])
      | skip
    simp only [M.qc, M.qn, k1, if_true, if_false]
    try simp only [k2, if_true, if_false]
    try simp only [k3, if_true, if_false]
    go_enter Tryz.func81, Tryz.ntmps81
    go_wp2_with fail
    go_region_held3 (fun w' => Below w.heap.size w w' ∧ w'.cell? ⟨w.heap.size, 0, none⟩ = some (.int .i64 s) ∧ w'.cell? ⟨w.heap.size, 1, none⟩ = some (.int .i64 h))
      (first | exact mkS _ hbn | exact mkS _ hd)
      (first | (go_at_call 98; refine (plainSize_any s _ ?_ ?_ ?_).mono ?_; exact ht.step (Below.trans (by go_grown) (hd.mono (by omega))); omega; omega; rintro e wa ⟨rfl, hba⟩; have hbn : Below (w.heap.size + 1) (w.alloc (Obj.cells #[.int .i64 s, .int .i64 h] 59)) wa := hd.trans (hba.mono (by simp))))
    obtain ⟨c0, c1, c2⟩ := mkS _ hbn
    have cz : w.heap.size < wa.heap.size := by have := hbn.size; simp at this; omega
    first
      | rw [wid (show -9223372036854775808 ≤ m by omega) (by omega)]
      | rw [show IntKind.i64.wrap 0 = 0 from wid (by omega) (by omega)]
      | rw [show IntKind.i64.wrap (-1) = -1 from wid (by omega) (by omega)]
    go_wp2_with (go_at_call 99; refine (isPerfect_any _ _ (by omega) (by omega)).mono ?_; rintro e w' ⟨rfl, hw⟩; rw [hw, hp])
    go_returns
    exact ⟨by first | rfl | simp_all, c0⟩
end Go.Proofs.YtaohahahhjkcdaeGreatDoor

/- What the program's Name comes to. -/
namespace Go.Proofs.YtaohahahhjkcdaeGreatDoor
open Go.RowKit Go.Lib Go.Joins
set_option linter.unusedSimpArgs false
set_option linter.unusedVariables false

namespace M
/-- How often the letter stands in the name of an interval that goes up; the text of its name. -/
def un (s h : Int) : Int := qn (pf s) (h - wh s)
def ut (s h : Int) : List UInt8 := List.replicate (un s h).toNat (qc (pf s) (h - wh s))
theorem qn_pos (p : Bool) (m : Int) : 1 ≤ qn p m := by unfold qn; repeat' split <;> omega
theorem un_pos (s h : Int) : 1 ≤ un s h := qn_pos _ _
def nup (s h : Int) : ByteArray := ⟨(ut s h ++ Lib.itoa (s + 1)).toArray⟩
def ndn (s h : Int) : ByteArray := ⟨([45] ++ ut (-s) (-h) ++ Lib.itoa (-s + 1)).toArray⟩
theorem rep1 (x : UInt8) (c : Nat) : Lib.repeatL [x] c = List.replicate c x := by
  have := Lib.repeatL_replicate x 1 c
  simpa using this
end M

theorem Name_range (s h : Int) (w : World) (hi : M.inb s h = false) :
    Calls Tryz.prog 62 #[.agg #[.int .i64 s, .int .i64 h]] w fun e w' => e = .returned (.tuple #[.string ⟨#[]⟩, .int .i64 3]) ∧ Below w.heap.size w w' := by
  go_enter Tryz.func62, Tryz.ntmps62
  go_wp2_with fail
  refine (bounded_any s h _).mono ?_
  rintro e w1 ⟨rfl, hb1⟩
  rw [hi]
  go_wp2_with fail
  go_returns
  exact ⟨rfl, Below.trans (by go_grown) (hb1.mono (by simp))⟩

set_option maxRecDepth 100000 in
set_option maxHeartbeats 2000000 in
theorem Name_up (s h : Int) (w : World) (ht : Tab w) (hpw : Pows w) (hi : M.inb s h = true) (hup : 0 ≤ s) (hu2 : s = 0 → 0 ≤ h) (hq : M.un s h ≤ 6) :
    Calls Tryz.prog 62 #[.agg #[.int .i64 s, .int .i64 h]] w fun e w' => e = .returned (.tuple #[.string (M.nup s h), .int .i64 0]) ∧ Below w.heap.size w w' := by
  have hi' := M.inb_yes hi
  have hpos := M.un_pos s h
  have hun : M.qn (M.pf s) (h - M.wh s) = M.un s h := rfl
  have hs0 : ¬ s < 0 := by omega
  have key : ((s == 0) = false) ∨ ((s == 0) = true ∧ ¬ h < 0) := by
    by_cases c : s = 0
    · right; exact ⟨by simp [c], by have := hu2 c; omega⟩
    · left; simp [c]
  clear hu2
  rcases key with b1 | ⟨b1, k2⟩
  all_goals
    obtain ⟨RR, hR, hRs⟩ : ∃ RR : ByteArray, (⟨(Lib.repeatL [M.qc (M.pf s) (h - M.wh s)] (M.un s h).toNat).toArray⟩ : ByteArray) = RR ∧ RR.size ≤ 6 := ⟨_, rfl, by rw [bsize, Lib.repeatL_length]; simp; omega⟩
    obtain ⟨II, hI, hIs⟩ : ∃ II : ByteArray, (⟨(Lib.itoa (s + 1)).toArray⟩ : ByteArray) = II ∧ II.size ≤ 21 := ⟨_, rfl, by rw [bsize]; exact Lib.itoa_length_le _ (by omega) (by omega)⟩
    have y1 : ¬ 9223372036854775807 < RR.size := by omega
    have y2 : ¬ 9223372036854775807 < RR.size + II.size := by omega
    have y3 : ¬ 9223372036854775807 < 1 + RR.size := by omega
    have y4 : ¬ 9223372036854775807 < 1 + RR.size + II.size := by omega
    have hcast : (((M.un s h).toNat : Nat) : Int) = M.un s h := by omega
    go_enter Tryz.func62, Tryz.ntmps62
    go_wp2_with fail
    refine (bounded_any _ _ _).mono ?_
    rintro e w1 ⟨rfl, hb1⟩
    rw [hi]
    have z1 := hb1.size
    simp at z1
    have hb01 : Below w.heap.size w w1 := Below.trans (by go_grown) (hb1.mono (by simp))
    have p0 : w1.cell? ⟨w.heap.size, 0, none⟩ = some (.int .i64 s) := keepC hb1 (by simp) (by simp [go_sem])
    have p1 : w1.cell? ⟨w.heap.size, 1, none⟩ = some (.int .i64 h) := keepC hb1 (by simp) (by simp [go_sem])
    have f0 : w1.frozen? ⟨w.heap.size, 0, none⟩ = false := keepF hb1 (by simp) (by simp [go_sem])
    have f1 : w1.frozen? ⟨w.heap.size, 1, none⟩ = false := keepF hb1 (by simp) (by simp [go_sem])
    have t1 : w.heap.size < w1.heap.size := by omega
    go_wp2_with fail
    refine (qualityOf_any _ _ _ (ht.step hb01) (by omega) (by omega) (by omega) (by omega)).mono ?_
    rintro e w3 ⟨rfl, hb3⟩
    rw [hun]
    have z3 := hb3.size
    replace p0 := keepC hb3 (by omega) p0
    replace p1 := keepC hb3 (by omega) p1
    have hb03 := hb01.trans (hb3.mono hb01.size)
    have t3 : w.heap.size < w3.heap.size := by omega
    go_wp2_with fail
    have mkS : ∀ w', Below w3.heap.size w3 w' → (Below w3.heap.size w3 w' ∧ w'.cell? ⟨w.heap.size, 0, none⟩ = some (.int .i64 s) ∧ w'.cell? ⟨w.heap.size, 1, none⟩ = some (.int .i64 h)) := fun w' k => ⟨k, keepC k t3 p0, keepC k t3 p1⟩
    go_region_held3 (fun w' => Below w3.heap.size w3 w' ∧ w'.cell? ⟨w.heap.size, 0, none⟩ = some (.int .i64 s) ∧ w'.cell? ⟨w.heap.size, 1, none⟩ = some (.int .i64 h))
      (first | exact mkS _ hbn | (refine mkS _ ?_; (solve | go_grown)))
      (first
        | (go_at_call 82; rw [← hcast]; refine (Tryz.strings_Repeat _ _ _ ?_ ?_).mono ?_; omega; (show 1 * _ ≤ _; omega); rintro e wa ⟨rfl, hba⟩; rw [show (ByteArray.mk #[M.qc (M.pf s) (h - M.wh s)]).data.toList = [M.qc (M.pf s) (h - M.wh s)] from rfl, hR]; have hbn : Below w3.heap.size w3 wa := Below.trans (by go_grown) (hba.mono (by simp)))
        | (go_at_call 83; rw [wid (show -9223372036854775808 ≤ s + 1 by omega) (by omega)]; refine (itoa_any _ _ ?_ ?_ ?_).mono ?_; exact (hpw.step hb03).step hbn; omega; omega; rintro e wb ⟨rfl, hbb⟩; rw [hI]; have hbn : Below w3.heap.size w3 wb := hbn.trans (hbb.mono hbn.size)))
    go_wp2_with fail
    go_returns
    refine ⟨congrArg (fun X => Ending.returned (.tuple #[.string X, .int .i64 0])) ?_, hb03.trans (hbn.mono hb03.size)⟩
    rw [← hR, ← hI]
    unfold M.nup M.ut
    apply ByteArray.ext
    simp [ByteArray.data_append, M.rep1]

set_option maxRecDepth 100000 in
set_option maxHeartbeats 2000000 in
theorem Name_upx (s h : Int) (w : World) (ht : Tab w) (hpw : Pows w) (hi : M.inb s h = true) (hup : 0 ≤ s) (hu2 : s = 0 → 0 ≤ h) (hq : 6 < M.un s h) :
    Calls Tryz.prog 62 #[.agg #[.int .i64 s, .int .i64 h]] w fun e w' => e = .returned (.tuple #[.string ⟨#[]⟩, .int .i64 3]) ∧ Below w.heap.size w w' := by
  have hi' := M.inb_yes hi
  have hpos := M.un_pos s h
  have hun : M.qn (M.pf s) (h - M.wh s) = M.un s h := rfl
  have hs0 : ¬ s < 0 := by omega
  have key : ((s == 0) = false) ∨ ((s == 0) = true ∧ ¬ h < 0) := by
    by_cases c : s = 0
    · right; exact ⟨by simp [c], by have := hu2 c; omega⟩
    · left; simp [c]
  clear hu2
  rcases key with b1 | ⟨b1, k2⟩
  all_goals
    go_enter Tryz.func62, Tryz.ntmps62
    go_wp2_with fail
    refine (bounded_any _ _ _).mono ?_
    rintro e w1 ⟨rfl, hb1⟩
    rw [hi]
    have z1 := hb1.size
    simp at z1
    have hb01 : Below w.heap.size w w1 := Below.trans (by go_grown) (hb1.mono (by simp))
    have p0 : w1.cell? ⟨w.heap.size, 0, none⟩ = some (.int .i64 s) := keepC hb1 (by simp) (by simp [go_sem])
    have p1 : w1.cell? ⟨w.heap.size, 1, none⟩ = some (.int .i64 h) := keepC hb1 (by simp) (by simp [go_sem])
    have f0 : w1.frozen? ⟨w.heap.size, 0, none⟩ = false := keepF hb1 (by simp) (by simp [go_sem])
    have f1 : w1.frozen? ⟨w.heap.size, 1, none⟩ = false := keepF hb1 (by simp) (by simp [go_sem])
    have t1 : w.heap.size < w1.heap.size := by omega
    go_wp2_with fail
    refine (qualityOf_any _ _ _ (ht.step hb01) (by omega) (by omega) (by omega) (by omega)).mono ?_
    rintro e w3 ⟨rfl, hb3⟩
    rw [hun]
    have z3 := hb3.size
    replace p0 := keepC hb3 (by omega) p0
    replace p1 := keepC hb3 (by omega) p1
    have hb03 := hb01.trans (hb3.mono hb01.size)
    have t3 : w.heap.size < w3.heap.size := by omega
    go_wp2_with fail
    go_returns
    exact ⟨rfl, hb03⟩

set_option maxRecDepth 100000 in
set_option maxHeartbeats 2000000 in
theorem Name_dn (s h : Int) (w : World) (ht : Tab w) (hpw : Pows w) (hi : M.inb s h = true) (hdn : s < 0 ∨ (s = 0 ∧ h < 0)) (hq : M.un (-s) (-h) ≤ 6) :
    Calls Tryz.prog 62 #[.agg #[.int .i64 s, .int .i64 h]] w fun e w' => e = .returned (.tuple #[.string (M.ndn s h), .int .i64 0]) ∧ Below w.heap.size w w' := by
  have hi' := M.inb_yes hi
  have hpos := M.un_pos (-s) (-h)
  have hun : M.qn (M.pf (-s)) ((-h) - M.wh (-s)) = M.un (-s) (-h) := rfl
  have key : (s < 0) ∨ (¬ s < 0 ∧ (s == 0) = true ∧ h < 0) := by
    rcases hdn with c | ⟨c, c2⟩
    · exact Or.inl c
    · exact Or.inr ⟨by omega, by simp [c], c2⟩
  have hle : s ≤ 0 := by omega
  clear hdn
  rcases key with k1 | ⟨k1, b1, k2⟩
  all_goals
    obtain ⟨RR, hR, hRs⟩ : ∃ RR : ByteArray, (⟨(Lib.repeatL [M.qc (M.pf (-s)) ((-h) - M.wh (-s))] (M.un (-s) (-h)).toNat).toArray⟩ : ByteArray) = RR ∧ RR.size ≤ 6 := ⟨_, rfl, by rw [bsize, Lib.repeatL_length]; simp; omega⟩
    obtain ⟨II, hI, hIs⟩ : ∃ II : ByteArray, (⟨(Lib.itoa ((-s) + 1)).toArray⟩ : ByteArray) = II ∧ II.size ≤ 21 := ⟨_, rfl, by rw [bsize]; exact Lib.itoa_length_le _ (by omega) (by omega)⟩
    have y1 : ¬ 9223372036854775807 < RR.size := by omega
    have y2 : ¬ 9223372036854775807 < RR.size + II.size := by omega
    have y3 : ¬ 9223372036854775807 < 1 + RR.size := by omega
    have y4 : ¬ 9223372036854775807 < 1 + RR.size + II.size := by omega
    have hcast : (((M.un (-s) (-h)).toNat : Nat) : Int) = M.un (-s) (-h) := by omega
    go_enter Tryz.func62, Tryz.ntmps62
    go_wp2_with fail
    refine (bounded_any _ _ _).mono ?_
    rintro e w1 ⟨rfl, hb1⟩
    rw [hi]
    have z1 := hb1.size
    simp at z1
    have hb01 : Below w.heap.size w w1 := Below.trans (by go_grown) (hb1.mono (by simp))
    have p0 : w1.cell? ⟨w.heap.size, 0, none⟩ = some (.int .i64 s) := keepC hb1 (by simp) (by simp [go_sem])
    have p1 : w1.cell? ⟨w.heap.size, 1, none⟩ = some (.int .i64 h) := keepC hb1 (by simp) (by simp [go_sem])
    have f0 : w1.frozen? ⟨w.heap.size, 0, none⟩ = false := keepF hb1 (by simp) (by simp [go_sem])
    have f1 : w1.frozen? ⟨w.heap.size, 1, none⟩ = false := keepF hb1 (by simp) (by simp [go_sem])
    have t1 : w.heap.size < w1.heap.size := by omega
    go_wp2_with fail
    refine (turned_any _ _ _ (by omega) (by omega) (by omega) (by omega)).mono ?_
    rintro e w2 ⟨rfl, hb2⟩
    have z2 := hb2.size
    replace p0 := keepC hb2 (by omega) p0
    replace p1 := keepC hb2 (by omega) p1
    replace f0 := keepF hb2 (by omega) f0
    replace f1 := keepF hb2 (by omega) f1
    have hb02 := hb01.trans (hb2.mono hb01.size)
    have t2 : w.heap.size < w2.heap.size := by omega
    have hset := (hb02.setCell (p := ⟨w.heap.size, 0, none⟩) (Nat.le_refl _) (.int .i64 (-s))).setCell (p := ⟨w.heap.size, 1, none⟩) (Nat.le_refl _) (.int .i64 (-h))
    go_wp2_with fail
    refine (qualityOf_any _ _ _ (ht.step hset) (by omega) (by omega) (by omega) (by omega)).mono ?_
    rintro e w3 ⟨rfl, hb3⟩
    rw [hun]
    have z3 := hb3.size
    have t3 : w.heap.size < w3.heap.size := by simp [World.setCell] at z3; omega
    have P0 : w3.cell? ⟨w.heap.size, 0, none⟩ = some (.int .i64 (-s)) := keepC hb3 (by simpa [World.setCell] using t2) (by simp [go_sem, p0])
    have P1 : w3.cell? ⟨w.heap.size, 1, none⟩ = some (.int .i64 (-h)) := keepC hb3 (by simpa [World.setCell] using t2) (by simp [go_sem, p1])
    clear p0 p1
    have p0 := P0
    have p1 := P1
    clear P0 P1
    have hb03 := hset.trans (hb3.mono hset.size)
    go_wp2_with fail
    have mkS : ∀ w', Below w3.heap.size w3 w' → (Below w3.heap.size w3 w' ∧ w'.cell? ⟨w.heap.size, 0, none⟩ = some (.int .i64 (-s)) ∧ w'.cell? ⟨w.heap.size, 1, none⟩ = some (.int .i64 (-h))) := fun w' k => ⟨k, keepC k t3 p0, keepC k t3 p1⟩
    go_region_held3 (fun w' => Below w3.heap.size w3 w' ∧ w'.cell? ⟨w.heap.size, 0, none⟩ = some (.int .i64 (-s)) ∧ w'.cell? ⟨w.heap.size, 1, none⟩ = some (.int .i64 (-h)))
      (first | exact mkS _ hbn | (refine mkS _ ?_; (solve | go_grown)))
      (first
        | (go_at_call 82; rw [← hcast]; refine (Tryz.strings_Repeat _ _ _ ?_ ?_).mono ?_; omega; (show 1 * _ ≤ _; omega); rintro e wa ⟨rfl, hba⟩; rw [show (ByteArray.mk #[M.qc (M.pf (-s)) ((-h) - M.wh (-s))]).data.toList = [M.qc (M.pf (-s)) ((-h) - M.wh (-s))] from rfl, hR]; have hbn : Below w3.heap.size w3 wa := Below.trans (by go_grown) (hba.mono (by simp)))
        | (go_at_call 83; rw [wid (show -9223372036854775808 ≤ (-s) + 1 by omega) (by omega)]; refine (itoa_any _ _ ?_ ?_ ?_).mono ?_; exact (hpw.step hb03).step hbn; omega; omega; rintro e wb ⟨rfl, hbb⟩; rw [hI]; have hbn : Below w3.heap.size w3 wb := hbn.trans (hbb.mono hbn.size)))
    go_wp2_with fail
    go_returns
    refine ⟨congrArg (fun X => Ending.returned (.tuple #[.string X, .int .i64 0])) ?_, hb03.trans (hbn.mono hb03.size)⟩
    rw [← hR, ← hI]
    unfold M.ndn M.ut
    apply ByteArray.ext
    simp [ByteArray.data_append, M.rep1]

set_option maxRecDepth 100000 in
set_option maxHeartbeats 2000000 in
theorem Name_dnx (s h : Int) (w : World) (ht : Tab w) (hpw : Pows w) (hi : M.inb s h = true) (hdn : s < 0 ∨ (s = 0 ∧ h < 0)) (hq : 6 < M.un (-s) (-h)) :
    Calls Tryz.prog 62 #[.agg #[.int .i64 s, .int .i64 h]] w fun e w' => e = .returned (.tuple #[.string ⟨#[]⟩, .int .i64 3]) ∧ Below w.heap.size w w' := by
  have hi' := M.inb_yes hi
  have hpos := M.un_pos (-s) (-h)
  have hun : M.qn (M.pf (-s)) ((-h) - M.wh (-s)) = M.un (-s) (-h) := rfl
  have key : (s < 0) ∨ (¬ s < 0 ∧ (s == 0) = true ∧ h < 0) := by
    rcases hdn with c | ⟨c, c2⟩
    · exact Or.inl c
    · exact Or.inr ⟨by omega, by simp [c], c2⟩
  have hle : s ≤ 0 := by omega
  clear hdn
  rcases key with k1 | ⟨k1, b1, k2⟩
  all_goals
    go_enter Tryz.func62, Tryz.ntmps62
    go_wp2_with fail
    refine (bounded_any _ _ _).mono ?_
    rintro e w1 ⟨rfl, hb1⟩
    rw [hi]
    have z1 := hb1.size
    simp at z1
    have hb01 : Below w.heap.size w w1 := Below.trans (by go_grown) (hb1.mono (by simp))
    have p0 : w1.cell? ⟨w.heap.size, 0, none⟩ = some (.int .i64 s) := keepC hb1 (by simp) (by simp [go_sem])
    have p1 : w1.cell? ⟨w.heap.size, 1, none⟩ = some (.int .i64 h) := keepC hb1 (by simp) (by simp [go_sem])
    have f0 : w1.frozen? ⟨w.heap.size, 0, none⟩ = false := keepF hb1 (by simp) (by simp [go_sem])
    have f1 : w1.frozen? ⟨w.heap.size, 1, none⟩ = false := keepF hb1 (by simp) (by simp [go_sem])
    have t1 : w.heap.size < w1.heap.size := by omega
    go_wp2_with fail
    refine (turned_any _ _ _ (by omega) (by omega) (by omega) (by omega)).mono ?_
    rintro e w2 ⟨rfl, hb2⟩
    have z2 := hb2.size
    replace p0 := keepC hb2 (by omega) p0
    replace p1 := keepC hb2 (by omega) p1
    replace f0 := keepF hb2 (by omega) f0
    replace f1 := keepF hb2 (by omega) f1
    have hb02 := hb01.trans (hb2.mono hb01.size)
    have t2 : w.heap.size < w2.heap.size := by omega
    have hset := (hb02.setCell (p := ⟨w.heap.size, 0, none⟩) (Nat.le_refl _) (.int .i64 (-s))).setCell (p := ⟨w.heap.size, 1, none⟩) (Nat.le_refl _) (.int .i64 (-h))
    go_wp2_with fail
    refine (qualityOf_any _ _ _ (ht.step hset) (by omega) (by omega) (by omega) (by omega)).mono ?_
    rintro e w3 ⟨rfl, hb3⟩
    rw [hun]
    have z3 := hb3.size
    have t3 : w.heap.size < w3.heap.size := by simp [World.setCell] at z3; omega
    have P0 : w3.cell? ⟨w.heap.size, 0, none⟩ = some (.int .i64 (-s)) := keepC hb3 (by simpa [World.setCell] using t2) (by simp [go_sem, p0])
    have P1 : w3.cell? ⟨w.heap.size, 1, none⟩ = some (.int .i64 (-h)) := keepC hb3 (by simpa [World.setCell] using t2) (by simp [go_sem, p1])
    clear p0 p1
    have p0 := P0
    have p1 := P1
    clear P0 P1
    have hb03 := hset.trans (hb3.mono hset.size)
    go_wp2_with fail
    go_returns
    exact ⟨rfl, hb03⟩

end Go.Proofs.YtaohahahhjkcdaeGreatDoor

/- Items as trees; what is right about them, as plain functions. -/
namespace Go.Proofs.YtaohahahhjkcdaeGreatDoor.G.M
set_option linter.unusedVariables false

/-- What the kids of an item are told by: numbers; of no item none. -/
abbrev Dom (z : Bool) : Type := match z with | true => Empty | false => Nat
/-- An item, or (z) none: kind, share, pitches, what it moves by, lyric, kids. -/
structure It where
  of ::
  z : Bool
  k : Int
  s : Int
  np : Nat
  pl : Nat → Int
  pa : Nat → Int
  po : Nat → Int
  b1 : Int
  b2 : Int
  ly : ByteArray
  n : Nat
  sub : Dom z → It
abbrev It.mk (k s : Int) (np : Nat) (pl pa po : Nat → Int) (b1 b2 : Int) (ly : ByteArray) (n : Nat) (kid : Nat → It) : It := ⟨false, k, s, np, pl, pa, po, b1, b2, ly, n, kid⟩
theorem It.ind {motive : It → Prop} (nil : ∀ k s np pl pa po b1 b2 ly n sub, motive ⟨true, k, s, np, pl, pa, po, b1, b2, ly, n, sub⟩) (mk : ∀ k s np pl pa po b1 b2 ly n (kid : Nat → It), (∀ j, motive (kid j)) → motive (.mk k s np pl pa po b1 b2 ly n kid)) (t : It) : motive t := by
  induction t with
  | of z k s np pl pa po b1 b2 ly n sub ih =>
    cases z with
    | true => exact nil k s np pl pa po b1 b2 ly n sub
    | false => exact mk k s np pl pa po b1 b2 ly n sub ih

/-- How many bytes the rune has that may be sung: 0, if none. -/
def sz (s : ByteArray) : Nat := if ((Lib.decodeGo s).1 = 65533 ∧ (Lib.decodeGo s).2 ≤ 1) ∨ ¬ (32 ≤ (Lib.decodeGo s).1 ∧ (Lib.decodeGo s).1 ≠ 34 ∧ (Lib.decodeGo s).1 ≠ 127) then 0 else (Lib.decodeGo s).2
theorem dec_le (s : ByteArray) : (Lib.decodeGo s).2 ≤ s.size := by
  unfold Lib.decodeGo
  split
  · exact Nat.zero_le _
  · rw [Lib.decode_at]
    unfold Lib.decodeN
    repeat' split
    all_goals (simp only; omega)
theorem sz_le (s : ByteArray) : sz s ≤ s.size := by
  unfold sz
  split
  · exact Nat.zero_le _
  · exact dec_le s
/-- May it be sung, r runes being behind (c: so many may be looked at). -/
def cs : Nat → Nat → ByteArray → Bool
  | 0, _, s => decide (s.size = 0)
  | c + 1, r, s => if s.size = 0 then true else if sz s = 0 ∨ r = 100 then false else cs c (r + 1) (s.extract (sz s) s.size)
def sung (s : ByteArray) : Bool := cs s.size 0 s
theorem cs_nil (c r : Nat) (s : ByteArray) (h : s.size = 0) : cs c r s = true := by
  cases c with
  | zero => simp [cs, h]
  | succ c => simp [cs, h]
theorem cs_no (c r : Nat) (s : ByteArray) (h : s.size ≠ 0) (hc : s.size ≤ c) (h2 : sz s = 0 ∨ r = 100) : cs c r s = false := by
  cases c with
  | zero => omega
  | succ c => rw [cs, if_neg h, if_pos h2]
theorem cs_on (c r : Nat) (s : ByteArray) (h : s.size ≠ 0) (h2 : ¬ (sz s = 0 ∨ r = 100)) : cs (c + 1) r s = cs c (r + 1) (s.extract (sz s) s.size) := by
  rw [cs, if_neg h, if_neg h2]
/-- All pitches of a chord are right. -/
def ch (np : Nat) (pl pa po : Nat → Int) : Bool := (List.range np).all fun j => M.rt (pl j) (pa j) (po j)
theorem ch_no {np : Nat} {pl pa po : Nat → Int} (j : Nat) (hj : j < np) (h : M.rt (pl j) (pa j) (po j) = false) : ch np pl pa po = false := by
  unfold ch
  rw [List.all_eq_false]
  exact ⟨j, by simpa using hj, by rw [h]; simp⟩
theorem ch_yes {np : Nat} {pl pa po : Nat → Int} (h : ∀ j, j < np → M.rt (pl j) (pa j) (po j) = true) : ch np pl pa po = true := by
  unfold ch
  rw [List.all_eq_true]
  exact fun j hj => h j (by simpa using hj)
/-- Is an interval one that has a name. -/
def nmd (s h : Int) : Bool := M.inb s h && (if s < 0 ∨ (s = 0 ∧ h < 0) then decide (M.un (-s) (-h) ≤ 6) else decide (M.un s h ≤ 6))
/-- Is an item right, whatever its kids are. -/
def ra (k s : Int) (np : Nat) (pl pa po : Nat → Int) (b1 b2 : Int) (ly : ByteArray) (n : Nat) : Bool :=
  if s < 1 ∨ 65536 < s then false
  else if k = 1 then decide (1 ≤ np ∧ np ≤ 16) && ch np pl pa po && sung ly && decide (b1 = 0 ∧ b2 = 0) && decide (n = 0)
  else if k = 2 ∨ k = 3 then decide (np = 0) && decide (b1 = 0 ∧ b2 = 0) && decide (ly.size = 0) && decide (n = 0)
  else if k = 4 then decide (np = 0) && decide (b1 = 0 ∧ b2 = 0) && decide (ly.size = 0)
  else if k = 5 then nmd b1 b2 && decide (np = 0) && decide (ly.size = 0)
  else false
end Go.Proofs.YtaohahahhjkcdaeGreatDoor.G.M

/- Items as trees: are all of them right, as a plain function that counts. -/
namespace Go.Proofs.YtaohahahhjkcdaeGreatDoor.G.M
set_option linter.unusedVariables false

/-- Item by item: the first that is not right, and how many were met. -/
def rk (f : Nat → Int → Bool × Int) : Nat → Nat → Int → Bool × Int
  | 0, _, m => (true, m)
  | c + 1, i, m => if (f i m).1 = false then f i m else rk f c (i + 1) (f i m).2
def raI (t : It) : Bool := ra t.k t.s t.np t.pl t.pa t.po t.b1 t.b2 t.ly t.n
def ri : It → Int → Int → Bool × Int
  | ⟨true, _, _, _, _, _, _, _, _, _, _, _⟩, _, m => (false, m)
  | ⟨false, _, _, _, _, _, _, _, _, _, n, kid⟩, lev, m => if n = 0 ∨ 31 < lev then (false, m) else rk (fun j m => if 4095 < m + 1 ∨ raI (kid j) = false then (false, m + 1) else if (kid j).k = 4 ∨ (kid j).k = 5 then ri (kid j) (lev + 1) (m + 1) else (true, m + 1)) n 0 m
/-- One of them. -/
def r1 (kid : Nat → It) (lev : Int) (j : Nat) (m : Int) : Bool × Int := if 4095 < m + 1 ∨ raI (kid j) = false then (false, m + 1) else if (kid j).k = 4 ∨ (kid j).k = 5 then ri (kid j) (lev + 1) (m + 1) else (true, m + 1)
theorem ri_none (k s : Int) (np : Nat) (pl pa po : Nat → Int) (b1 b2 : Int) (ly : ByteArray) (n : Nat) (kid : Nat → It) (lev m : Int) (h : n = 0 ∨ 31 < lev) : ri (.mk k s np pl pa po b1 b2 ly n kid) lev m = (false, m) := by
  rw [ri, if_pos h]
theorem ri_some (k s : Int) (np : Nat) (pl pa po : Nat → Int) (b1 b2 : Int) (ly : ByteArray) (n : Nat) (kid : Nat → It) (lev m : Int) (h : ¬ (n = 0 ∨ 31 < lev)) : ri (.mk k s np pl pa po b1 b2 ly n kid) lev m = rk (r1 kid lev) n 0 m := by
  rw [ri, if_neg h]; rfl
theorem r1_bad {kid : Nat → It} {lev : Int} {j : Nat} {m : Int} (h : 4095 < m + 1 ∨ raI (kid j) = false) : r1 kid lev j m = (false, m + 1) := by unfold r1; rw [if_pos h]
theorem r1_kids {kid : Nat → It} {lev : Int} {j : Nat} {m : Int} (h : ¬ (4095 < m + 1 ∨ raI (kid j) = false)) (h2 : (kid j).k = 4 ∨ (kid j).k = 5) : r1 kid lev j m = ri (kid j) (lev + 1) (m + 1) := by unfold r1; rw [if_neg h, if_pos h2]
theorem r1_leaf {kid : Nat → It} {lev : Int} {j : Nat} {m : Int} (h : ¬ (4095 < m + 1 ∨ raI (kid j) = false)) (h2 : ¬ ((kid j).k = 4 ∨ (kid j).k = 5)) : r1 kid lev j m = (true, m + 1) := by unfold r1; rw [if_neg h, if_neg h2]
/-- Where those up to i are right. -/
def RK (kid : Nat → It) (lev : Int) (n i : Nat) (m0 m : Int) : Prop := rk (r1 kid lev) n 0 m0 = rk (r1 kid lev) (n - i) i m
theorem RK.start (kid : Nat → It) (lev : Int) (n : Nat) (m0 : Int) : RK kid lev n 0 m0 m0 := rfl
theorem RK.bad {kid : Nat → It} {lev : Int} {n i : Nat} {m0 m : Int} (h : RK kid lev n i m0 m) (hi : i < n) (hb : (r1 kid lev i m).1 = false) : rk (r1 kid lev) n 0 m0 = r1 kid lev i m := by
  unfold RK at h
  rw [h]
  obtain ⟨c, hc⟩ : ∃ c, n - i = c + 1 := ⟨n - i - 1, by omega⟩
  rw [hc, rk, if_pos hb]
theorem RK.next {kid : Nat → It} {lev : Int} {n i : Nat} {m0 m : Int} (h : RK kid lev n i m0 m) (hi : i < n) (hb : (r1 kid lev i m).1 = true) : RK kid lev n (i + 1) m0 (r1 kid lev i m).2 := by
  unfold RK at *
  rw [h]
  obtain ⟨c, hc⟩ : ∃ c, n - i = c + 1 := ⟨n - i - 1, by omega⟩
  rw [hc, rk, if_neg (by rw [hb]; simp), show n - (i + 1) = c by omega]
theorem RK.fin {kid : Nat → It} {lev : Int} {n : Nat} {m0 m : Int} (h : RK kid lev n n m0 m) : rk (r1 kid lev) n 0 m0 = (true, m) := by
  unfold RK at h
  rw [h, Nat.sub_self]; rfl
theorem rk_le (f : Nat → Int → Bool × Int) (hf : ∀ i m, m ≤ 4095 → m ≤ (f i m).2 ∧ (f i m).2 ≤ 4096 ∧ ((f i m).1 = true → (f i m).2 ≤ 4095)) : ∀ c i m, m ≤ 4095 → m ≤ (rk f c i m).2 ∧ (rk f c i m).2 ≤ 4096 ∧ ((rk f c i m).1 = true → (rk f c i m).2 ≤ 4095)
  | 0, i, m, h => by rw [rk]; exact ⟨Int.le_refl _, by show m ≤ 4096; omega, fun _ => h⟩
  | c + 1, i, m, h => by
    obtain ⟨h1, h2, h3⟩ := hf i m h
    rw [rk]
    split
    · exact ⟨h1, h2, h3⟩
    · rename_i hc
      have h4 := h3 (by simpa using hc)
      obtain ⟨g1, g2, g3⟩ := rk_le f hf c (i + 1) (f i m).2 h4
      exact ⟨by omega, g2, g3⟩
theorem ri_le (t : It) : ∀ lev m : Int, m ≤ 4095 → m ≤ (ri t lev m).2 ∧ (ri t lev m).2 ≤ 4096 ∧ ((ri t lev m).1 = true → (ri t lev m).2 ≤ 4095) := by
  induction t using It.ind with
  | nil => intro lev m h; exact ⟨Int.le_refl _, by show m ≤ 4096; omega, fun x => by cases x⟩
  | mk k s np pl pa po b1 b2 ly n kid ih =>
    intro lev m h
    by_cases hc : n = 0 ∨ 31 < lev
    · rw [ri_none _ _ _ _ _ _ _ _ _ _ _ _ _ hc]; exact ⟨Int.le_refl _, by show m ≤ 4096; omega, fun x => by cases x⟩
    · rw [ri_some _ _ _ _ _ _ _ _ _ _ _ _ _ hc]
      refine rk_le _ (fun i m hm => ?_) n 0 m h
      unfold r1
      split
      · exact ⟨by show m ≤ m + 1; omega, by show m + 1 ≤ 4096; omega, fun x => by cases x⟩
      · rename_i g
        split
        · have := ih i (lev + 1) (m + 1) (by omega); exact ⟨by omega, this.2.1, this.2.2⟩
        · exact ⟨by show m ≤ m + 1; omega, by show m + 1 ≤ 4096; omega, fun _ => by show m + 1 ≤ 4095; omega⟩
end Go.Proofs.YtaohahahhjkcdaeGreatDoor.G.M

/- Items as trees: what is right has few kids; the beats that they are. -/
namespace Go.Proofs.YtaohahahhjkcdaeGreatDoor.G.M
set_option linter.unusedVariables false

theorem r1_up (kid : Nat → It) (lev : Int) (j : Nat) (m : Int) (hm : m ≤ 4095) : m + 1 ≤ (r1 kid lev j m).2 := by
  unfold r1
  split
  · exact Int.le_refl _
  · rename_i g
    split
    · exact (ri_le (kid j) (lev + 1) (m + 1) (by omega)).1
    · exact Int.le_refl _
theorem r1_top (kid : Nat → It) (lev : Int) (j : Nat) (m : Int) (hm : m ≤ 4095) (h : (r1 kid lev j m).1 = true) : (r1 kid lev j m).2 ≤ 4095 := by
  unfold r1 at *
  split at h
  · cases h
  · rename_i g
    rw [if_neg g]
    split at h
    · rename_i g2; rw [if_pos g2]; exact (ri_le (kid j) (lev + 1) (m + 1) (by omega)).2.2 h
    · rename_i g2; rw [if_neg g2]; show m + 1 ≤ 4095; omega
theorem rk_all (kid : Nat → It) (lev : Int) : ∀ (c i : Nat) (m : Int), 0 ≤ m → m ≤ 4095 → (rk (r1 kid lev) c i m).1 = true → m + c ≤ (rk (r1 kid lev) c i m).2 ∧ (rk (r1 kid lev) c i m).2 ≤ 4095 ∧ ∀ j, i ≤ j → j < i + c → ∃ m', 0 ≤ m' ∧ m' ≤ 4095 ∧ (r1 kid lev j m').1 = true
  | 0, i, m, h0, h1, h => by rw [rk]; exact ⟨by show m + 0 ≤ m; omega, h1, fun j a b => by omega⟩
  | c + 1, i, m, h0, h1, h => by
    rw [rk] at h ⊢
    split at h
    · rename_i g; rw [g] at h; cases h
    · rename_i g
      rw [if_neg g]
      have g1 : (r1 kid lev i m).1 = true := by simpa using g
      have u := r1_up kid lev i m h1
      have v := r1_top kid lev i m h1 g1
      obtain ⟨a, b, d⟩ := rk_all kid lev c (i + 1) (r1 kid lev i m).2 (by omega) v h
      refine ⟨by have : ((c + 1 : Nat) : Int) = c + 1 := by omega
                 omega, b, fun j x y => ?_⟩
      by_cases e : j = i
      · subst e; exact ⟨m, h0, h1, g1⟩
      · exact d j (by omega) (by omega)
theorem ri_kids (k s : Int) (np : Nat) (pl pa po : Nat → Int) (b1 b2 : Int) (ly : ByteArray) (n : Nat) (kid : Nat → It) (lev m : Int) (h0 : 0 ≤ m) (h1 : m ≤ 4095) (h : (ri (.mk k s np pl pa po b1 b2 ly n kid) lev m).1 = true) :
    1 ≤ n ∧ n ≤ 4095 ∧ ∀ j, j < n → raI (kid j) = true ∧ (((kid j).k = 4 ∨ (kid j).k = 5) → ∃ m', 0 ≤ m' ∧ m' ≤ 4095 ∧ (ri (kid j) (lev + 1) m').1 = true) := by
  by_cases hc : n = 0 ∨ 31 < lev
  · rw [ri_none _ _ _ _ _ _ _ _ _ _ _ _ _ hc] at h; cases h
  · rw [ri_some _ _ _ _ _ _ _ _ _ _ _ _ _ hc] at h
    obtain ⟨a, b, d⟩ := rk_all kid lev n 0 m h0 h1 h
    refine ⟨by omega, by omega, fun j hj => ?_⟩
    obtain ⟨m', x, y, z⟩ := d j (by omega) (by omega)
    unfold r1 at z
    split at z
    · cases z
    · rename_i g
      refine ⟨by cases q : raI (kid j); exact absurd (.inr q) g; rfl, fun hk => ?_⟩
      rw [if_pos hk] at z
      exact ⟨m' + 1, by omega, by omega, z⟩
/-- The beat of what has these kids. -/
def bt : It → Int → F.M.Bt
  | ⟨true, _, _, _, _, _, _, _, _, _, _, _⟩, _ => F.M.Bt.nil
  | ⟨false, _, _, _, _, _, _, _, _, _, n, kid⟩, s => F.M.Bt.mk 4 s n (fun j => if (kid j).k = 4 ∨ (kid j).k = 5 then bt (kid j) (kid j).s else F.M.Bt.mk 1 (kid j).s 0 (fun _ => F.M.Bt.nil))
end Go.Proofs.YtaohahahhjkcdaeGreatDoor.G.M

/- Pieces: what is wrong with one, as a plain function. -/
namespace Go.Proofs.YtaohahahhjkcdaeGreatDoor.G.M
set_option linter.unusedVariables false

/-- A name. -/
def nm (s : ByteArray) : Bool := decide (1 ≤ s.size ∧ s.size ≤ 32) && s.data.toList.all fun x => decide (97 ≤ x.toNat ∧ x.toNat ≤ 122)
theorem nm_yes {s : ByteArray} (h1 : 1 ≤ s.size) (h2 : s.size ≤ 32) (h : ∀ i (hi : i < s.size), 97 ≤ (s[i]'hi).toNat ∧ (s[i]'hi).toNat ≤ 122) : nm s = true := by
  unfold nm
  rw [decide_eq_true ⟨h1, h2⟩, Bool.true_and, List.all_eq_true]
  intro x hx
  obtain ⟨i, hi, rfl⟩ := List.getElem_of_mem hx
  have hi' : i < s.size := by rw [Lib.size_eq]; exact hi
  have e : s[i]'hi' = s.data.toList[i] := rfl
  have := h i hi'
  rw [e] at this
  exact decide_eq_true this
theorem nm_no {s : ByteArray} (i : Nat) (hi : i < s.size) (h : ¬ (97 ≤ (s[i]'hi).toNat ∧ (s[i]'hi).toNat ≤ 122)) : nm s = false := by
  unfold nm
  rw [Bool.and_eq_false_iff]
  right
  rw [List.all_eq_false]
  have hi' : i < s.data.toList.length := by rw [← Lib.size_eq]; exact hi
  refine ⟨s.data.toList[i], List.getElem_mem hi', ?_⟩
  have e : s[i]'hi = s.data.toList[i] := rfl
  rw [← e]
  simpa using h
theorem nm_size {s : ByteArray} (h : ¬ (1 ≤ s.size ∧ s.size ≤ 32)) : nm s = false := by unfold nm; rw [decide_eq_false h]; rfl

/-- The first that is not 0. -/
def fe (f : Nat → Int) : Nat → Int
  | 0 => 0
  | k + 1 => if fe f k ≠ 0 then fe f k else f k
theorem fe_stop {f : Nat → Int} (k : Nat) (h : fe f k = 0) (hb : f k ≠ 0) : ∀ m, k < m → fe f m = f k
  | 0, hm => by omega
  | m + 1, hm => by
    show (if fe f m ≠ 0 then fe f m else f m) = _
    by_cases e : m = k
    · subst e; rw [if_neg (by omega)]
    · rw [fe_stop k h hb m (by omega), if_pos hb]
theorem fe_next {f : Nat → Int} (k : Nat) (h : fe f k = 0) (hb : f k = 0) : fe f (k + 1) = 0 := by
  show (if fe f k ≠ 0 then fe f k else f k) = 0
  rw [if_neg (by omega), hb]
theorem fe_all {f : Nat → Int} {n : Nat} (h : fe f n = 0) : ∀ i, i < n → f i = 0 := by
  induction n with
  | zero => intro i hi; omega
  | succ n ih =>
    have h2 : (if fe f n ≠ 0 then fe f n else f n) = 0 := h
    intro i hi
    split at h2
    · rename_i e; exact absurd h2 e
    · rename_i e
      by_cases e2 : i = n
      · rw [e2]; exact h2
      · exact ih (by omega) i (by omega)
/-- What is wrong with a bar. -/
def bw (up dn : Int) (t : It) : Int := if up < 1 ∨ 65536 < up ∨ dn < 1 ∨ 65536 < dn then 3 else if (ri t 1 0).1 = false then 2 else 0
/-- What is wrong with a voice. -/
def vw (s : ByteArray) (n : Nat) (up dn : Nat → Int) (t : Nat → It) : Int := if nm s = false then 7 else if 1024 < n then 5 else fe (fun j => bw (up j) (dn j) (t j)) n
/-- What is wrong with a piece. -/
def pw (nv : Nat) (s : Nat → ByteArray) (n : Nat → Nat) (up dn : Nat → Nat → Int) (t : Nat → Nat → It) : Int := if 64 < nv then 5 else fe (fun i => vw (s i) (n i) (up i) (dn i) (t i)) nv
end Go.Proofs.YtaohahahhjkcdaeGreatDoor.G.M
