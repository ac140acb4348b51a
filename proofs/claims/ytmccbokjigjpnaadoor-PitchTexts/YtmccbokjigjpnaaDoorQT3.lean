/- What the program's Print comes to. -/
import Derived.Test.YtmccbokjigjpnaaDoorQT2
import Derived.Test.YtmccbokjigjpnaaDoorQW2
import Derived.Lib.ItoaLen
import Derived.Laws.Concat
import Derived.Deep.RegionHeld3
import Derived.Deep.DrawnRows
namespace Go.Proofs.YtmccbokjigjpnaaDoor
open Go.RowKit Go.Lib Go.Joins
set_option linter.unusedSimpArgs false
set_option linter.unusedVariables false

structure Sgs (w : World) : Prop where
  sz : 0 < w.heap.size
  c0 : w.cell? ⟨0, 0, none⟩ = some (.string ⟨#[240, 157, 132, 171, 226, 153, 173]⟩)
  c1 : w.cell? ⟨0, 1, none⟩ = some (.string ⟨#[240, 157, 132, 171]⟩)
  c2 : w.cell? ⟨0, 2, none⟩ = some (.string ⟨#[226, 153, 173]⟩)
  c3 : w.cell? ⟨0, 3, none⟩ = some (.string ⟨#[]⟩)
  c4 : w.cell? ⟨0, 4, none⟩ = some (.string ⟨#[226, 153, 175]⟩)
  c5 : w.cell? ⟨0, 5, none⟩ = some (.string ⟨#[240, 157, 132, 170]⟩)
  c6 : w.cell? ⟨0, 6, none⟩ = some (.string ⟨#[240, 157, 132, 170, 226, 153, 175]⟩)
theorem Sgs.step {w w' : World} (h : Sgs w) (hb : Below w.heap.size w w') : Sgs w' :=
  ⟨by have := hb.size; have := h.sz; omega, keepC hb h.sz h.c0, keepC hb h.sz h.c1, keepC hb h.sz h.c2, keepC hb h.sz h.c3, keepC hb h.sz h.c4, keepC hb h.sz h.c5, keepC hb h.sz h.c6⟩

def Pows (w : World) : Prop := Lib.TabIs Tryd.prog w "internal/strconv.uint64pow10" .u64 Lib.pow10Tab
theorem gPow : Tryd.prog.globalNamed "internal/strconv.uint64pow10" = some 3 := by kernel_rfl
theorem Pows.step {w w' : World} (h : Pows w) (hb : Below w.heap.size w w') : Pows w' := tab_stays gPow h hb (Nat.le_refl _)

theorem below_grow (w : World) (k : Nat) (os : Array Obj) : Below w.heap.size w (Sort.grow (w.drewN k) os) :=
  ⟨rfl, rfl, rfl, by simp [Sort.grow, World.drewN], fun j hj => by simp [Sort.grow, World.drewN, Array.getElem?_append, hj]⟩

theorem itoa_any (n : Int) (w : World) (hp : Pows w) (h0 : -9223372036854775808 ≤ n) (h1 : n ≤ 9223372036854775807) :
    Calls Tryd.prog 35 #[.int .i64 n] w fun e w' => e = .returned (.string ⟨(Lib.itoa n).toArray⟩) ∧ Below w.heap.size w w' :=
  (Tryd.strconv_Itoa n h0 h1 w hp).mono fun _ _ ⟨a, k, os, b⟩ => ⟨a, by rw [b]; exact below_grow w k os⟩

namespace M
/-- A letter's sign. -/
def ltr (l : Int) : List UInt8 := if l = 0 then [67] else if l = 1 then [68] else if l = 2 then [69] else if l = 3 then [70] else if l = 4 then [71] else if l = 5 then [65] else if l = 6 then [66] else []
/-- The signs of what a pitch is altered by. -/
def sgn (a : Int) : List UInt8 := if a = (-3) then [240, 157, 132, 171, 226, 153, 173] else if a = (-2) then [240, 157, 132, 171] else if a = (-1) then [226, 153, 173] else if a = (0) then [] else if a = (1) then [226, 153, 175] else if a = (2) then [240, 157, 132, 170] else if a = (3) then [240, 157, 132, 170, 226, 153, 175] else []
/-- A pitch as it is written. -/
def pr (l a o : Int) : ByteArray := ⟨(ltr l ++ sgn a ++ Lib.itoa o).toArray⟩
theorem pr_add (x y z : List UInt8) : (ByteArray.mk x.toArray ++ ByteArray.mk y.toArray ++ ByteArray.mk z.toArray) = ByteArray.mk (x ++ y ++ z).toArray := by
  apply ByteArray.ext
  simp [ByteArray.data_append]
end M
theorem pr_ret {X : ByteArray} {l a o : Int} (x y : List UInt8) (h1 : M.ltr l = x) (h2 : M.sgn a = y) (h : X = ByteArray.mk x.toArray ++ ByteArray.mk y.toArray ++ ByteArray.mk (Lib.itoa o).toArray) : X = M.pr l a o := by
  unfold M.pr; rw [h1, h2, h]; exact M.pr_add _ _ _

theorem Print_no (l a o : Int) (w : World) (hr : M.rt l a o = false) :
    Calls Tryd.prog 17 #[.agg #[.int .i64 l, .int .i64 a, .int .i64 o]] w fun e w' => e = .returned (.tuple #[.string ⟨#[]⟩, .int .i64 2]) ∧ Below w.heap.size w w' := by
  go_enter Tryd.func17, Tryd.ntmps17
  go_wp2_with fail
  refine (Right_any l a o _).mono ?_
  rintro e w1 ⟨rfl, hb1⟩
  rw [hr]
  go_wp2_with fail
  go_returns
  exact ⟨rfl, Below.trans (by go_grown) (hb1.mono (by simp))⟩

set_option maxRecDepth 100000 in
set_option maxHeartbeats 4000000 in
theorem Print_L0 (a o : Int) (w : World) (ht : Sgs w) (hpw : Pows w) (h1 : -12 ≤ o) (h2 : o ≤ 12) (h3 : -3 ≤ a) (h4 : a ≤ 3) :
    Calls Tryd.prog 17 #[.agg #[.int .i64 0, .int .i64 a, .int .i64 o]] w fun e w' => e = .returned (.tuple #[.string (M.pr 0 a o), .int .i64 0]) ∧ Below w.heap.size w w' := by
  have k0 : IntKind.i64.wrap 0 = 0 := wid (by omega) (by omega)
  have k1 : IntKind.i64.wrap 1 = 1 := wid (by omega) (by omega)
  have k2 : IntKind.i64.wrap 2 = 2 := wid (by omega) (by omega)
  have k3 : IntKind.i64.wrap 3 = 3 := wid (by omega) (by omega)
  have k4 : IntKind.i64.wrap 4 = 4 := wid (by omega) (by omega)
  have k5 : IntKind.i64.wrap 5 = 5 := wid (by omega) (by omega)
  have k6 : IntKind.i64.wrap 6 = 6 := wid (by omega) (by omega)
  have k7 : IntKind.i64.wrap 7 = 7 := wid (by omega) (by omega)
  have hl := Lib.itoa_length_le o (by omega) (by omega)
  have e0 : ByteArray.extract ⟨#[67, 68, 69, 70, 71, 65, 66]⟩ 0 1 = ⟨#[67]⟩ := by decide
  have y8 : ¬ 9223372036854775807 < 8 + (Lib.itoa o).length := by omega
  have y5 : ¬ 9223372036854775807 < 5 + (Lib.itoa o).length := by omega
  have y4 : ¬ 9223372036854775807 < 4 + (Lib.itoa o).length := by omega
  have y1 : ¬ 9223372036854775807 < 1 + (Lib.itoa o).length := by omega
  have hr : M.rt 0 a o = true := M.rt_mk (by omega)
  rcases (show a = -3 ∨ a = -2 ∨ a = -1 ∨ a = 0 ∨ a = 1 ∨ a = 2 ∨ a = 3 by omega) with rfl | rfl | rfl | rfl | rfl | rfl | rfl
  · go_enter Tryd.func17, Tryd.ntmps17
    go_wp2_with fail
    refine (Right_any 0 (-3) o _).mono ?_
    rintro e w1 ⟨rfl, hb1⟩
    rw [hr]
    have hb01 : Below w.heap.size w w1 := Below.trans (by go_grown) (hb1.mono (by simp))
    have p0 : w1.cell? ⟨w.heap.size, 0, none⟩ = some (.int .i64 0) := keepC hb1 (by simp) (by simp [go_sem])
    have p1 : w1.cell? ⟨w.heap.size, 1, none⟩ = some (.int .i64 (-3)) := keepC hb1 (by simp) (by simp [go_sem])
    have p2 : w1.cell? ⟨w.heap.size, 2, none⟩ = some (.int .i64 o) := keepC hb1 (by simp) (by simp [go_sem])
    have sz1 := hb1.size
    simp at sz1
    have hg := ht.step hb01
    have mkS : ∀ w', Below w1.heap.size w1 w' → (Below w1.heap.size w1 w' ∧ w'.cell? ⟨w.heap.size, 0, none⟩ = some (.int .i64 0) ∧ w'.cell? ⟨w.heap.size, 1, none⟩ = some (.int .i64 (-3)) ∧ w'.cell? ⟨w.heap.size, 2, none⟩ = some (.int .i64 o) ∧ w'.cell? ⟨0, 0, none⟩ = some (.string ⟨#[240, 157, 132, 171, 226, 153, 173]⟩) ∧ w'.cell? ⟨0, 1, none⟩ = some (.string ⟨#[240, 157, 132, 171]⟩) ∧ w'.cell? ⟨0, 2, none⟩ = some (.string ⟨#[226, 153, 173]⟩) ∧ w'.cell? ⟨0, 3, none⟩ = some (.string ⟨#[]⟩) ∧ w'.cell? ⟨0, 4, none⟩ = some (.string ⟨#[226, 153, 175]⟩) ∧ w'.cell? ⟨0, 5, none⟩ = some (.string ⟨#[240, 157, 132, 170]⟩) ∧ w'.cell? ⟨0, 6, none⟩ = some (.string ⟨#[240, 157, 132, 170, 226, 153, 175]⟩)) := fun w' h =>
      ⟨h, keepC h (by omega) p0, keepC h (by omega) p1, keepC h (by omega) p2, keepC h hg.sz hg.c0, keepC h hg.sz hg.c1, keepC h hg.sz hg.c2, keepC h hg.sz hg.c3, keepC h hg.sz hg.c4, keepC h hg.sz hg.c5, keepC h hg.sz hg.c6⟩
    go_wp2_with fail
    go_region_held3 (fun w' => Below w1.heap.size w1 w' ∧ w'.cell? ⟨w.heap.size, 0, none⟩ = some (.int .i64 0) ∧ w'.cell? ⟨w.heap.size, 1, none⟩ = some (.int .i64 (-3)) ∧ w'.cell? ⟨w.heap.size, 2, none⟩ = some (.int .i64 o) ∧ w'.cell? ⟨0, 0, none⟩ = some (.string ⟨#[240, 157, 132, 171, 226, 153, 173]⟩) ∧ w'.cell? ⟨0, 1, none⟩ = some (.string ⟨#[240, 157, 132, 171]⟩) ∧ w'.cell? ⟨0, 2, none⟩ = some (.string ⟨#[226, 153, 173]⟩) ∧ w'.cell? ⟨0, 3, none⟩ = some (.string ⟨#[]⟩) ∧ w'.cell? ⟨0, 4, none⟩ = some (.string ⟨#[226, 153, 175]⟩) ∧ w'.cell? ⟨0, 5, none⟩ = some (.string ⟨#[240, 157, 132, 170]⟩) ∧ w'.cell? ⟨0, 6, none⟩ = some (.string ⟨#[240, 157, 132, 170, 226, 153, 175]⟩))
      (first | exact mkS _ hbn | (refine mkS _ ?_; (solve | go_grown)))
      (first | (go_at_call 35; refine (itoa_any o _ ?_ ?_ ?_).mono ?_; exact (hpw.step hb01).step (by go_grown); omega; omega; rintro e w2 ⟨rfl, hb2⟩; have hbn : Below w1.heap.size w1 w2 := Below.trans (by go_grown) (hb2.mono (by simp))))
    go_wp2_with fail
    go_returns
    exact ⟨congrArg (fun X => Ending.returned (.tuple #[.string X, .int .i64 0])) (pr_ret [67] [240, 157, 132, 171, 226, 153, 173] (by decide) (by decide) rfl), hb01.trans (hbn.mono (by omega))⟩
  · go_enter Tryd.func17, Tryd.ntmps17
    go_wp2_with fail
    refine (Right_any 0 (-2) o _).mono ?_
    rintro e w1 ⟨rfl, hb1⟩
    rw [hr]
    have hb01 : Below w.heap.size w w1 := Below.trans (by go_grown) (hb1.mono (by simp))
    have p0 : w1.cell? ⟨w.heap.size, 0, none⟩ = some (.int .i64 0) := keepC hb1 (by simp) (by simp [go_sem])
    have p1 : w1.cell? ⟨w.heap.size, 1, none⟩ = some (.int .i64 (-2)) := keepC hb1 (by simp) (by simp [go_sem])
    have p2 : w1.cell? ⟨w.heap.size, 2, none⟩ = some (.int .i64 o) := keepC hb1 (by simp) (by simp [go_sem])
    have sz1 := hb1.size
    simp at sz1
    have hg := ht.step hb01
    have mkS : ∀ w', Below w1.heap.size w1 w' → (Below w1.heap.size w1 w' ∧ w'.cell? ⟨w.heap.size, 0, none⟩ = some (.int .i64 0) ∧ w'.cell? ⟨w.heap.size, 1, none⟩ = some (.int .i64 (-2)) ∧ w'.cell? ⟨w.heap.size, 2, none⟩ = some (.int .i64 o) ∧ w'.cell? ⟨0, 0, none⟩ = some (.string ⟨#[240, 157, 132, 171, 226, 153, 173]⟩) ∧ w'.cell? ⟨0, 1, none⟩ = some (.string ⟨#[240, 157, 132, 171]⟩) ∧ w'.cell? ⟨0, 2, none⟩ = some (.string ⟨#[226, 153, 173]⟩) ∧ w'.cell? ⟨0, 3, none⟩ = some (.string ⟨#[]⟩) ∧ w'.cell? ⟨0, 4, none⟩ = some (.string ⟨#[226, 153, 175]⟩) ∧ w'.cell? ⟨0, 5, none⟩ = some (.string ⟨#[240, 157, 132, 170]⟩) ∧ w'.cell? ⟨0, 6, none⟩ = some (.string ⟨#[240, 157, 132, 170, 226, 153, 175]⟩)) := fun w' h =>
      ⟨h, keepC h (by omega) p0, keepC h (by omega) p1, keepC h (by omega) p2, keepC h hg.sz hg.c0, keepC h hg.sz hg.c1, keepC h hg.sz hg.c2, keepC h hg.sz hg.c3, keepC h hg.sz hg.c4, keepC h hg.sz hg.c5, keepC h hg.sz hg.c6⟩
    go_wp2_with fail
    go_region_held3 (fun w' => Below w1.heap.size w1 w' ∧ w'.cell? ⟨w.heap.size, 0, none⟩ = some (.int .i64 0) ∧ w'.cell? ⟨w.heap.size, 1, none⟩ = some (.int .i64 (-2)) ∧ w'.cell? ⟨w.heap.size, 2, none⟩ = some (.int .i64 o) ∧ w'.cell? ⟨0, 0, none⟩ = some (.string ⟨#[240, 157, 132, 171, 226, 153, 173]⟩) ∧ w'.cell? ⟨0, 1, none⟩ = some (.string ⟨#[240, 157, 132, 171]⟩) ∧ w'.cell? ⟨0, 2, none⟩ = some (.string ⟨#[226, 153, 173]⟩) ∧ w'.cell? ⟨0, 3, none⟩ = some (.string ⟨#[]⟩) ∧ w'.cell? ⟨0, 4, none⟩ = some (.string ⟨#[226, 153, 175]⟩) ∧ w'.cell? ⟨0, 5, none⟩ = some (.string ⟨#[240, 157, 132, 170]⟩) ∧ w'.cell? ⟨0, 6, none⟩ = some (.string ⟨#[240, 157, 132, 170, 226, 153, 175]⟩))
      (first | exact mkS _ hbn | (refine mkS _ ?_; (solve | go_grown)))
      (first | (go_at_call 35; refine (itoa_any o _ ?_ ?_ ?_).mono ?_; exact (hpw.step hb01).step (by go_grown); omega; omega; rintro e w2 ⟨rfl, hb2⟩; have hbn : Below w1.heap.size w1 w2 := Below.trans (by go_grown) (hb2.mono (by simp))))
    go_wp2_with fail
    go_returns
    exact ⟨congrArg (fun X => Ending.returned (.tuple #[.string X, .int .i64 0])) (pr_ret [67] [240, 157, 132, 171] (by decide) (by decide) rfl), hb01.trans (hbn.mono (by omega))⟩
  · go_enter Tryd.func17, Tryd.ntmps17
    go_wp2_with fail
    refine (Right_any 0 (-1) o _).mono ?_
    rintro e w1 ⟨rfl, hb1⟩
    rw [hr]
    have hb01 : Below w.heap.size w w1 := Below.trans (by go_grown) (hb1.mono (by simp))
    have p0 : w1.cell? ⟨w.heap.size, 0, none⟩ = some (.int .i64 0) := keepC hb1 (by simp) (by simp [go_sem])
    have p1 : w1.cell? ⟨w.heap.size, 1, none⟩ = some (.int .i64 (-1)) := keepC hb1 (by simp) (by simp [go_sem])
    have p2 : w1.cell? ⟨w.heap.size, 2, none⟩ = some (.int .i64 o) := keepC hb1 (by simp) (by simp [go_sem])
    have sz1 := hb1.size
    simp at sz1
    have hg := ht.step hb01
    have mkS : ∀ w', Below w1.heap.size w1 w' → (Below w1.heap.size w1 w' ∧ w'.cell? ⟨w.heap.size, 0, none⟩ = some (.int .i64 0) ∧ w'.cell? ⟨w.heap.size, 1, none⟩ = some (.int .i64 (-1)) ∧ w'.cell? ⟨w.heap.size, 2, none⟩ = some (.int .i64 o) ∧ w'.cell? ⟨0, 0, none⟩ = some (.string ⟨#[240, 157, 132, 171, 226, 153, 173]⟩) ∧ w'.cell? ⟨0, 1, none⟩ = some (.string ⟨#[240, 157, 132, 171]⟩) ∧ w'.cell? ⟨0, 2, none⟩ = some (.string ⟨#[226, 153, 173]⟩) ∧ w'.cell? ⟨0, 3, none⟩ = some (.string ⟨#[]⟩) ∧ w'.cell? ⟨0, 4, none⟩ = some (.string ⟨#[226, 153, 175]⟩) ∧ w'.cell? ⟨0, 5, none⟩ = some (.string ⟨#[240, 157, 132, 170]⟩) ∧ w'.cell? ⟨0, 6, none⟩ = some (.string ⟨#[240, 157, 132, 170, 226, 153, 175]⟩)) := fun w' h =>
      ⟨h, keepC h (by omega) p0, keepC h (by omega) p1, keepC h (by omega) p2, keepC h hg.sz hg.c0, keepC h hg.sz hg.c1, keepC h hg.sz hg.c2, keepC h hg.sz hg.c3, keepC h hg.sz hg.c4, keepC h hg.sz hg.c5, keepC h hg.sz hg.c6⟩
    go_wp2_with fail
    go_region_held3 (fun w' => Below w1.heap.size w1 w' ∧ w'.cell? ⟨w.heap.size, 0, none⟩ = some (.int .i64 0) ∧ w'.cell? ⟨w.heap.size, 1, none⟩ = some (.int .i64 (-1)) ∧ w'.cell? ⟨w.heap.size, 2, none⟩ = some (.int .i64 o) ∧ w'.cell? ⟨0, 0, none⟩ = some (.string ⟨#[240, 157, 132, 171, 226, 153, 173]⟩) ∧ w'.cell? ⟨0, 1, none⟩ = some (.string ⟨#[240, 157, 132, 171]⟩) ∧ w'.cell? ⟨0, 2, none⟩ = some (.string ⟨#[226, 153, 173]⟩) ∧ w'.cell? ⟨0, 3, none⟩ = some (.string ⟨#[]⟩) ∧ w'.cell? ⟨0, 4, none⟩ = some (.string ⟨#[226, 153, 175]⟩) ∧ w'.cell? ⟨0, 5, none⟩ = some (.string ⟨#[240, 157, 132, 170]⟩) ∧ w'.cell? ⟨0, 6, none⟩ = some (.string ⟨#[240, 157, 132, 170, 226, 153, 175]⟩))
      (first | exact mkS _ hbn | (refine mkS _ ?_; (solve | go_grown)))
      (first | (go_at_call 35; refine (itoa_any o _ ?_ ?_ ?_).mono ?_; exact (hpw.step hb01).step (by go_grown); omega; omega; rintro e w2 ⟨rfl, hb2⟩; have hbn : Below w1.heap.size w1 w2 := Below.trans (by go_grown) (hb2.mono (by simp))))
    go_wp2_with fail
    go_returns
    exact ⟨congrArg (fun X => Ending.returned (.tuple #[.string X, .int .i64 0])) (pr_ret [67] [226, 153, 173] (by decide) (by decide) rfl), hb01.trans (hbn.mono (by omega))⟩
  · go_enter Tryd.func17, Tryd.ntmps17
    go_wp2_with fail
    refine (Right_any 0 0 o _).mono ?_
    rintro e w1 ⟨rfl, hb1⟩
    rw [hr]
    have hb01 : Below w.heap.size w w1 := Below.trans (by go_grown) (hb1.mono (by simp))
    have p0 : w1.cell? ⟨w.heap.size, 0, none⟩ = some (.int .i64 0) := keepC hb1 (by simp) (by simp [go_sem])
    have p1 : w1.cell? ⟨w.heap.size, 1, none⟩ = some (.int .i64 0) := keepC hb1 (by simp) (by simp [go_sem])
    have p2 : w1.cell? ⟨w.heap.size, 2, none⟩ = some (.int .i64 o) := keepC hb1 (by simp) (by simp [go_sem])
    have sz1 := hb1.size
    simp at sz1
    have hg := ht.step hb01
    have mkS : ∀ w', Below w1.heap.size w1 w' → (Below w1.heap.size w1 w' ∧ w'.cell? ⟨w.heap.size, 0, none⟩ = some (.int .i64 0) ∧ w'.cell? ⟨w.heap.size, 1, none⟩ = some (.int .i64 0) ∧ w'.cell? ⟨w.heap.size, 2, none⟩ = some (.int .i64 o) ∧ w'.cell? ⟨0, 0, none⟩ = some (.string ⟨#[240, 157, 132, 171, 226, 153, 173]⟩) ∧ w'.cell? ⟨0, 1, none⟩ = some (.string ⟨#[240, 157, 132, 171]⟩) ∧ w'.cell? ⟨0, 2, none⟩ = some (.string ⟨#[226, 153, 173]⟩) ∧ w'.cell? ⟨0, 3, none⟩ = some (.string ⟨#[]⟩) ∧ w'.cell? ⟨0, 4, none⟩ = some (.string ⟨#[226, 153, 175]⟩) ∧ w'.cell? ⟨0, 5, none⟩ = some (.string ⟨#[240, 157, 132, 170]⟩) ∧ w'.cell? ⟨0, 6, none⟩ = some (.string ⟨#[240, 157, 132, 170, 226, 153, 175]⟩)) := fun w' h =>
      ⟨h, keepC h (by omega) p0, keepC h (by omega) p1, keepC h (by omega) p2, keepC h hg.sz hg.c0, keepC h hg.sz hg.c1, keepC h hg.sz hg.c2, keepC h hg.sz hg.c3, keepC h hg.sz hg.c4, keepC h hg.sz hg.c5, keepC h hg.sz hg.c6⟩
    go_wp2_with fail
    go_region_held3 (fun w' => Below w1.heap.size w1 w' ∧ w'.cell? ⟨w.heap.size, 0, none⟩ = some (.int .i64 0) ∧ w'.cell? ⟨w.heap.size, 1, none⟩ = some (.int .i64 0) ∧ w'.cell? ⟨w.heap.size, 2, none⟩ = some (.int .i64 o) ∧ w'.cell? ⟨0, 0, none⟩ = some (.string ⟨#[240, 157, 132, 171, 226, 153, 173]⟩) ∧ w'.cell? ⟨0, 1, none⟩ = some (.string ⟨#[240, 157, 132, 171]⟩) ∧ w'.cell? ⟨0, 2, none⟩ = some (.string ⟨#[226, 153, 173]⟩) ∧ w'.cell? ⟨0, 3, none⟩ = some (.string ⟨#[]⟩) ∧ w'.cell? ⟨0, 4, none⟩ = some (.string ⟨#[226, 153, 175]⟩) ∧ w'.cell? ⟨0, 5, none⟩ = some (.string ⟨#[240, 157, 132, 170]⟩) ∧ w'.cell? ⟨0, 6, none⟩ = some (.string ⟨#[240, 157, 132, 170, 226, 153, 175]⟩))
      (first | exact mkS _ hbn | (refine mkS _ ?_; (solve | go_grown)))
      (first | (go_at_call 35; refine (itoa_any o _ ?_ ?_ ?_).mono ?_; exact (hpw.step hb01).step (by go_grown); omega; omega; rintro e w2 ⟨rfl, hb2⟩; have hbn : Below w1.heap.size w1 w2 := Below.trans (by go_grown) (hb2.mono (by simp))))
    go_wp2_with fail
    go_returns
    exact ⟨congrArg (fun X => Ending.returned (.tuple #[.string X, .int .i64 0])) (pr_ret [67] [] (by decide) (by decide) rfl), hb01.trans (hbn.mono (by omega))⟩
  · go_enter Tryd.func17, Tryd.ntmps17
    go_wp2_with fail
    refine (Right_any 0 1 o _).mono ?_
    rintro e w1 ⟨rfl, hb1⟩
    rw [hr]
    have hb01 : Below w.heap.size w w1 := Below.trans (by go_grown) (hb1.mono (by simp))
    have p0 : w1.cell? ⟨w.heap.size, 0, none⟩ = some (.int .i64 0) := keepC hb1 (by simp) (by simp [go_sem])
    have p1 : w1.cell? ⟨w.heap.size, 1, none⟩ = some (.int .i64 1) := keepC hb1 (by simp) (by simp [go_sem])
    have p2 : w1.cell? ⟨w.heap.size, 2, none⟩ = some (.int .i64 o) := keepC hb1 (by simp) (by simp [go_sem])
    have sz1 := hb1.size
    simp at sz1
    have hg := ht.step hb01
    have mkS : ∀ w', Below w1.heap.size w1 w' → (Below w1.heap.size w1 w' ∧ w'.cell? ⟨w.heap.size, 0, none⟩ = some (.int .i64 0) ∧ w'.cell? ⟨w.heap.size, 1, none⟩ = some (.int .i64 1) ∧ w'.cell? ⟨w.heap.size, 2, none⟩ = some (.int .i64 o) ∧ w'.cell? ⟨0, 0, none⟩ = some (.string ⟨#[240, 157, 132, 171, 226, 153, 173]⟩) ∧ w'.cell? ⟨0, 1, none⟩ = some (.string ⟨#[240, 157, 132, 171]⟩) ∧ w'.cell? ⟨0, 2, none⟩ = some (.string ⟨#[226, 153, 173]⟩) ∧ w'.cell? ⟨0, 3, none⟩ = some (.string ⟨#[]⟩) ∧ w'.cell? ⟨0, 4, none⟩ = some (.string ⟨#[226, 153, 175]⟩) ∧ w'.cell? ⟨0, 5, none⟩ = some (.string ⟨#[240, 157, 132, 170]⟩) ∧ w'.cell? ⟨0, 6, none⟩ = some (.string ⟨#[240, 157, 132, 170, 226, 153, 175]⟩)) := fun w' h =>
      ⟨h, keepC h (by omega) p0, keepC h (by omega) p1, keepC h (by omega) p2, keepC h hg.sz hg.c0, keepC h hg.sz hg.c1, keepC h hg.sz hg.c2, keepC h hg.sz hg.c3, keepC h hg.sz hg.c4, keepC h hg.sz hg.c5, keepC h hg.sz hg.c6⟩
    go_wp2_with fail
    go_region_held3 (fun w' => Below w1.heap.size w1 w' ∧ w'.cell? ⟨w.heap.size, 0, none⟩ = some (.int .i64 0) ∧ w'.cell? ⟨w.heap.size, 1, none⟩ = some (.int .i64 1) ∧ w'.cell? ⟨w.heap.size, 2, none⟩ = some (.int .i64 o) ∧ w'.cell? ⟨0, 0, none⟩ = some (.string ⟨#[240, 157, 132, 171, 226, 153, 173]⟩) ∧ w'.cell? ⟨0, 1, none⟩ = some (.string ⟨#[240, 157, 132, 171]⟩) ∧ w'.cell? ⟨0, 2, none⟩ = some (.string ⟨#[226, 153, 173]⟩) ∧ w'.cell? ⟨0, 3, none⟩ = some (.string ⟨#[]⟩) ∧ w'.cell? ⟨0, 4, none⟩ = some (.string ⟨#[226, 153, 175]⟩) ∧ w'.cell? ⟨0, 5, none⟩ = some (.string ⟨#[240, 157, 132, 170]⟩) ∧ w'.cell? ⟨0, 6, none⟩ = some (.string ⟨#[240, 157, 132, 170, 226, 153, 175]⟩))
      (first | exact mkS _ hbn | (refine mkS _ ?_; (solve | go_grown)))
      (first | (go_at_call 35; refine (itoa_any o _ ?_ ?_ ?_).mono ?_; exact (hpw.step hb01).step (by go_grown); omega; omega; rintro e w2 ⟨rfl, hb2⟩; have hbn : Below w1.heap.size w1 w2 := Below.trans (by go_grown) (hb2.mono (by simp))))
    go_wp2_with fail
    go_returns
    exact ⟨congrArg (fun X => Ending.returned (.tuple #[.string X, .int .i64 0])) (pr_ret [67] [226, 153, 175] (by decide) (by decide) rfl), hb01.trans (hbn.mono (by omega))⟩
  · go_enter Tryd.func17, Tryd.ntmps17
    go_wp2_with fail
    refine (Right_any 0 2 o _).mono ?_
    rintro e w1 ⟨rfl, hb1⟩
    rw [hr]
    have hb01 : Below w.heap.size w w1 := Below.trans (by go_grown) (hb1.mono (by simp))
    have p0 : w1.cell? ⟨w.heap.size, 0, none⟩ = some (.int .i64 0) := keepC hb1 (by simp) (by simp [go_sem])
    have p1 : w1.cell? ⟨w.heap.size, 1, none⟩ = some (.int .i64 2) := keepC hb1 (by simp) (by simp [go_sem])
    have p2 : w1.cell? ⟨w.heap.size, 2, none⟩ = some (.int .i64 o) := keepC hb1 (by simp) (by simp [go_sem])
    have sz1 := hb1.size
    simp at sz1
    have hg := ht.step hb01
    have mkS : ∀ w', Below w1.heap.size w1 w' → (Below w1.heap.size w1 w' ∧ w'.cell? ⟨w.heap.size, 0, none⟩ = some (.int .i64 0) ∧ w'.cell? ⟨w.heap.size, 1, none⟩ = some (.int .i64 2) ∧ w'.cell? ⟨w.heap.size, 2, none⟩ = some (.int .i64 o) ∧ w'.cell? ⟨0, 0, none⟩ = some (.string ⟨#[240, 157, 132, 171, 226, 153, 173]⟩) ∧ w'.cell? ⟨0, 1, none⟩ = some (.string ⟨#[240, 157, 132, 171]⟩) ∧ w'.cell? ⟨0, 2, none⟩ = some (.string ⟨#[226, 153, 173]⟩) ∧ w'.cell? ⟨0, 3, none⟩ = some (.string ⟨#[]⟩) ∧ w'.cell? ⟨0, 4, none⟩ = some (.string ⟨#[226, 153, 175]⟩) ∧ w'.cell? ⟨0, 5, none⟩ = some (.string ⟨#[240, 157, 132, 170]⟩) ∧ w'.cell? ⟨0, 6, none⟩ = some (.string ⟨#[240, 157, 132, 170, 226, 153, 175]⟩)) := fun w' h =>
      ⟨h, keepC h (by omega) p0, keepC h (by omega) p1, keepC h (by omega) p2, keepC h hg.sz hg.c0, keepC h hg.sz hg.c1, keepC h hg.sz hg.c2, keepC h hg.sz hg.c3, keepC h hg.sz hg.c4, keepC h hg.sz hg.c5, keepC h hg.sz hg.c6⟩
    go_wp2_with fail
    go_region_held3 (fun w' => Below w1.heap.size w1 w' ∧ w'.cell? ⟨w.heap.size, 0, none⟩ = some (.int .i64 0) ∧ w'.cell? ⟨w.heap.size, 1, none⟩ = some (.int .i64 2) ∧ w'.cell? ⟨w.heap.size, 2, none⟩ = some (.int .i64 o) ∧ w'.cell? ⟨0, 0, none⟩ = some (.string ⟨#[240, 157, 132, 171, 226, 153, 173]⟩) ∧ w'.cell? ⟨0, 1, none⟩ = some (.string ⟨#[240, 157, 132, 171]⟩) ∧ w'.cell? ⟨0, 2, none⟩ = some (.string ⟨#[226, 153, 173]⟩) ∧ w'.cell? ⟨0, 3, none⟩ = some (.string ⟨#[]⟩) ∧ w'.cell? ⟨0, 4, none⟩ = some (.string ⟨#[226, 153, 175]⟩) ∧ w'.cell? ⟨0, 5, none⟩ = some (.string ⟨#[240, 157, 132, 170]⟩) ∧ w'.cell? ⟨0, 6, none⟩ = some (.string ⟨#[240, 157, 132, 170, 226, 153, 175]⟩))
      (first | exact mkS _ hbn | (refine mkS _ ?_; (solve | go_grown)))
      (first | (go_at_call 35; refine (itoa_any o _ ?_ ?_ ?_).mono ?_; exact (hpw.step hb01).step (by go_grown); omega; omega; rintro e w2 ⟨rfl, hb2⟩; have hbn : Below w1.heap.size w1 w2 := Below.trans (by go_grown) (hb2.mono (by simp))))
    go_wp2_with fail
    go_returns
    exact ⟨congrArg (fun X => Ending.returned (.tuple #[.string X, .int .i64 0])) (pr_ret [67] [240, 157, 132, 170] (by decide) (by decide) rfl), hb01.trans (hbn.mono (by omega))⟩
  · go_enter Tryd.func17, Tryd.ntmps17
    go_wp2_with fail
    refine (Right_any 0 3 o _).mono ?_
    rintro e w1 ⟨rfl, hb1⟩
    rw [hr]
    have hb01 : Below w.heap.size w w1 := Below.trans (by go_grown) (hb1.mono (by simp))
    have p0 : w1.cell? ⟨w.heap.size, 0, none⟩ = some (.int .i64 0) := keepC hb1 (by simp) (by simp [go_sem])
    have p1 : w1.cell? ⟨w.heap.size, 1, none⟩ = some (.int .i64 3) := keepC hb1 (by simp) (by simp [go_sem])
    have p2 : w1.cell? ⟨w.heap.size, 2, none⟩ = some (.int .i64 o) := keepC hb1 (by simp) (by simp [go_sem])
    have sz1 := hb1.size
    simp at sz1
    have hg := ht.step hb01
    have mkS : ∀ w', Below w1.heap.size w1 w' → (Below w1.heap.size w1 w' ∧ w'.cell? ⟨w.heap.size, 0, none⟩ = some (.int .i64 0) ∧ w'.cell? ⟨w.heap.size, 1, none⟩ = some (.int .i64 3) ∧ w'.cell? ⟨w.heap.size, 2, none⟩ = some (.int .i64 o) ∧ w'.cell? ⟨0, 0, none⟩ = some (.string ⟨#[240, 157, 132, 171, 226, 153, 173]⟩) ∧ w'.cell? ⟨0, 1, none⟩ = some (.string ⟨#[240, 157, 132, 171]⟩) ∧ w'.cell? ⟨0, 2, none⟩ = some (.string ⟨#[226, 153, 173]⟩) ∧ w'.cell? ⟨0, 3, none⟩ = some (.string ⟨#[]⟩) ∧ w'.cell? ⟨0, 4, none⟩ = some (.string ⟨#[226, 153, 175]⟩) ∧ w'.cell? ⟨0, 5, none⟩ = some (.string ⟨#[240, 157, 132, 170]⟩) ∧ w'.cell? ⟨0, 6, none⟩ = some (.string ⟨#[240, 157, 132, 170, 226, 153, 175]⟩)) := fun w' h =>
      ⟨h, keepC h (by omega) p0, keepC h (by omega) p1, keepC h (by omega) p2, keepC h hg.sz hg.c0, keepC h hg.sz hg.c1, keepC h hg.sz hg.c2, keepC h hg.sz hg.c3, keepC h hg.sz hg.c4, keepC h hg.sz hg.c5, keepC h hg.sz hg.c6⟩
    go_wp2_with fail
    go_region_held3 (fun w' => Below w1.heap.size w1 w' ∧ w'.cell? ⟨w.heap.size, 0, none⟩ = some (.int .i64 0) ∧ w'.cell? ⟨w.heap.size, 1, none⟩ = some (.int .i64 3) ∧ w'.cell? ⟨w.heap.size, 2, none⟩ = some (.int .i64 o) ∧ w'.cell? ⟨0, 0, none⟩ = some (.string ⟨#[240, 157, 132, 171, 226, 153, 173]⟩) ∧ w'.cell? ⟨0, 1, none⟩ = some (.string ⟨#[240, 157, 132, 171]⟩) ∧ w'.cell? ⟨0, 2, none⟩ = some (.string ⟨#[226, 153, 173]⟩) ∧ w'.cell? ⟨0, 3, none⟩ = some (.string ⟨#[]⟩) ∧ w'.cell? ⟨0, 4, none⟩ = some (.string ⟨#[226, 153, 175]⟩) ∧ w'.cell? ⟨0, 5, none⟩ = some (.string ⟨#[240, 157, 132, 170]⟩) ∧ w'.cell? ⟨0, 6, none⟩ = some (.string ⟨#[240, 157, 132, 170, 226, 153, 175]⟩))
      (first | exact mkS _ hbn | (refine mkS _ ?_; (solve | go_grown)))
      (first | (go_at_call 35; refine (itoa_any o _ ?_ ?_ ?_).mono ?_; exact (hpw.step hb01).step (by go_grown); omega; omega; rintro e w2 ⟨rfl, hb2⟩; have hbn : Below w1.heap.size w1 w2 := Below.trans (by go_grown) (hb2.mono (by simp))))
    go_wp2_with fail
    go_returns
    exact ⟨congrArg (fun X => Ending.returned (.tuple #[.string X, .int .i64 0])) (pr_ret [67] [240, 157, 132, 170, 226, 153, 175] (by decide) (by decide) rfl), hb01.trans (hbn.mono (by omega))⟩

end Go.Proofs.YtmccbokjigjpnaaDoor
