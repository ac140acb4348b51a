/- What the program's look comes to: a closure that counts the beats that it meets. -/
import Derived.Test.YtgcnmmjgdpdmbadB2
namespace Go.Proofs.Ytgcnmmjgdpdmbad.F
open Go.RowKit
set_option linter.unusedVariables false
set_option linter.unusedSimpArgs false

/-- What look leaves: the count at pm, itself at pl, all below B as it was. -/
structure LookS (w : World) (B pm pl : Nat) (m : Int) (w' : World) : Prop where
  b : Below B w w'
  z : w.heap.size ≤ w'.heap.size
  c : w'.cell? ⟨pm, 0, none⟩ = some (.int .i64 m)
  f : w'.frozen? ⟨pm, 0, none⟩ = false
  l : w'.cell? ⟨pl, 0, none⟩ = some (.func (.func 21) #[] #[.pointer (some ⟨pm, 0, none⟩), .pointer (some ⟨pl, 0, none⟩)])
def LookC (b : M.Bt) : Prop := ∀ (lev m : Int) (w : World) (B pm pl : Nat) (v : Value), Lies w B b v → B ≤ pm → B ≤ pl → pm ≠ pl → pm < w.heap.size → pl < w.heap.size → w.cell? ⟨pm, 0, none⟩ = some (.int .i64 m) → w.frozen? ⟨pm, 0, none⟩ = false → w.cell? ⟨pl, 0, none⟩ = some (.func (.func 21) #[] #[.pointer (some ⟨pm, 0, none⟩), .pointer (some ⟨pl, 0, none⟩)]) → 1 ≤ lev → lev ≤ 33 → 0 ≤ m → m ≤ 4096 →
  Calls Try.prog 21 #[v, .int .i64 lev, .pointer (some ⟨pm, 0, none⟩), .pointer (some ⟨pl, 0, none⟩)] w fun e w' => ∃ m', e = .returned (.int .i64 (M.wr b lev (4096 - m)).1) ∧ LookS w B pm pl m' w' ∧ ((M.wr b lev (4096 - m)).1 = 0 → m' = 4096 - (M.wr b lev (4096 - m)).2)

theorem look_much (lev m k s : Int) (ao : Option Addr) (n cap B pm pl : Nat) (w : World) (hp : B ≤ pm) (hl : B ≤ pl) (hne : pm ≠ pl) (sp : pm < w.heap.size) (sl : pl < w.heap.size) (cm : w.cell? ⟨pm, 0, none⟩ = some (.int .i64 m)) (fm : w.frozen? ⟨pm, 0, none⟩ = false) (cl : w.cell? ⟨pl, 0, none⟩ = some (.func (.func 21) #[] #[.pointer (some ⟨pm, 0, none⟩), .pointer (some ⟨pl, 0, none⟩)])) (h1 : 1 ≤ lev) (h2 : lev ≤ 33) (h3 : 0 ≤ m) (h4 : m ≤ 4096) (h : 32 < lev ∨ 4096 - m < 1) :
    Calls Try.prog 21 #[.agg #[.int .i64 k, .int .i64 s, .slice ao n cap], .int .i64 lev, .pointer (some ⟨pm, 0, none⟩), .pointer (some ⟨pl, 0, none⟩)] w fun e w' => ∃ m', e = .returned (.int .i64 4) ∧ LookS w B pm pl m' w' := by
  have sp' : pm ≠ w.heap.size := by omega
  have sl' : pl ≠ w.heap.size := by omega
  have fin : ∀ u : Value, LookS w B pm pl (m + 1) ((w.setCell ⟨pm, 0, none⟩ (.int .i64 (m + 1))).alloc (Obj.cells #[.int .i64 k, .int .i64 s, .slice ao n cap] 24)) := fun _ =>
    ⟨(Below.alloc (Below.setCell (p := ⟨pm, 0, none⟩) (Below.refl B w) hp _) (by simp; omega) _), by simp, by simp [go_sem, cm, sp], by simp [go_sem, fm, sp], by simp [go_sem, cl, sl, hne, Ne.symm hne]⟩
  rcases (show 32 < lev ∨ (¬ 32 < lev ∧ 4096 < m + 1) by omega) with c | ⟨c, c'⟩
  all_goals
    clear h
    go_enter Try.func21, Try.ntmps21
    go_wp2_with fail
    go_ret
    first | exact ⟨m + 1, rfl, fin undef⟩ | exact ⟨rfl, m + 1, fin undef⟩

theorem look_alone (lev m k s : Int) (ao : Option Addr) (n cap B pm pl : Nat) (w : World) (hp : B ≤ pm) (hl : B ≤ pl) (hne : pm ≠ pl) (sp : pm < w.heap.size) (sl : pl < w.heap.size) (cm : w.cell? ⟨pm, 0, none⟩ = some (.int .i64 m)) (fm : w.frozen? ⟨pm, 0, none⟩ = false) (cl : w.cell? ⟨pl, 0, none⟩ = some (.func (.func 21) #[] #[.pointer (some ⟨pm, 0, none⟩), .pointer (some ⟨pl, 0, none⟩)])) (h1 : 1 ≤ lev) (h2 : lev ≤ 33) (h3 : 0 ≤ m) (h4 : m ≤ 4096) (h : ¬ (32 < lev ∨ 4096 - m < 1)) (hn : n ≤ 9223372036854775807) (ha : M.al k s n ≠ 0) :
    Calls Try.prog 21 #[.agg #[.int .i64 k, .int .i64 s, .slice ao n cap], .int .i64 lev, .pointer (some ⟨pm, 0, none⟩), .pointer (some ⟨pl, 0, none⟩)] w fun e w' => ∃ m', e = .returned (.int .i64 (M.al k s n)) ∧ LookS w B pm pl m' w' := by
  have sp' : pm ≠ w.heap.size := by omega
  have sl' : pl ≠ w.heap.size := by omega
  have c : ¬ 32 < lev := by omega
  have c' : ¬ 4096 < m + 1 := by omega
  have fin : ∀ W, Below ((w.setCell ⟨pm, 0, none⟩ (.int .i64 (m + 1))).alloc (Obj.cells #[.int .i64 k, .int .i64 s, .slice ao n cap] 24)).heap.size ((w.setCell ⟨pm, 0, none⟩ (.int .i64 (m + 1))).alloc (Obj.cells #[.int .i64 k, .int .i64 s, .slice ao n cap] 24)) W → LookS w B pm pl (m + 1) W := fun W hW =>
    ⟨(Below.alloc (Below.setCell (p := ⟨pm, 0, none⟩) (Below.refl B w) hp _) (by simp; omega) _).trans (hW.mono (by simp; omega)), by have := hW.size; simp at this; omega, keepC hW (by simp; omega) (by simp [go_sem, cm, sp]), keepF hW (by simp; omega) (by simp [go_sem, fm, sp]), keepC hW (by simp; omega) (by simp [go_sem, cl, sl, hne, Ne.symm hne])⟩
  have hA := fun w => wrongAlone_any k s ao n cap w hn
  have hab : (M.al k s n != 0) = true := by simpa using ha
  generalize M.al k s n = A at *
  go_enter Try.func21, Try.ntmps21
  go_wp2_with fail
  refine (hA _).mono ?_
  rintro e w2 ⟨rfl, hb2⟩
  have hf := fin _ hb2
  go_wp2_with fail
  go_ret
  first | exact ⟨m + 1, rfl, hf⟩ | exact ⟨rfl, m + 1, hf⟩
end Go.Proofs.Ytgcnmmjgdpdmbad.F
