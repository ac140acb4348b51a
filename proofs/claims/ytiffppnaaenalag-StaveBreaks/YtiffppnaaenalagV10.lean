/- How the document's Break lies in memory: the ways to each box, what they cost, whether there are any. -/
import Derived.Test.YtiffppnaaenalagV4
import Derived.Test.YtiffppnaaenalagV5
import Derived.Test.YtiffppnaaenalagVRow
import Derived.Test.YtiffppnaaenalagVMath4
import Derived.Laws.MakeOwn
import Derived.Lib.QuietBelow
namespace Go.Proofs.Ytiffppnaaenalag.V
open Go.RowKit Go.Maps
set_option linter.unusedVariables false
set_option linter.unusedSimpArgs false

theorem LI.other {w : World} {ao : Option Addr} {n : Nat} {g : Nat → Int} (h : LI w ao n g) {a : Addr} {v : Value} (hne : ∀ q off, ao = some ⟨q, off, none⟩ → q ≠ a.block) : LI (w.setCell a v) ao n g := by
  refine ⟨fun hn => ?_⟩
  obtain ⟨b, off, h1, h2, h3⟩ := h.at' hn
  have := hne b off h1
  exact ⟨b, off, h1, by simpa using h2, fun j hj => (World.cell?_setCell_other _ _ _ _ (by intro e; cases e; exact this rfl)).trans (h3 j hj)⟩
/-- v is the list l, in a block of its own behind the three. -/
structure Wl (w : World) (s n : Nat) (v : Value) (l : List Nat) : Prop where
  at' : ∃ (bo : Option Addr) (m d : Nat) (x : Nat → Int), v = .slice bo m d ∧ m ≤ d ∧ d ≤ 9223372036854775807 ∧ LI w bo m x ∧ M.ls x 0 m = l ∧ (m = 0 → bo = none ∧ d = 0) ∧ (∀ q off, bo = some ⟨q, off, none⟩ → s + 1 + 1 < q) ∧ ∀ j, j < m → 0 ≤ x j ∧ x j ≤ n
theorem Wl.nil (w : World) (s n : Nat) : Wl w s n (.slice none 0 0) [] := ⟨⟨none, 0, 0, fun _ => 0, rfl, by omega, by omega, ⟨fun h => by omega⟩, rfl, fun _ => ⟨rfl, rfl⟩, fun q off h => by (cases h), fun j hj => by omega⟩⟩
theorem Wl.keep {w w' : World} {s n : Nat} {v : Value} {l : List Nat} (h : Wl w s n v l) (hb : Below w.heap.size w w') : Wl w' s n v l := by
  obtain ⟨bo, m, d, x, h1, h2, h3, h4, h5⟩ := h.at'
  exact ⟨⟨bo, m, d, x, h1, h2, h3, h4.step hb, h5⟩⟩
theorem Wl.other {w : World} {s n : Nat} {v : Value} {l : List Nat} (h : Wl w s n v l) {a : Addr} (ha : a.block ≤ s + 1 + 1) (u : Value) : Wl (w.setCell a u) s n v l := by
  obtain ⟨bo, m, d, x, h1, h2, h3, h4, h5, h6, h7, h8⟩ := h.at'
  exact ⟨⟨bo, m, d, x, h1, h2, h3, h4.other (fun q off e => by have := h7 q off e; omega), h5, h6, h7, h8⟩⟩
/-- One of them is another one now. -/
def upd {α : Type} (f : Nat → α) (i : Nat) (v : α) (j : Nat) : α := if j = i then v else f j
theorem upd_same {α : Type} {f : Nat → α} {i : Nat} {v : α} : upd f i v i = v := if_pos rfl
theorem upd_other {α : Type} {f : Nat → α} {i j : Nat} {v : α} (h : j ≠ i) : upd f i v j = f j := if_neg h
/-- The three rows. -/
structure St (w : World) (s n : Nat) (T : Nat → Bool) (K : Nat → Int) (L : Nat → List Nat) (f : Nat → Value) : Prop where
  rw' : w.rowIs s 23 (n + 1) f
  rc : w.rowIs (s + 1) 3 (n + 1) (fun j => .int .i64 (K j))
  rt : w.rowIs (s + 1 + 1) 4 (n + 1) (fun j => .bool (T j))
  wl : ∀ j, j ≤ n → Wl w s n (f j) (L j)
theorem St.keep {w w' : World} {s n : Nat} {T : Nat → Bool} {K : Nat → Int} {L : Nat → List Nat} {f : Nat → Value} (h : St w s n T K L f) (hb : Below w.heap.size w w') : St w' s n T K L f :=
  ⟨h.rw'.of_block (hb.block _ h.rw'.lt), h.rc.of_block (hb.block _ h.rc.lt), h.rt.of_block (hb.block _ h.rt.lt), fun j hj => (h.wl j hj).keep hb⟩
theorem St.set {w : World} {s n : Nat} {T : Nat → Bool} {K : Nat → Int} {L : Nat → List Nat} {f : Nat → Value} (h : St w s n T K L f) (z : Nat) (C : Int) (v : Value) (l : List Nat) (hv : Wl w s n v l) :
    St (((w.setCell ⟨s + 1 + 1, z, none⟩ (.bool true)).setCell ⟨s + 1, z, none⟩ (.int .i64 C)).setCell ⟨s, z, none⟩ v) s n (upd T z true) (upd K z C) (upd L z l) (upd f z v) := by
  refine ⟨((h.rw'.setOther (by simp; omega) _).setOther (by simp) _).set z v, ?_, ?_, fun j hj => ?_⟩
  · refine World.rowIs.congr ((World.rowIs.set (h.rc.setOther (by simp) _) z _).setOther (by simp) _) (fun j hj => ?_)
    unfold upd; split <;> rfl
  · refine World.rowIs.congr (((h.rt.set z _).setOther (by simp) _).setOther (by simp; omega) _) (fun j hj => ?_)
    unfold upd; split <;> rfl
  · by_cases e : j = z
    · subst e; rw [upd_same, upd_same]; exact ((hv.other (by simp) _).other (by simp) _).other (by simp; omega) _
    · rw [upd_other e, upd_other e]; exact (((h.wl j hj).other (by simp) _).other (by simp) _).other (by simp; omega) _
/-- An owned list behind the three is such a list. -/
theorem own_Wl {w : World} {base s n m : Nat} {v : Value} {x : Nat → Int} (hb : s + 1 + 1 < base) (h : w.ownsRow base 3 1 v m (rows (ic x) m)) (hm : 0 < m) (hx : ∀ j, j < m → 0 ≤ x j ∧ x j ≤ n) : Wl w s n v (M.ls x 0 m) := by
  obtain ⟨bo, d, rfl, h1, h2, h3⟩ := own_LI h
  refine ⟨⟨bo, m, d, x, rfl, h1, h2, h3, rfl, fun e => by omega, fun q off e => ?_, hx⟩⟩
  have := own_block h q (by rw [e]; rfl)
  omega
theorem infoS : (Try.prog.info? 23).map (fun i => (i.zero, i.size, i.bytes)) = some (some (.slice none 0 0), 1, 24) := by kernel_rfl
theorem infoB : (Try.prog.info? 4).map (fun i => (i.zero, i.size, i.bytes)) = some (some (.bool false), 1, 1) := by kernel_rfl
theorem st_made (w : World) (n : Nat) : St (((w.alloc (.cells (madeCells #[.slice none 0 0] (n + 1)) 23)).alloc (.cells (madeCells #[.int .i64 0] (n + 1)) 3)).alloc (.cells (madeCells #[.bool false] (n + 1)) 4)) w.heap.size n (fun _ => false) (fun _ => 0) (fun _ => []) (fun _ => .slice none 0 0) := by
  have h1 := World.rowIs_made w (.slice none 0 0) (n + 1) 23
  have h2 := World.rowIs_made (w.alloc (.cells (madeCells #[.slice none 0 0] (n + 1)) 23)) (.int .i64 0) (n + 1) 3
  have h3 := World.rowIs_made ((w.alloc (.cells (madeCells #[.slice none 0 0] (n + 1)) 23)).alloc (.cells (madeCells #[.int .i64 0] (n + 1)) 3)) (.bool false) (n + 1) 4
  simp only [World.size_alloc] at h2 h3
  exact ⟨(h1.alloc _).alloc _, h2.alloc _, h3, fun j hj => Wl.nil _ _ _⟩
end Go.Proofs.Ytiffppnaaenalag.V
