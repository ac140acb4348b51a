/- What is kept while the document unpacks; its function that tells a fault. -/
import Derived.Test.YthfjbjcdhgajfagZ3
import Derived.Test.YthfjbjcdhgajfagZ12
import Derived.Test.YthfjbjcdhgajfagZ8
namespace Go.Proofs.Ythfjbjcdhgajfag.Z
open Go.RowKit Go.Maps
set_option linter.unusedVariables false
set_option linter.unusedSimpArgs false

/-- The document's state: the fault still none, the place in a variable of its own. -/
structure Uq (z : Nat) (wr : World) (k : Nat) : Prop where
  fb : FB wr z
  lt : z + 1 < wr.heap.size
  c : wr.cell? ⟨z + 1, 0, none⟩ = some (.int .i64 (k : Int))
  f : wr.frozen? ⟨z + 1, 0, none⟩ = false
theorem Uq.keep {z k : Nat} {w w' : World} (h : Uq z w k) (hb : Below w.heap.size w w') : Uq z w' k :=
  ⟨(hb.block z (by have := h.lt; omega)).trans h.fb, Nat.lt_of_lt_of_le h.lt hb.size, keepC hb h.lt h.c, keepF hb h.lt h.f⟩
theorem Uq.set {z k : Nat} {w : World} (h : Uq z w k) (j : Nat) : Uq z (w.setCell ⟨z + 1, 0, none⟩ (.int .i64 (j : Int))) j :=
  ⟨(heap_setCell_other _ _ _ _ (by show z ≠ z + 1; omega)).trans h.fb, by simpa using h.lt, World.cell?_setCell_same _ _ _ h.c, (World.frozen?_setCell _ _ _ _).trans h.f⟩
theorem Uq.other {z k b o : Nat} {w : World} (h : Uq z w k) (hb : z + 1 < b) (v : Value) : Uq z (w.setCell ⟨b, o, none⟩ v) k :=
  ⟨(heap_setCell_other _ _ _ _ (by show z ≠ b; omega)).trans h.fb, by simpa using h.lt, (World.cell?_setCell_other _ _ _ _ (by intro e; cases e; omega)).trans h.c, (World.frozen?_setCell _ _ _ _).trans h.f⟩
theorem Uq.gw {z k : Nat} {w w' : World} {v v' : Value} (h : Uq z w k) (hg : Gw w w' v v') (hne : ∀ b, v.ownBlock = some b → z + 1 < b) : Uq z w' k :=
  ⟨(hg.gr.block z (by have := h.lt; omega) (fun q => by have := hne _ q.symm; omega)).trans h.fb, Nat.lt_of_lt_of_le h.lt hg.gr.size, hg.cell h.lt (fun q => by have := hne _ q.symm; omega) h.c, hg.froz h.lt (fun q => by have := hne _ q.symm; omega) h.f⟩
theorem bad_any (z k : Nat) (w : World) (hu : Uq z w k) :
    Calls Try.prog 36 #[.pointer (some ⟨z + 1, 0, none⟩)] w fun e w' => e = .returned (.tuple #[.slice none 0 0, .agg #[.int .i64 2, .int .i64 (k : Int)]]) ∧ Below w.heap.size w w' := by
  have c := hu.c
  have lt := hu.lt
  clear hu
  go_enter Try.func36, Try.ntmps36
  go_wp2_with fail
  go_region
  go_wp2_with fail
  go_returns
  exact ⟨rfl, Below.trans (by go_grown) ⟨rfl, rfl, rfl, Nat.le_refl _, fun _ _ => rfl⟩⟩
theorem mkfun : ∀ (fn : Fn) (first cap : Array Value) (w : World), (Instr.makeFunc fn first cap).run Try.prog w = .ok (.func fn first cap) w := fun _ _ _ _ => rfl
/-- The document's status and the event ahead. -/
structure Sq (S : Nat) (AH : M.Ev) : Prop where
  k : AH.k = (S : Int) / 16
  c : AH.c = (S : Int) % 16
  hi : S ≤ 255
/-- All that a round of the document's Unpack holds; blocks from B on are the round's own. -/
structure Rw (w : World) (B : Nat) (W : World) (k : Nat) (v : Value) (es : List M.Ev) : Prop where
  uq : Uq w.heap.size W k
  oe : OE W (w.heap.size + 1 + 1) v es
  ob : ∀ b, v.ownBlock = some b → b < B
  sz : B ≤ W.heap.size
  lo : w.heap.size + 1 < B
  bel : Below w.heap.size w W
theorem Rw.at {w W : World} {B k : Nat} {v : Value} {es : List M.Ev} (h : Rw w B W k v es) (j : Nat) : Rw w B (W.setCell ⟨w.heap.size + 1, 0, none⟩ (.int .i64 (j : Int))) j v es :=
  ⟨h.uq.set j, h.oe.other (by simp), h.ob, by simpa using h.sz, h.lo, h.bel.setCell (by simp) _⟩
theorem Rw.at' {w W : World} {B k : Nat} {v : Value} {es : List M.Ev} (h : Rw w B W k v es) (j : Nat) {J : Int} (hJ : J = (j : Int)) : Rw w B (W.setCell ⟨w.heap.size + 1, 0, none⟩ (.int .i64 J)) j v es := by
  subst hJ; exact h.at j
theorem Rw.alloc {w W : World} {B k : Nat} {v : Value} {es : List M.Ev} (h : Rw w B W k v es) (os : Obj) : Rw w B (W.alloc os) k v es :=
  have hb : Below W.heap.size W (W.alloc os) := by go_grown
  ⟨h.uq.keep hb, h.oe.bel hb, h.ob, Nat.le_trans h.sz hb.size, h.lo, h.bel.trans (hb.mono h.bel.size)⟩
theorem Rw.x {w W : World} {B k : Nat} {v : Value} {es : List M.Ev} (h : Rw w B W k v es) {b : Nat} (hb : B ≤ b) (o : Nat) (u : Value) : Rw w B (W.setCell ⟨b, o, none⟩ u) k v es :=
  ⟨h.uq.other (by have := h.lo; omega) _, h.oe.keep (fun c hc => heap_setCell_other _ _ _ _ (by show c ≠ b; have := h.ob c hc; omega)), h.ob, by simpa using h.sz, h.lo, h.bel.setCell (by show w.heap.size ≤ b; have := h.lo; omega) _⟩
theorem Rw.drew {w W : World} {B k : Nat} {v : Value} {es : List M.Ev} (h : Rw w B W k v es) (n : Nat) : Rw w B (W.drewN n) k v es :=
  have hb : Below W.heap.size W (W.drewN n) := ⟨rfl, rfl, rfl, Nat.le_refl _, fun _ _ => rfl⟩
  ⟨h.uq.keep hb, h.oe.bel hb, h.ob, Nat.le_trans h.sz hb.size, h.lo, h.bel.trans (hb.mono h.bel.size)⟩
/-- An event is read, behind its wait; behind its kind; behind its first number. -/
def M.re4 (ah : M.Ev) (n : Nat) (k c : Int) (a : Nat) (l3 : List Nat) : Bool × M.Ev × List Nat :=
  if k = 12 then (true, ⟨ah.t + (n : Int), k, c, (a : Int), 0⟩, l3)
  else if (M.rp l3).1 = false then (false, M.z0, (M.rp l3).2.2) else (true, ⟨ah.t + (n : Int), k, c, (a : Int), ((M.rp l3).2.1 : Nat)⟩, (M.rp l3).2.2)
def M.re3 (ah : M.Ev) (n : Nat) (k c : Int) (l2 : List Nat) : Bool × M.Ev × List Nat :=
  if (M.rp l2).1 = false then (false, M.z0, (M.rp l2).2.2) else M.re4 ah n k c (M.rp l2).2.1 (M.rp l2).2.2
def M.re2 (ah : M.Ev) (n : Nat) (l1 : List Nat) : Bool × M.Ev × List Nat :=
  if (M.rh ah l1).1 = false then (false, M.z0, (M.rh ah l1).2.2.2) else M.re3 ah n (M.rh ah l1).2.1 (M.rh ah l1).2.2.1 (M.rh ah l1).2.2.2
theorem M.re_no {ah : M.Ev} {r l1 : List Nat} {n : Nat} (h : M.rw' 4 0 r = (false, n, l1)) : M.re ah r = (false, M.z0, l1) := by
  unfold M.re; rw [if_pos (by rw [h]), h]
theorem M.re_of {ah : M.Ev} {r l1 : List Nat} {n : Nat} (h : M.rw' 4 0 r = (true, n, l1)) : M.re ah r = M.re2 ah n l1 := by
  unfold M.re M.re2 M.re3 M.re4; rw [if_neg (by rw [h]; simp), h]
theorem M.re2_nil {ah : M.Ev} {n : Nat} : M.re2 ah n [] = (false, M.z0, []) := rfl
theorem M.re2_low {ah : M.Ev} {n c : Nat} {t : List Nat} (h : c < 128) : M.re2 ah n (c :: t) = if M.isK ah.k = false then (false, M.z0, c :: t) else M.re4 ah n ah.k ah.c c t := by
  have e : M.rh ah (c :: t) = (M.isK ah.k, ah.k, ah.c, c :: t) := by simp only [M.rh]; rw [if_pos h]
  unfold M.re2
  rw [e]
  simp only
  have e2 : M.rp (c :: t) = (true, c, t) := by simp only [M.rp]; rw [if_pos h]
  unfold M.re3
  rw [e2]
  simp
theorem M.re2_high {ah : M.Ev} {n c : Nat} {t : List Nat} (h : ¬ c < 128) : M.re2 ah n (c :: t) = if M.isK ((c / 16 : Nat) : Int) = false ∨ (((c / 16 : Nat) : Int) = ah.k ∧ ((c % 16 : Nat) : Int) = ah.c) then (false, M.z0, c :: t) else M.re3 ah n ((c / 16 : Nat) : Int) ((c % 16 : Nat) : Int) t := by
  unfold M.re2
  by_cases hb : M.isK ((c / 16 : Nat) : Int) = false ∨ (((c / 16 : Nat) : Int) = ah.k ∧ ((c % 16 : Nat) : Int) = ah.c)
  · have e : M.rh ah (c :: t) = (false, 0, 0, c :: t) := by simp only [M.rh]; rw [if_neg h, if_pos hb]
    rw [if_pos hb, e]; rfl
  · have e : M.rh ah (c :: t) = (true, ((c / 16 : Nat) : Int), ((c % 16 : Nat) : Int), t) := by simp only [M.rh]; rw [if_neg h, if_neg hb]
    rw [if_neg hb, e]; rfl
theorem M.re3_nil {ah : M.Ev} {n : Nat} {k c : Int} : M.re3 ah n k c [] = (false, M.z0, []) := rfl
theorem M.re3_high {ah : M.Ev} {n : Nat} {k c : Int} {x : Nat} {t : List Nat} (h : ¬ x < 128) : M.re3 ah n k c (x :: t) = (false, M.z0, x :: t) := by
  have e2 : M.rp (x :: t) = (false, 0, x :: t) := by simp only [M.rp]; rw [if_neg h]
  unfold M.re3; rw [e2]; rfl
theorem M.re3_low {ah : M.Ev} {n : Nat} {k c : Int} {x : Nat} {t : List Nat} (h : x < 128) : M.re3 ah n k c (x :: t) = M.re4 ah n k c x t := by
  have e2 : M.rp (x :: t) = (true, x, t) := by simp only [M.rp]; rw [if_pos h]
  unfold M.re3; rw [e2]; rfl
theorem M.re4_one {ah : M.Ev} {n : Nat} {k c : Int} {a : Nat} {t : List Nat} (h : k = 12) : M.re4 ah n k c a t = (true, ⟨ah.t + (n : Int), k, c, (a : Int), 0⟩, t) := if_pos h
theorem M.re4_nil {ah : M.Ev} {n : Nat} {k c : Int} {a : Nat} (h : ¬ k = 12) : M.re4 ah n k c a [] = (false, M.z0, []) := by unfold M.re4; rw [if_neg h]; rfl
theorem M.re4_high {ah : M.Ev} {n : Nat} {k c : Int} {a x : Nat} {t : List Nat} (h : ¬ k = 12) (hx : ¬ x < 128) : M.re4 ah n k c a (x :: t) = (false, M.z0, x :: t) := by
  have e2 : M.rp (x :: t) = (false, 0, x :: t) := by simp only [M.rp]; rw [if_neg hx]
  unfold M.re4; rw [if_neg h, e2]; rfl
theorem M.re4_low {ah : M.Ev} {n : Nat} {k c : Int} {a x : Nat} {t : List Nat} (h : ¬ k = 12) (hx : x < 128) : M.re4 ah n k c a (x :: t) = (true, ⟨ah.t + (n : Int), k, c, (a : Int), (x : Int)⟩, t) := by
  have e2 : M.rp (x :: t) = (true, x, t) := by simp only [M.rp]; rw [if_pos hx]
  unfold M.re4; rw [if_neg h, e2]; rfl
end Go.Proofs.Ythfjbjcdhgajfag.Z
