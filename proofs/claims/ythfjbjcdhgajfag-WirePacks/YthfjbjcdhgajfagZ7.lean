/- The program's reader of bytes: how it lies; what peek, part, wait and head come to. -/
import Derived.Test.YthfjbjcdhgajfagZ1
namespace Go.Proofs.Ythfjbjcdhgajfag.Z
open Go.RowKit
set_option linter.unusedVariables false
set_option linter.unusedSimpArgs false

def cv (w : World) (b o : Nat) : Value := (w.cell? ⟨b, o, none⟩).getD (.bool false)
theorem cv_is {w : World} {b o : Nat} {v : Value} (h : w.cell? ⟨b, o, none⟩ = some v) : cv w b o = v := by unfold cv; rw [h]; rfl
/-- A text's bytes. -/
def tx (s : ByteArray) : List Nat := s.data.toList.map fun x => x.toNat
theorem tx_len (s : ByteArray) : (tx s).length = s.size := by unfold tx; rw [List.length_map, Array.length_toList]; rfl
theorem tx_lt (s : ByteArray) : ∀ x ∈ tx s, x < 256 := by
  intro x hx
  obtain ⟨y, _, rfl⟩ := List.mem_map.1 hx
  exact y.toNat_lt
/-- What is left from a place on. -/
structure At (s : ByteArray) (k : Nat) (r : List Nat) : Prop where
  e : (tx s).drop k = r
  le : k ≤ s.size
theorem At.nil {s : ByteArray} {k : Nat} (h : At s k []) : k = s.size := by
  have h1 := h.e
  have h2 := h.le
  rw [List.drop_eq_nil_iff, tx_len] at h1
  omega
theorem At.cons {s : ByteArray} {k c : Nat} {t : List Nat} (h : At s k (c :: t)) : ∃ hk : k < s.size, (s[k]'hk).toNat = c ∧ At s (k + 1) t ∧ c < 256 := by
  have h1 := h.e
  have hk : k < (tx s).length := by
    rcases Nat.lt_or_ge k (tx s).length with h2 | h2
    · exact h2
    · rw [List.drop_eq_nil_iff.2 h2] at h1; cases h1
  rw [List.drop_eq_getElem_cons hk] at h1
  obtain ⟨e1, e2⟩ := List.cons.inj h1
  have hk' : k < s.size := by rw [tx_len] at hk; exact hk
  refine ⟨hk', ?_, ⟨e2, by omega⟩, ?_⟩
  · have e3 : (tx s)[k]? = some ((s[k]'hk').toNat) := by
      unfold tx
      rw [List.getElem?_map, Array.getElem?_toList, Array.getElem?_eq_getElem (show k < s.data.size from hk')]
      rfl
    rw [List.getElem?_eq_getElem hk] at e3
    rw [← e1]; exact (Option.some.inj e3).symm
  · rw [← e1]; exact tx_lt s _ (List.getElem_mem _)
theorem At.left {s : ByteArray} {k : Nat} {r : List Nat} (h : At s k r) : k = s.size - r.length ∧ r.length ≤ s.size := by
  have h1 := congrArg List.length h.e
  have h2 := h.le
  rw [List.length_drop, tx_len] at h1
  omega
/-- A reader's text and place. -/
structure Rt (w : World) (p : Nat) (s : ByteArray) (k : Nat) : Prop where
  lt : p < w.heap.size
  c0 : w.cell? ⟨p, 0, none⟩ = some (.string s)
  c1 : w.cell? ⟨p, 1, none⟩ = some (.int .i64 (k : Int))
  f1 : w.frozen? ⟨p, 1, none⟩ = false
/-- What a reader's function keeps: all but the place. -/
structure TK (w : World) (p : Nat) (w' : World) : Prop where
  bel : Below p w w'
  blk : ∀ b, b < w.heap.size → b ≠ p → w'.heap[b]? = w.heap[b]?
theorem TK.refl (w : World) (p : Nat) : TK w p w := ⟨Below.refl _ _, fun _ _ _ => rfl⟩
theorem TK.trans {w w1 w2 : World} {p : Nat} (h : TK w p w1) (h2 : TK w1 p w2) : TK w p w2 :=
  ⟨h.bel.trans h2.bel, fun b b1 b2 => (h2.blk b (Nat.lt_of_lt_of_le b1 h.bel.size) b2).trans (h.blk b b1 b2)⟩
theorem TK.below {w w' : World} {p : Nat} (hb : Below w.heap.size w w') (hp : p < w.heap.size) : TK w p w' :=
  ⟨hb.mono (by omega), fun b b1 _ => hb.block b b1⟩
theorem TK.set (w : World) (p : Nat) (v : Value) : TK w p (w.setCell ⟨p, 1, none⟩ v) :=
  ⟨(Below.refl p w).setCell (p := ⟨p, 1, none⟩) (Nat.le_refl _) _, fun b _ b2 => heap_setCell_other _ _ _ _ (by show b ≠ p; exact b2)⟩
theorem TK.cell {w w' : World} {p : Nat} (h : TK w p w') {b o : Nat} {u : Value} (hb : b < w.heap.size) (hne : b ≠ p) (hc : w.cell? ⟨b, o, none⟩ = some u) : w'.cell? ⟨b, o, none⟩ = some u :=
  (World.cell?_of_block (w := w) (w' := w') (a := ⟨b, o, none⟩) (h.blk b hb hne)).trans hc
theorem TK.froz {w w' : World} {p : Nat} (h : TK w p w') {b o : Nat} {u : Bool} (hb : b < w.heap.size) (hne : b ≠ p) (hc : w.frozen? ⟨b, o, none⟩ = u) : w'.frozen? ⟨b, o, none⟩ = u :=
  (World.frozen?_of_block (w := w) (w' := w') (a := ⟨b, o, none⟩) (h.blk b hb hne)).trans hc
theorem Rt.step {w w' : World} {p k : Nat} {s : ByteArray} (h : Rt w p s k) (hb : Below w.heap.size w w') : Rt w' p s k :=
  ⟨Nat.lt_of_lt_of_le h.lt hb.size, keepC hb h.lt h.c0, keepC hb h.lt h.c1, keepF hb h.lt h.f1⟩
theorem Rt.set {w : World} {p k : Nat} {s : ByteArray} (h : Rt w p s k) (j : Nat) : Rt (w.setCell ⟨p, 1, none⟩ (.int .i64 (j : Int))) p s j :=
  ⟨by simpa using h.lt, (World.cell?_setCell_other _ _ _ _ (by intro e; cases e)).trans h.c0, World.cell?_setCell_same _ _ _ h.c1, (World.frozen?_setCell _ _ _ _).trans h.f1⟩
/-- What peek answers. -/
def M.pe : List Nat → Int × Bool
  | [] => (0, false)
  | c :: _ => ((c : Int), true)
theorem peek_any (p k : Nat) (s : ByteArray) (r : List Nat) (w : World) (hR : Rt w p s k) (ha : At s k r) (hs : s.size ≤ maxLen) :
    Calls Try.prog 47 #[.pointer (some ⟨p, 0, none⟩)] w fun e w' => e = .returned (.tuple #[.int .i64 (M.pe r).1, .bool (M.pe r).2]) ∧ Below w.heap.size w w' := by
  have c0 := hR.c0
  have c1 := hR.c1
  have lt := hR.lt
  have hs' : s.size ≤ 9223372036854775807 := by unfold maxLen at hs; omega
  clear hR hs
  cases r with
  | nil =>
    have hk := ha.nil
    subst hk
    have hlt' : ¬ ((s.size : Nat) : Int) < s.size := by omega
    clear ha
    show Calls Try.prog 47 #[.pointer (some ⟨p, 0, none⟩)] w fun e w' => e = .returned (.tuple #[.int .i64 0, .bool false]) ∧ Below w.heap.size w w'
    go_enter Try.func47, Try.ntmps47
    go_wp2_with fail
    go_quiet (fail)
    go_wp2_with fail
    go_returns
    exact ⟨rfl, ⟨rfl, rfl, rfl, Nat.le_refl _, fun _ _ => rfl⟩⟩
  | cons c t =>
    obtain ⟨hk, e1, _, hc⟩ := ha.cons
    have hlt' : (k : Int) < s.size := by omega
    clear ha
    show Calls Try.prog 47 #[.pointer (some ⟨p, 0, none⟩)] w fun e w' => e = .returned (.tuple #[.int .i64 (c : Int), .bool true]) ∧ Below w.heap.size w w'
    go_enter Try.func47, Try.ntmps47
    go_wp2_with fail
    go_quiet (fail)
    go_wp2_with fail
    go_quiet (fail)
    go_wp2_with fail
    go_returns
    exact ⟨rfl, ⟨rfl, rfl, rfl, Nat.le_refl _, fun _ _ => rfl⟩⟩

theorem part_any (p k : Nat) (s : ByteArray) (r : List Nat) (w : World) (hR : Rt w p s k) (ha : At s k r) (hs : s.size ≤ maxLen) :
    Calls Try.prog 45 #[.pointer (some ⟨p, 0, none⟩)] w fun e w' => ∃ j, e = .returned (.tuple #[.int .i64 (((M.rp r).2.1 : Nat) : Int), .bool (M.rp r).1]) ∧ Rt w' p s j ∧ At s j (M.rp r).2.2 ∧ TK w p w' := by
  have HP := peek_any p k s r w hR ha hs
  have HI := isPart_any
  have hs' : s.size ≤ 9223372036854775807 := by unfold maxLen at hs; omega
  cases r with
  | nil =>
    show Calls Try.prog 45 #[.pointer (some ⟨p, 0, none⟩)] w fun e w' => ∃ j, e = .returned (.tuple #[.int .i64 0, .bool false]) ∧ Rt w' p s j ∧ At s j [] ∧ TK w p w'
    replace HP : Calls Try.prog 47 #[.pointer (some ⟨p, 0, none⟩)] w fun e w' => e = .returned (.tuple #[.int .i64 0, .bool false]) ∧ Below w.heap.size w w' := HP
    go_enter Try.func45, Try.ntmps45
    go_wp2_with fail
    refine HP.mono ?_
    rintro e w1 ⟨rfl, hb⟩
    go_wp2_with fail
    go_returns
    exact ⟨k, rfl, hR.step hb, ha, TK.below hb hR.lt⟩
  | cons c t =>
    obtain ⟨hk, e1, ha2, hc⟩ := ha.cons
    replace HP : Calls Try.prog 47 #[.pointer (some ⟨p, 0, none⟩)] w fun e w' => e = .returned (.tuple #[.int .i64 (c : Int), .bool true]) ∧ Below w.heap.size w w' := HP
    have HIc := HI (c : Int)
    by_cases h : c < 128
    · have e2 : M.rp (c :: t) = (true, c, t) := by simp only [M.rp]; rw [if_pos h]
      have e3 : M.ip (c : Int) = true := M.ip_is.2 (by omega)
      rw [e2]
      rw [e3] at HIc
      have w3 : IntKind.i64.wrap ((k : Int) + 1) = (k : Int) + 1 := wid (by omega) (by omega)
      clear HI e2 e3 h e1
      show Calls Try.prog 45 #[.pointer (some ⟨p, 0, none⟩)] w fun e w' => ∃ j, e = .returned (.tuple #[.int .i64 (c : Int), .bool true]) ∧ Rt w' p s j ∧ At s j t ∧ TK w p w'
      go_enter Try.func45, Try.ntmps45
      go_wp2_with fail
      refine HP.mono ?_
      rintro e w1 ⟨rfl, hb⟩
      have hR1 := hR.step hb
      have c1 := hR1.c1
      have f1 := hR1.f1
      have lt1 := hR1.lt
      have HR : Hid (Rt w1 p s k) := hR1
      have HT : Hid (TK w p w1) := TK.below hb hR.lt
      clear hR hR1 hb HP
      go_wp2_with fail
      refine (HIc _).mono ?_
      rintro e w2 ⟨rfl, rfl⟩
      go_wp2_with fail
      go_returns
      have hj1 : ((k + 1 : Nat) : Int) = (k : Int) + 1 := by omega
      refine ⟨k + 1, rfl, ?_, ha2, HT.out.trans (TK.set _ _ _)⟩
      rw [← hj1]
      exact HR.out.set (k + 1)
    · have e2 : M.rp (c :: t) = (false, 0, c :: t) := by simp only [M.rp]; rw [if_neg h]
      have e3 : M.ip (c : Int) = false := by
        cases hq : M.ip (c : Int)
        · rfl
        · have := M.ip_is.1 hq; omega
      rw [e2]
      rw [e3] at HIc
      clear HI e2 e3 h e1
      show Calls Try.prog 45 #[.pointer (some ⟨p, 0, none⟩)] w fun e w' => ∃ j, e = .returned (.tuple #[.int .i64 0, .bool false]) ∧ Rt w' p s j ∧ At s j (c :: t) ∧ TK w p w'
      go_enter Try.func45, Try.ntmps45
      go_wp2_with fail
      refine HP.mono ?_
      rintro e w1 ⟨rfl, hb⟩
      go_wp2_with fail
      refine (HIc _).mono ?_
      rintro e w2 ⟨rfl, rfl⟩
      go_wp2_with fail
      go_returns
      exact ⟨k, rfl, hR.step hb, ha, TK.below hb hR.lt⟩
end Go.Proofs.Ythfjbjcdhgajfag.Z
