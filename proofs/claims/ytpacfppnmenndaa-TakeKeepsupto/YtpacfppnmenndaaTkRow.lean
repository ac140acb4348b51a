/- Lines and versions of lines in memory (chapter 20). -/
import Derived.Test.YtpacfppnmenndaaTkMath
import Derived.Test.YtpacfppnmenndaaYR2
import Derived.Test.YtpacfppnmenndaaRgRow
namespace Go.Proofs.Ytpacfppnmenndaa.Tk
open Go.RowKit Go.Maps Go.Sort Go.Proofs.Ytpacfppnmenndaa.Rg
open Go.Proofs.Ytpacfppnmenndaa.Y (Tn lt okT wr fst cod bfr OkL TL tab tc rows)
set_option linter.unusedVariables false
set_option linter.unusedSimpArgs false

/-- A line in memory, in a block of S. -/
structure LN (w : World) (S : Nat → Prop) (ao : Option Addr) (L : List Tn) : Prop where
  at' : 0 < L.length → ∃ b off, ao = some ⟨b, off, none⟩ ∧ b < w.heap.size ∧ S b ∧ ∀ (j : Nat) x, L[j]? = some x → w.cell? ⟨b, off + j * 5, none⟩ = some (.int .i64 x.t) ∧ w.cell? ⟨b, off + j * 5 + 1, none⟩ = some (.int .i64 x.g) ∧ w.cell? ⟨b, off + j * 5 + 2, none⟩ = some (.int .i64 x.l) ∧ w.cell? ⟨b, off + j * 5 + 3, none⟩ = some (.int .i64 x.a) ∧ w.cell? ⟨b, off + j * 5 + 4, none⟩ = some (.int .i64 x.o)
theorem blk {w w' : World} {b o : Nat} {v : Value} (h : w'.heap[b]? = w.heap[b]?) (hc : w.cell? ⟨b, o, none⟩ = some v) : w'.cell? ⟨b, o, none⟩ = some v := (World.cell?_of_block (w := w) (w' := w') (a := ⟨b, o, none⟩) h).trans hc
theorem LN.keep {w w' : World} {S S' : Nat → Prop} {ao : Option Addr} {L : List Tn} (h : LN w S ao L) (hk : ∀ b, S b → b < w.heap.size → w'.heap[b]? = w.heap[b]?) (hz : w.heap.size ≤ w'.heap.size) (hs : ∀ b, S b → b < w.heap.size → S' b) : LN w' S' ao L := ⟨fun hn => by
  obtain ⟨b, off, h1, h2, h3, h4⟩ := h.at' hn
  have e := hk b h3 h2
  exact ⟨b, off, h1, by omega, hs b h3 h2, fun j x hj => by
    obtain ⟨q0, q1, q2, q3, q4⟩ := h4 j x hj
    exact ⟨blk e q0, blk e q1, blk e q2, blk e q3, blk e q4⟩⟩⟩
theorem LN.bel {w w' : World} {S : Nat → Prop} {ao : Option Addr} {L : List Tn} (h : LN w S ao L) (hb : Below w.heap.size w w') : LN w' S ao L := h.keep (fun b _ hl => hb.block b hl) hb.size (fun _ h _ => h)
theorem LN.nil (w : World) (S : Nat → Prop) (ao : Option Addr) : LN w S ao [] := ⟨fun h => absurd h (by simp)⟩
theorem LN.tl {w : World} {S : Nat → Prop} {ao : Option Addr} {L : List Tn} (h : LN w S ao L) : TL w ao L.length (fn L) := ⟨fun hn => by
  obtain ⟨b, off, h1, h2, h3, h4⟩ := h.at' hn
  exact ⟨b, off, h1, h2, fun j hj => (h4 j _ (fn_lt hj)).1, fun j hj => (h4 j _ (fn_lt hj)).2.1, fun j hj => (h4 j _ (fn_lt hj)).2.2.1, fun j hj => (h4 j _ (fn_lt hj)).2.2.2.1, fun j hj => (h4 j _ (fn_lt hj)).2.2.2.2⟩⟩
/-- The cells of a line. -/
def lc (L : List Tn) : List Value := L.flatMap fun x => [.int .i64 x.t, .int .i64 x.g, .int .i64 x.l, .int .i64 x.a, .int .i64 x.o]
theorem lc_nil : lc [] = [] := rfl
theorem lc_cons (x : Tn) (L : List Tn) : lc (x :: L) = [.int .i64 x.t, .int .i64 x.g, .int .i64 x.l, .int .i64 x.a, .int .i64 x.o] ++ lc L := rfl
theorem lc_app (L M : List Tn) : lc (L ++ M) = lc L ++ lc M := by unfold lc; rw [List.flatMap_append]
theorem lc_len (L : List Tn) : (lc L).length = L.length * 5 := by
  induction L with
  | nil => rfl
  | cons x L ih => rw [lc_cons, List.length_append, ih]; simp; omega
theorem lc_get {L : List Tn} {j : Nat} {x : Tn} (h : L[j]? = some x) : (lc L)[j * 5]? = some (.int .i64 x.t) ∧ (lc L)[j * 5 + 1]? = some (.int .i64 x.g) ∧ (lc L)[j * 5 + 2]? = some (.int .i64 x.l) ∧ (lc L)[j * 5 + 3]? = some (.int .i64 x.a) ∧ (lc L)[j * 5 + 4]? = some (.int .i64 x.o) := by
  induction L generalizing j with
  | nil => simp at h
  | cons y L ih =>
    match j with
    | 0 => simp at h; subst h; exact ⟨rfl, rfl, rfl, rfl, rfl⟩
    | j + 1 =>
      have := ih (j := j) (by simpa using h)
      rw [show (j + 1) * 5 = j * 5 + 5 by omega]
      exact this
/-- A block whose cells are those of a line. -/
theorem LN.row {w : World} {nb : Nat} {L : List Tn} {S : Nat → Prop} {f : Nat → Value} {e : TypeId} {n : Nat} (h : w.rowIs nb e n f) (hn : n = L.length * 5) (hf : ∀ i, i < n → some (f i) = (lc L)[i]?) (hS : S nb) : LN w S (some ⟨nb, 0, none⟩) L := ⟨fun h0 => by
  have hlt : nb < w.heap.size := by
    obtain ⟨c, hb, _⟩ := h
    exact (Array.getElem?_eq_some_iff.1 hb).1
  have hc : ∀ i v, (lc L)[i]? = some v → w.cell? ⟨nb, i, none⟩ = some v := fun i v hv => by
    have hi : i < n := by have := (List.getElem?_eq_some_iff.1 hv).1; rw [lc_len] at this; omega
    rw [World.rowIs.cell h hi, hf i hi, hv]
  refine ⟨nb, 0, rfl, hlt, hS, fun j x hj => ?_⟩
  obtain ⟨q0, q1, q2, q3, q4⟩ := lc_get hj
  simp only [Nat.zero_add]
  exact ⟨hc _ _ q0, hc _ _ q1, hc _ _ q2, hc _ _ q3, hc _ _ q4⟩⟩
/-- Versions of a line in memory. -/
structure VR (w : World) (S : Nat → Prop) (va : Option Addr) (vs : List (List Tn)) : Prop where
  at' : 0 < vs.length → ∃ b off, va = some ⟨b, off, none⟩ ∧ b < w.heap.size ∧ S b ∧ ∀ (j : Nat) L, vs[j]? = some L → ∃ ao c, w.cell? ⟨b, off + j, none⟩ = some (.slice ao L.length c) ∧ L.length ≤ c ∧ c ≤ 9223372036854775807 ∧ (ao = none → c = 0) ∧ LN w S ao L
theorem VR.keep {w w' : World} {S S' : Nat → Prop} {va : Option Addr} {vs : List (List Tn)} (h : VR w S va vs) (hk : ∀ b, S b → b < w.heap.size → w'.heap[b]? = w.heap[b]?) (hz : w.heap.size ≤ w'.heap.size) (hs : ∀ b, S b → b < w.heap.size → S' b) : VR w' S' va vs := ⟨fun hn => by
  obtain ⟨b, off, h1, h2, h3, h4⟩ := h.at' hn
  have e := hk b h3 h2
  exact ⟨b, off, h1, by omega, hs b h3 h2, fun j L hj => by
    obtain ⟨ao, c, k1, k2, k3, k4, k5⟩ := h4 j L hj
    exact ⟨ao, c, blk e k1, k2, k3, k4, k5.keep hk hz hs⟩⟩⟩
theorem VR.bel {w w' : World} {S : Nat → Prop} {va : Option Addr} {vs : List (List Tn)} (h : VR w S va vs) (hb : Below w.heap.size w w') : VR w' S va vs := h.keep (fun b _ hl => hb.block b hl) hb.size (fun _ h _ => h)
theorem VR.nil (w : World) (S : Nat → Prop) (va : Option Addr) : VR w S va [] := ⟨fun h => absurd h (by simp)⟩
/-- The first ones of them. -/
theorem VR.take {w : World} {S : Nat → Prop} {va : Option Addr} {vs : List (List Tn)} (h : VR w S va vs) (n : Nat) : VR w S va (vs.take n) := ⟨fun hn => by
  obtain ⟨b, off, h1, h2, h3, h4⟩ := h.at' (by rw [List.length_take] at hn; omega)
  refine ⟨b, off, h1, h2, h3, fun j x hj => h4 j x ?_⟩
  have hjn : j < n := by have := (List.getElem?_eq_some_iff.1 hj).1; rw [List.length_take] at this; omega
  rw [List.getElem?_take_of_lt hjn] at hj; exact hj⟩
end Go.Proofs.Ytpacfppnmenndaa.Tk
