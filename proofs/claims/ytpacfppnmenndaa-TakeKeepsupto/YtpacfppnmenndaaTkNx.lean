/- A history behind an edit, in a new block: whichever comes first, the block or the call. -/
import Derived.Test.YtpacfppnmenndaaTk11
import Derived.Deep.DeepCutAuto
namespace Go.Proofs.Ytpacfppnmenndaa.Tk
open Go.RowKit Go.Maps Go.Sort Go.Proofs.Ytpacfppnmenndaa.Rg
open Go.Proofs.Ytpacfppnmenndaa.Y (Tn lt okT wr fst cod bfr OkL TL tab tc rows)
set_option linter.unusedVariables false
set_option linter.unusedSimpArgs false

theorem keepF2 {n : Nat} {w w' : World} {a : Addr} {v : Bool} (h : Below n w w') (hlt : a.block < n) (hc : w.frozen? a = v) : w'.frozen? a = v := by
  rw [← hc]; exact World.frozen?_of_block (h.block a.block hlt)
theorem new_kept2 {X w' : World} {v0 v1 : Value} {t : TypeId} (hb : Below (X.alloc (Obj.cells #[v0, v1] t)).heap.size (X.alloc (Obj.cells #[v0, v1] t)) w') : w'.cell? ⟨X.heap.size, 0, none⟩ = some v0 ∧ w'.cell? ⟨X.heap.size, 1, none⟩ = some v1 ∧ (∀ o, w'.frozen? ⟨X.heap.size, o, none⟩ = false) ∧ X.heap.size < w'.heap.size ∧ Below X.heap.size X w' :=
  ⟨keepC hb (by simp) (by simp [go_sem]), keepC hb (by simp) (by simp [go_sem]), fun o => keepF2 hb (by simp) (by simp [go_sem]), by have := hb.size; simp at this; omega, Below.trans (by go_grown) (hb.mono (by simp))⟩
theorem new_kept2_drew {X w' : World} {v0 v1 : Value} {t : TypeId} (hb : Below (X.alloc (Obj.cells #[v0, v1] t)).drew.heap.size (X.alloc (Obj.cells #[v0, v1] t)).drew w') : w'.cell? ⟨X.heap.size, 0, none⟩ = some v0 ∧ w'.cell? ⟨X.heap.size, 1, none⟩ = some v1 ∧ (∀ o, w'.frozen? ⟨X.heap.size, o, none⟩ = false) ∧ X.heap.size < w'.heap.size ∧ Below X.heap.size X w' :=
  ⟨keepC hb (by simp) (by simp [go_sem]), keepC hb (by simp) (by simp [go_sem]), fun o => keepF2 hb (by simp) (by simp [go_sem]), by have := hb.size; simp at this; omega, Below.trans (by go_grown) (hb.mono (by simp))⟩
theorem new_kept2_pre {X w' : World} {v0 v1 : Value} {t : TypeId} (hb : Below (X.drew.alloc (Obj.cells #[v0, v1] t)).heap.size (X.drew.alloc (Obj.cells #[v0, v1] t)) w') : w'.cell? ⟨X.heap.size, 0, none⟩ = some v0 ∧ w'.cell? ⟨X.heap.size, 1, none⟩ = some v1 ∧ (∀ o, w'.frozen? ⟨X.heap.size, o, none⟩ = false) ∧ X.heap.size < w'.heap.size ∧ Below X.heap.size X w' := by
  obtain ⟨a, b, c, d, e⟩ := new_kept2 hb
  exact ⟨a, b, c, d, e.os, e.tape, e.output, e.size, e.block⟩
/-- What lies there behind the statement. -/
structure NX (W5 : World) (S : Nat → Prop) (Z : Int) (H' : Hs) (c d : Value) (wx : World) : Prop where
  ex : ∃ (q : Nat) (va : Option Addr) (n vc st : Nat), c = .pointer (some ⟨q, 0, none⟩) ∧ d = .int .i64 Z ∧ W5.heap.size ≤ q ∧ q < wx.heap.size ∧ Below W5.heap.size W5 wx ∧ wx.cell? ⟨q, 0, none⟩ = some (.slice va n vc) ∧ wx.cell? ⟨q, 1, none⟩ = some (.int .i64 st) ∧ (Z = 0 → n = H'.vs.length ∧ st = H'.st ∧ HV wx S va vc H')
/-- Old blocks of S, or new ones. -/
def Nw (W5 W : World) (S : Nat → Prop) (b : Nat) : Prop := (S b ∧ b < W5.heap.size) ∨ W.heap.size ≤ b
theorem AfQ.form {W w2 : World} {S : Nat → Prop} {z : Int} {h' : Hs} {e : Ending} (hQ : AfQ W S z h' e w2) : ∃ (va : Option Addr) (n vc st : Nat), e = .returned (.tuple #[.agg #[.slice va n vc, .int .i64 st], .int .i64 z]) ∧ Below W.heap.size W w2 ∧ (z = 0 → n = h'.vs.length ∧ st = h'.st ∧ HV w2 S va vc h') := by
  by_cases hz : z = 0
  · obtain ⟨va, vc, rfl, hv⟩ := hQ.ok hz
    exact ⟨va, h'.vs.length, vc, h'.st, by rw [hz], hQ.b, fun _ => ⟨rfl, rfl, hv⟩⟩
  · exact ⟨none, 0, 0, 0, hQ.bad hz, hQ.b, fun h => absurd h hz⟩
theorem after_nw (S : Nat → Prop) (va : Option Addr) (vc : Nat) (h : Hs) (e : Ed) (W5 W : World) (hb : Below W5.heap.size W5 W) (hV : HV W5 S va vc h) (hk : HOk h) (hs : h.st ≤ 1024) :
    Calls Try.prog 27 #[.agg #[.slice va h.vs.length vc, .int .i64 h.st], .agg #[.int .i64 e.k, .int .i64 e.n, .int .i64 e.t.t, .int .i64 e.t.g, .int .i64 e.t.l, .int .i64 e.t.a, .int .i64 e.t.o]] W fun x w' => AfQ W (Nw W5 W S) (er h e) (nx h e) x w' :=
  after_any (Nw W5 W S) va vc h e W (hV.keep (fun b _ hl => hb.block b hl) hb.size (fun b h1 h2 => .inl ⟨h1, h2⟩)) hk hs (fun b hb => .inr hb)
theorem nx_cf {W5 W wa : World} {S : Nat → Prop} {n vc : Nat} {Z : Int} {H' : Hs} {va : Option Addr} {st : Nat} {t : TypeId} (hb : Below W5.heap.size W5 W) (hS : ∀ b, W5.heap.size ≤ b → S b) (hba : Below W.heap.size W wa) (hf : Z = 0 → n = H'.vs.length ∧ st = H'.st ∧ HV wa (Nw W5 W S) va vc H') :
    NX W5 S Z H' (.pointer (some ⟨wa.heap.size, 0, none⟩)) (.int .i64 Z) (wa.alloc (.cells #[.slice va n vc, .int .i64 st] t)) := by
  have h1 := hb.trans (hba.mono hb.size)
  have hz := hb.size
  refine ⟨wa.heap.size, va, n, vc, st, rfl, rfl, h1.size, by simp, h1.alloc h1.size _, by simp [go_sem], by simp [go_sem], fun hz0 => ?_⟩
  obtain ⟨e1, e2, hv⟩ := hf hz0
  refine ⟨e1, e2, hv.keep (fun b _ hl => ((Below.refl wa.heap.size wa).alloc (Nat.le_refl _) _).block b hl) (by simp) (fun b hb2 _ => ?_)⟩
  rcases hb2 with h | h
  · exact h.1
  · exact hS b (by omega)
theorem nx_af {W5 X W wa : World} {S : Nat → Prop} {n vc : Nat} {Z : Int} {H' : Hs} {va : Option Addr} {st : Nat} (hb : Below W5.heap.size W5 W) (hS : ∀ b, W5.heap.size ≤ b → S b) (hba : Below W.heap.size W wa) (hX : W5.heap.size ≤ X.heap.size) (hW : X.heap.size < W.heap.size) (n0 : ∃ u, W.cell? ⟨X.heap.size, 0, none⟩ = some u) (n1 : ∃ u, W.cell? ⟨X.heap.size, 1, none⟩ = some u) (hf : Z = 0 → n = H'.vs.length ∧ st = H'.st ∧ HV wa (Nw W5 W S) va vc H') :
    NX W5 S Z H' (.pointer (some ⟨X.heap.size, 0, none⟩)) (.int .i64 Z) ((wa.setCell ⟨X.heap.size, 0, none⟩ (.slice va n vc)).setCell ⟨X.heap.size, 1, none⟩ (.int .i64 st)) := by
  have h1 := hb.trans (hba.mono hb.size)
  have hz := hb.size
  obtain ⟨u0, n0⟩ := n0
  obtain ⟨u1, n1⟩ := n1
  obtain ⟨WF, hWF, hF⟩ := two_set (a := .slice va n vc) (b := .int .i64 st) (keepC hba hW n0) (keepC hba hW n1)
  rw [← hWF]
  have hza := hba.size
  refine ⟨X.heap.size, va, n, vc, st, rfl, rfl, hX, by rw [hF.z]; omega, h1.trans (hF.b _ hX), hF.d0, hF.d1, fun hz0 => ?_⟩
  obtain ⟨e1, e2, hv⟩ := hf hz0
  refine ⟨e1, e2, hv.keep (fun b hb2 hl => hF.k b ?_) (by rw [hF.z]; exact Nat.le_refl _) (fun b hb2 _ => ?_)⟩
  · rcases hb2 with h | h <;> omega
  · rcases hb2 with h | h
    · exact h.1
    · exact hS b (by omega)
end Go.Proofs.Ytpacfppnmenndaa.Tk
