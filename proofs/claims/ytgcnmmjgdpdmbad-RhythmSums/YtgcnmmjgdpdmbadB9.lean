/- What the program's share comes to at a leaf. -/
import Derived.Test.YtgcnmmjgdpdmbadB8
namespace Go.Proofs.Ytgcnmmjgdpdmbad.F
open Go.RowKit
set_option linter.unusedVariables false
set_option linter.unusedSimpArgs false

set_option maxHeartbeats 1000000 in
theorem share_leaf (k s : Int) (ao : Option Addr) (n cap : Nat) (a L : M.Fr) (sb : Bool) (out : List M.Sp) (w : World) (po B : Nat) (hk : k ≠ 4) (hB : B ≤ po) (hO : OutAt w po out) (hlen : out.length ≤ 4096) (ho : M.OutOk out) (hl : M.Ok L) :
    Calls Try.prog 17 #[.agg #[.int .i64 k, .int .i64 s, .slice ao n cap], .agg #[.int .i64 a.1, .int .i64 a.2, .int .i64 L.1, .int .i64 L.2, .bool sb], .func (.func 15) #[] #[.pointer (some ⟨po, 0, none⟩)]] w fun e w' => e = .returned (.int .i64 (M.aE (M.ad out k a L))) ∧ (∀ o, M.ad out k a L = some o → OutAt w' po o ∧ Keeps w po w') ∧ Below B w w' := by
  have hkb : (k == 4) = false := by simpa using hk
  have hA := fun (W : World) (h : OutAt W po out) => add_any k a L sb out W po B hB h hlen ho hl
  have hlt := hO.lt
  have hX : ∀ o1 o2 : Obj, OutAt ((w.alloc o1).alloc o2) po out := fun o1 o2 => hO.step (((Below.refl _ _).alloc (Nat.le_refl _) _).alloc (by simp) _)
  obtain ⟨vv, hvv, _⟩ := hO.v
  have hcell : ∀ o1 o2 : Obj, ((w.alloc o1).alloc o2).cell? ⟨po, 0, none⟩ = some vv := fun o1 o2 => keepC (B := w.heap.size) (((Below.refl _ _).alloc (Nat.le_refl _) _).alloc (by simp) _) hlt hvv
  generalize M.ad out k a L = A at *
  generalize M.aE A = E at *
  generalize a.1 = a1 at *
  generalize a.2 = a2 at *
  generalize L.1 = l1 at *
  generalize L.2 = l2 at *
  go_enter Try.func17, Try.ntmps17
  go_wp2_with fail
  refine (hA _ (hX _ _)).mono ?_
  rintro e w1 ⟨rfl, h1, h2⟩
  go_wp2_with fail
  go_ret
  refine ⟨rfl, fun o ho => ⟨(h1 o ho).1, Keeps.trans (Keeps.below ((Below.refl _ _).alloc (Nat.le_refl _) _ |>.alloc (by simp) _) hlt) (h1 o ho).2 (hcell _ _)⟩, Below.trans (((Below.refl B w).alloc (by omega) _).alloc (by simp; omega) _) h2⟩
end Go.Proofs.Ytgcnmmjgdpdmbad.F
