/- For all coefficients and every list of floats: turned round it comes out turned round, and at rest again it does what it did; the law's text returns true: no condition. -/
import Derived.Test.YtjfmpgfpehnnjajRows
import Derived.Test.YtjfmpgfpehnnjajFiL2
import Derived.Test.YtjfmpgfpehnnjajFiOpen
import Derived.Laws.Cover2
import Derived.WalkKit
import Derived.ProofKit
import Derived.SizedLaws
import Derived.OpenShut
import Derived.ChangeOld
import Derived.Below
import Derived.Lib.SmallJoins
namespace Go.Proofs.Ytjfmpgfpehnnjaj.filterSignsDone
open Go.ChangeShapes Go.WideShapes Go.ChangeAt Go.RowKit Go.Joins
set_option linter.unusedVariables false

theorem own : ownKnob Try.prog.godebug = none := by kernel_rfl
theorem laidOut : laidOutB Try.prog = true := by kernel_rfl
theorem ibd {n : Int} (h : (Lit.int .i64 n).wf = true) : -9223372036854775808 ≤ n ∧ n ≤ 9223372036854775807 := by
  have := bounds_i64 h; omega

set_option maxRecDepth 100000 in
theorem lifted (os : Os) (started : os.Started) (H : Type) (enc : TypeId × Value → H) :
    ReturnsInHanded {} Try.checked os 4 .any (Rows.filterSignsSpec.pre6 enc Try.prog Try.f4 Rows.filterSignsRow.domain false) (Rows.filterSignsSpec.post enc Try.prog Try.f4 false true false false) := by
  refine returnsInHanded_of_change_sized (C := Try.checked) own started (by kernel_rfl) Try.func4
    (ChangeSpec.witness6 (enc := enc) (C := Try.checked) false ⟨#[], #[.agg #[.float .f64 0, .float .f64 0, .float .f64 0, .float .f64 0, .float .f64 0], .slice none 0 0], []⟩ 8 (by kernel_rfl) (by kernel_rfl) (by kernel_rfl) (by kernel_rfl)) ?_
  intro W base args ds gs before hval0 hW hcnd hsz0 _
  have hval : ∀ (j : Nat) t v, Try.f4.params[j]? = some t → args[j]? = some v → Value.okWide Try.prog W .any base t v := hval0
  have hW' := hW
  obtain ⟨p, q, hA0, hV, rfl, hfz, hnd⟩ := hW
  have hA : DataW.TrodAll enc Try.prog W 0 (fun _ => true) true Try.f4.params.toList args.toList ds p := hA0
  rw [Try.params4] at hA hval
  obtain ⟨v0, vs0, d0, ds0, p0, q0, hargs, rfl, rfl, h0, r0⟩ := trodAll_cons hA
  obtain ⟨v1, vs1, d1, ds1, p1, q1, rfl, rfl, rfl, h1, r1⟩ := trodAll_cons r0
  obtain ⟨rfl, rfl, rfl⟩ := trodAll_nil r1
  obtain rfl : args = #[v0, v1] := by cases args; simp_all
  obtain ⟨rfl, rfl⟩ := trodVars_none hV
  have k0 := h0
  have lt0 : ∀ x ∈ p0, x.block < W.heap.size := by obtain ⟨m, hm⟩ := k0; exact DataW.trod_lt m _ _ _ hm
  have k1 := h1
  have lt1 : ∀ x ∈ p1, x.block < W.heap.size := by obtain ⟨m, hm⟩ := k1; exact DataW.trod_lt m _ _ _ hm
  obtain ⟨q0c, rfl, wc0⟩ := Fi.open_coefs (hval 0 24 v0 rfl rfl) h0
  obtain ⟨ao1, c1, n1, l1, rfl, hl1, hn1, hc1, nl1, le1⟩ := Fi.open_floats (hval 1 25 v1 rfl rfl) h1
  have hby : n1 * 8 ≤ 140737488355328 := by
    rcases Fi.floats_len k1 with e | ⟨es, sp, rfl, e⟩
    · omega
    · have : (es.length + sp.length) * Try.prog.bytesOf 22 ≤ reachBytes := sized_slice hsz0 (j := 1) (t := 25) (e := 22) (by rw [Try.params4]; rfl) rfl Try.underlying25
      rw [show Try.prog.bytesOf 22 = 8 by kernel_rfl] at this
      unfold reachBytes at this
      omega
  clear hA0 hval0
  refine (Fi.signs_walk q0c wc0 l1 ao1 n1 c1 W hl1 le1 hn1 hc1 nl1 (by omega)).mono fun e W' ⟨he, bel⟩ => ?_
  subst he
  exact ⟨_, rfl, _, _, _, [], _, [], hW', trodAll_mk1 (shut_bool Try.underlying4 _), (trodAll_cons_mk (Below.trod laidOut (by kernel_rfl) (of_decide_eq_true (by kernel_rfl)) k0 bel lt0) (trodAll_cons_mk (Below.trod laidOut (by kernel_rfl) (of_decide_eq_true (by kernel_rfl)) k1 bel lt1) trodAll_mk0)), rfl, bel.frame _, fun h => by cases h⟩

theorem over : Rows.filterSignsRow.holds Try.pinned (OpenSpec.ofChange Rows.filterSignsSpec) :=
  OpenClaim.holds_of_wide 4 Try.f4 rfl rfl rfl rfl rfl rfl rfl ⟨rfl, rfl, rfl, rfl, rfl⟩ rfl rfl rfl rfl rfl (by kernel_rfl) Try.func4 (by kernel_rfl)
    (of_decide_eq_true (by kernel_rfl)) (by unfold Func.isWrapper; first | (rw [if_pos (by decide +kernel)]; kernel_rfl) | (rw [if_neg (by decide +kernel)]; exact ⟨rfl, rfl⟩))
    (fun os started H enc _ => lifted os started H enc)

end Go.Proofs.Ytjfmpgfpehnnjaj.filterSignsDone
namespace Go.Proofs.Ytjfmpgfpehnnjaj
/-- The given statement. -/
theorem filterSigns_holds : Rows.FilterSignsSaid := filterSignsDone.over
end Go.Proofs.Ytjfmpgfpehnnjaj
