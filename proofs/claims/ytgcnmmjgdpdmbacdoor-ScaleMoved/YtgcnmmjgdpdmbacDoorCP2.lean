/- For every list of pitches, interval, pitch, kind and row of numbers: a chord that is moved is the same chord, its kind and turn stay, its root moves; in whatever octaves its notes stand the chord is what they were made of: the law's text returns true, where the program's three tables (half tones, chords, fifths) stand as the program's text lays them: no other condition. -/
import Derived.Test.YtgcnmmjgdpdmbacDoorRows
import Derived.Test.YtgcnmmjgdpdmbacDoorCards
import Derived.Test.YtgcnmmjgdpdmbacDoorTie
import Derived.Test.YtgcnmmjgdpdmbacDoorSTab5
import Derived.Test.YtgcnmmjgdpdmbacDoorMOpen
import Derived.Test.YtgcnmmjgdpdmbacDoorCM2
import Derived.WalkKit
import Derived.ProofKit
import Derived.OpenShut
import Derived.ChangeOld
import Derived.Below
import Derived.Lib.SmallJoins
import Derived.LaidMore
import Derived.Stop.Joined
import Derived.SevenTiedAt
namespace Go.Proofs.YtgcnmmjgdpdmbacDoor.scaleMovedDone
open Go.ChangeShapes Go.WideShapes Go.ChangeAt Go.RowKit Go.Joins
set_option linter.unusedVariables false


set_option maxRecDepth 100000 in
theorem lifted (os : Os) (started : os.Started) (H : Type) (enc : TypeId × Value → H) :
    ReturnsInHanded {} Tryd.checked os 3 .any (fun w args => (Rows.scaleMovedSpec.pre enc Tryd.prog Tryd.f3 [] false w args ∧ laidMetH Tryd.prog movedList w) ∧ sizedMet enc Tryd.prog Tryd.f3 (OpenSpec.ofChange Rows.scaleMovedSpec) false w args) (Rows.scaleMovedSpec.post enc Tryd.prog Tryd.f3 false true false false) := by
  refine returnsInHanded_of_change_and (C := Tryd.checked) (X := fun w _ => laidMetH Tryd.prog movedList w) (fun _ _ _ hh h => h.of_heap hh) own started (by kernel_rfl) Tryd.func3
    (ChangeSpec.witness_shaped (enc := enc) (C := Tryd.checked) (os := os) (X := fun w _ => laidMetH Tryd.prog movedList w) false (World.doorLaid Tryd.prog 400 os) #[.slice none 0 0, .agg #[.int .i64 0, .int .i64 0], .agg #[.int .i64 0, .int .i64 0, .int .i64 0], .int .i64 0, .slice none 0 0] 8 rfl (World.shaped_of_RefB (by kernel_rfl) (by kernel_rfl)) (by kernel_rfl) (by kernel_rfl) (by kernel_rfl) (door_met7 os _)) ?_
  intro W base args ds gs before hval0 hW _ hsz0 hL _
  have hval : ∀ (j : Nat) t v, Tryd.f3.params[j]? = some t → args[j]? = some v → Value.okWide Tryd.prog W .any base t v := hval0
  have hW' := hW
  obtain ⟨p, q, hA0, hV, rfl, hfz, hnd⟩ := hW
  have hA : DataW.TrodAll enc Tryd.prog W 0 (fun _ => true) true Tryd.f3.params.toList args.toList ds p := hA0
  rw [Tryd.params3] at hA hval
  obtain ⟨v0, vs0, d0, ds0, p0, q0, hargs, rfl, rfl, h0, r0⟩ := trodAll_cons hA
  obtain ⟨v1, vs1, d1, ds1, p1, q1, rfl, rfl, rfl, h1, r1⟩ := trodAll_cons r0
  obtain ⟨v2, vs2, d2, ds2, p2, q2, rfl, rfl, rfl, h2, r2⟩ := trodAll_cons r1
  obtain ⟨v3, vs3, d3, ds3, p3, q3, rfl, rfl, rfl, h3, r3⟩ := trodAll_cons r2
  obtain ⟨v4, vs4, d4, ds4, p4, q4, rfl, rfl, rfl, h4, r4⟩ := trodAll_cons r3
  obtain ⟨rfl, rfl, rfl⟩ := trodAll_nil r4
  obtain rfl : args = #[v0, v1, v2, v3, v4] := by cases args; simp_all
  obtain ⟨rfl, rfl⟩ := trodVars_none hV
  have k0 := h0
  have lt0 : ∀ x ∈ p0, x.block < W.heap.size := by obtain ⟨m, hm⟩ := k0; exact DataW.trod_lt m _ _ _ hm
  have k1 := h1
  have lt1 : ∀ x ∈ p1, x.block < W.heap.size := by obtain ⟨m, hm⟩ := k1; exact DataW.trod_lt m _ _ _ hm
  have k2 := h2
  have lt2 : ∀ x ∈ p2, x.block < W.heap.size := by obtain ⟨m, hm⟩ := k2; exact DataW.trod_lt m _ _ _ hm
  have k3 := h3
  have lt3 : ∀ x ∈ p3, x.block < W.heap.size := by obtain ⟨m, hm⟩ := k3; exact DataW.trod_lt m _ _ _ hm
  have k4 := h4
  have lt4 : ∀ x ∈ p4, x.block < W.heap.size := by obtain ⟨m, hm⟩ := k4; exact DataW.trod_lt m _ _ _ hm
  obtain ⟨ao0, n0, c0, L0, A0, O0, rfl, hn0, hc0, pl0, hA0'⟩ := open_pitches (hval 0 22 v0 rfl rfl) h0
  obtain ⟨c1a, c1b, y1a, y1b, m1, rfl, e1d, e1p, g1a, g1b⟩ := open_agg2 Tryd.underlying24 (by kernel_rfl) (by kernel_rfl) (hval 1 24 v1 rfl rfl) h1
  obtain ⟨a1a, s1a, t1a, w1a⟩ := DataW.trod_int Tryd.underlying3 g1a
  obtain rfl : c1a = .int .i64 a1a := by simpa using s1a
  obtain ⟨a1b, s1b, t1b, w1b⟩ := DataW.trod_int Tryd.underlying3 g1b
  obtain rfl : c1b = .int .i64 a1b := by simpa using s1b
  obtain ⟨c2a, c2b, c2c, y2a, y2b, y2c, m2, rfl, e2d, e2p, g2a, g2b, g2c⟩ := open_agg3 Tryd.underlying26 (by kernel_rfl) (by kernel_rfl) (hval 2 26 v2 rfl rfl) h2
  obtain ⟨a2a, s2a, t2a, w2a⟩ := DataW.trod_int Tryd.underlying3 g2a
  obtain rfl : c2a = .int .i64 a2a := by simpa using s2a
  obtain ⟨a2b, s2b, t2b, w2b⟩ := DataW.trod_int Tryd.underlying3 g2b
  obtain rfl : c2b = .int .i64 a2b := by simpa using s2b
  obtain ⟨a2c, s2c, t2c, w2c⟩ := DataW.trod_int Tryd.underlying3 g2c
  obtain rfl : c2c = .int .i64 a2c := by simpa using s2c
  obtain ⟨a3, rfl, rfl, rfl, w3⟩ := open_int Tryd.underlying3 (hval 3 3 v3 rfl rfl) h3
  obtain ⟨ao4, n4, c4, U4, rfl, hn4, hc4, il4⟩ := open_ilist (hval 4 27 v4 rfl rfl) h4
  have hby : n0 * 24 ≤ 140737488355328 := by
    rcases pl_len k0 with e | ⟨es, sp, rfl, e⟩
    · omega
    · have : (es.length + sp.length) * Tryd.prog.bytesOf 26 ≤ reachBytes := sized_slice hsz0 (j := 0) (t := 22) (e := 26) (by rw [Tryd.params3]; rfl) rfl Tryd.underlying22
      rw [show Tryd.prog.bytesOf 26 = 24 by kernel_rfl] at this
      unfold reachBytes at this
      omega
  have ht := moved_of_laid hL
  clear hA0 hval0
  refine (moved_walk ao0 n0 c0 L0 A0 O0 a1a a1b a2a a2b a2c a3 ao4 n4 c4 U4 W ht.1 ht.2.1 ht.2.2 pl0 hn0 hc0 hA0' hby (ibd w1a).1 (ibd w1a).2 il4 hn4 hc4).mono fun e W' ⟨he, bel⟩ => ?_
  subst he
  exact ⟨_, rfl, _, _, _, [], _, [], hW', trodAll_mk1 (shut_bool Tryd.underlying4 _), (trodAll_cons_mk (Below.trod laidOut (by kernel_rfl) (of_decide_eq_true (by kernel_rfl)) k0 bel lt0) (trodAll_cons_mk (Below.trod laidOut (by kernel_rfl) (of_decide_eq_true (by kernel_rfl)) k1 bel lt1) (trodAll_cons_mk (Below.trod laidOut (by kernel_rfl) (of_decide_eq_true (by kernel_rfl)) k2 bel lt2) (trodAll_cons_mk (Below.trod laidOut (by kernel_rfl) (of_decide_eq_true (by kernel_rfl)) k3 bel lt3) (trodAll_cons_mk (Below.trod laidOut (by kernel_rfl) (of_decide_eq_true (by kernel_rfl)) k4 bel lt4) trodAll_mk0))))), rfl, bel.frame _, fun h => by cases h⟩

theorem over : Rows.scaleMovedRow.holds Tryd.pinned (OpenSpec.ofChange Rows.scaleMovedSpec) :=
  OpenClaim.holds_of_wide 3 Tryd.f3 rfl rfl rfl rfl rfl rfl rfl ⟨rfl, rfl, rfl, rfl, rfl⟩ rfl rfl rfl rfl rfl (by kernel_rfl) Tryd.func3 (by kernel_rfl)
    (of_decide_eq_true (by kernel_rfl)) (by unfold Func.isWrapper; first | (rw [if_pos (by decide +kernel)]; kernel_rfl) | (rw [if_neg (by decide +kernel)]; exact ⟨rfl, rfl⟩))
    (fun os started H enc _ => lifted os started H enc)

theorem card : Claim7.holds Tryd.pinned (.plain (OpenSpec.ofChange Rows.scaleMovedSpec)) Rows.scaleMovedCard :=
  Claim7.holds_tied_plain_at .later [] [.data, .data, .data] true Rows.scaleMovedCard.stood.harness Rows.scaleMovedCard.stood.looks
    over (fun _ h => by cases h) (by kernel_rfl) (fun _ h => by cases h) scaleMoved_row_tie rfl ⟨rfl, rfl⟩ (by kernel_rfl) rfl
    (fun f fn hf hfn => by
      obtain rfl : f = 3 := Option.some.inj ((show Tryd.prog.funcNamed "cantus/cantuslaw3.ScaleMoved" = some 3 by kernel_rfl).symm.trans hf) |>.symm
      obtain rfl : fn = Tryd.f3 := (Option.some.inj (Tryd.func3.symm.trans hfn)).symm
      exact ⟨by kernel_rfl, fun j t ht => by
        rw [Tryd.params3] at ht
        have hm : t ∈ [22, 24, 26, 3, 27] := by simpa using Array.mem_of_getElem? ht
        have hall : ([22, 24, 26, 3, 27].all fun u => !Tryd.prog.wantsStandIn u) = true := by kernel_rfl
        exact (show Tryd.prog.wantsStandIn t = false by simpa using List.all_eq_true.1 hall t hm)⟩)
    (by kernel_rfl)

end Go.Proofs.YtgcnmmjgdpdmbacDoor.scaleMovedDone
namespace Go.Proofs.YtgcnmmjgdpdmbacDoor
/-- The given statement. -/
theorem scaleMoved_holds : Rows.ScaleMovedCardSaid := scaleMovedDone.card
end Go.Proofs.YtgcnmmjgdpdmbacDoor
