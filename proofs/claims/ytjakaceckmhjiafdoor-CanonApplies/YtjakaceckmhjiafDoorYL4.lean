/- The walk of CanonApplies. -/
import Derived.Test.YtjakaceckmhjiafDoorYR4
import Derived.Test.YtjakaceckmhjiafDoorY10
import Derived.Test.YtjakaceckmhjiafDoorY11
namespace Go.Proofs.YtjakaceckmhjiafDoor.Y
open Go.RowKit Go.Sort
set_option linter.unusedVariables false
set_option linter.unusedSimpArgs false

/-- What Follows answers is one. -/
theorem fol_one {T U : Nat → Tn} {n m : Nat} {e e' : Ending} (h : FolQ T n U m e) (h' : FolQ T n U m e') : e' = e ∧ ∃ d s k E, e = F3 d s k E := by
  rcases h with ⟨a1, a2⟩ | ⟨a1, a3, a2⟩ | ⟨a1, a3, a4, a2⟩ | ⟨a1, a3, a4, a5, a6, a2⟩ <;> rcases h' with ⟨b1, b2⟩ | ⟨b1, b3, b2⟩ | ⟨b1, b3, b4, b2⟩ | ⟨b1, b3, b4, b5, b6, b2⟩
  · exact ⟨b2.trans a2.symm, _, _, _, _, a2⟩
  · exact absurd b1 a1
  · exact absurd b1 a1
  · exact absurd b1 a1
  · exact absurd a1 b1
  · exact ⟨b2.trans a2.symm, _, _, _, _, a2⟩
  · exact absurd b3 a3
  · exact absurd b3 a3
  · exact absurd a1 b1
  · exact absurd a3 b3
  · exact ⟨b2.trans a2.symm, _, _, _, _, a2⟩
  · rcases a4 with g | g | g
    · exact absurd g b4
    · exact absurd b5 g
    · exact absurd b6 g
  · exact absurd a1 b1
  · exact absurd a3 b3
  · rcases b4 with g | g | g
    · exact absurd g a4
    · exact absurd a5 g
    · exact absurd a6 g
  · exact ⟨b2.trans a2.symm, _, _, _, _, a2⟩

set_option maxRecDepth 20000 in
set_option maxHeartbeats 8000000 in
theorem applies_walk (ao bo : Option Addr) (n m cap cap2 : Nat) (T U : Nat → Tn) (c : Ch) (w : World) (ht : Tab w) (hp : TL w ao n T) (hc : n ≤ cap) (hcm : cap ≤ 9223372036854775807) (hp2 : TL w bo m U) (hc2 : m ≤ cap2) (hcm2 : cap2 ≤ 9223372036854775807)
    (hA : ∀ j, j < n → -9223372036854775808 ≤ (T j).a ∧ (T j).a ≤ 9223372036854775807) (hA2 : ∀ j, j < m → -9223372036854775808 ≤ (U j).a ∧ (U j).a ≤ 9223372036854775807) (x1 : -9223372036854775808 ≤ c.xa) (x2 : c.xa ≤ 9223372036854775807)
    (hF2 : ∀ W : World, Go.RowKit.Below w.heap.size w W → Calls Tryd.prog 15 #[.slice ao n cap, .slice bo m cap2] W fun e w' => FolQ T n U m e ∧ Go.RowKit.Below W.heap.size W w') :
    Calls Tryd.prog 3 #[.slice ao n cap, .slice bo m cap2, .agg #[.bool c.back, .int .i64 c.slow, .bool c.mir, .int .i64 c.xl, .int .i64 c.xa, .int .i64 c.xo, .int .i64 c.s, .int .i64 c.h, .int .i64 c.d]] w fun e w' => e = .returned (.bool true) ∧ Go.RowKit.Below w.heap.size w w' := by
  have hW1 := fun (W : World) (hg : Go.RowKit.Below w.heap.size w W) => Wrong_any ao n cap T W (hp.keep hg) hc
  have hW2 := fun (W : World) (hg : Go.RowKit.Below w.heap.size w W) => refWrong_any ao n cap T W (hp.keep hg) hc hA
  have hE1 := fun (hok : OkL T n) (W : World) (hg : Go.RowKit.Below w.heap.size w W) => End_any ao n cap T W (hp.keep hg) hc hok
  have hE2 := fun (hok : OkL T n) (W : World) (hg : Go.RowKit.Below w.heap.size w W) => refEnd_any ao n cap T W (hp.keep hg) hc hok
  have hAp := fun (W : World) (hg : Go.RowKit.Below w.heap.size w W) => Apply_q c.back c.slow c.mir c.xl c.xa c.xo c.s c.h c.d ao n cap T W (ht.step hg) (hp.keep hg) hc
  have hRp := fun (W : World) (hg : Go.RowKit.Below w.heap.size w W) => refApply_any c ao n cap T W (hp.keep hg) hc hA x1 x2
  have hF1 := fun (W : World) (hg : Go.RowKit.Below w.heap.size w W) => Follows_any ao bo n m cap cap2 T U W (ht.step hg) (hp.keep hg) (hp2.keep hg) hc hc2
  have HOk : Hid (wr T n = 0 → OkL T n) := wr_zero
  generalize wr T n = WR at *
  go_enter Tryd.func3, Tryd.ntmps3
  go_wp2_with fail
  refine (hW1 _ (by go_grown)).mono ?_
  rintro e w1 ⟨rfl, hb1⟩
  have z1 := hb1.size
  simp at z1
  have h01 : Go.RowKit.Below w.heap.size w w1 := Below.trans (by go_grown) (hb1.mono (by simp))
  have kB : CB w1 w.heap.size c := ⟨by omega, keepC hb1 (by simp) (by simp [go_sem]), keepC hb1 (by simp) (by simp [go_sem]), keepC hb1 (by simp) (by simp [go_sem]), keepC hb1 (by simp) (by simp [go_sem]), keepC hb1 (by simp) (by simp [go_sem]), keepC hb1 (by simp) (by simp [go_sem]), keepC hb1 (by simp) (by simp [go_sem]), keepC hb1 (by simp) (by simp [go_sem]), keepC hb1 (by simp) (by simp [go_sem])⟩
  clear hb1 z1
  go_wp2_with fail
  refine (hW2 _ h01).mono ?_
  rintro e w2 ⟨rfl, hb2⟩
  have h02 : Go.RowKit.Below w.heap.size w w2 := h01.trans (hb2.mono h01.size)
  replace kB := kB.keep hb2
  have hww : (WR != WR) = false := by simp
  clear hb2 h01
  go_upto_region 3 with fail
  go_cut [29] (fun v wx => v = .bool false ∧ Go.RowKit.Below w2.heap.size w2 wx)
  case first =>
    clear hAp hRp hF1 hF2
    go_wp2_with fail
    refine (hW2 _ h02).mono ?_
    rintro e w3 ⟨rfl, hb3⟩
    have h03 : Go.RowKit.Below w.heap.size w w3 := h02.trans (hb3.mono h02.size)
    by_cases hw : WR = 0
    · have hwb : (WR == 0) = true := by simp [hw]
      have e1 := hE1 (HOk.out hw)
      have e2 := hE2 (HOk.out hw)
      have hee : (en T n != en T n) = false := by simp
      clear hE1 hE2 hW1 hW2 hw
      generalize en T n = E at *
      go_wp2_with fail
      refine (e1 _ h03).mono ?_
      rintro e w4 ⟨rfl, hb4⟩
      have h04 : Go.RowKit.Below w.heap.size w w4 := h03.trans (hb4.mono h03.size)
      go_wp2_with fail
      refine (e2 _ h04).mono ?_
      rintro e w5 ⟨rfl, hb5⟩
      go_wp2_with fail
      go_meet
      case rel => exact ⟨rfl, (hb3.trans (hb4.mono hb3.size)).trans (hb5.mono (hb3.trans (hb4.mono hb3.size)).size)⟩
    · have hwb : (WR == 0) = false := by simp [hw]
      clear hE1 hE2 hW1 hW2
      go_wp2_with fail
      go_meet
      case rel => exact ⟨rfl, hb3⟩
  case rest =>
    obtain ⟨rfl, hb3⟩ := hcut
    rename World => w3
    have h03 : Go.RowKit.Below w.heap.size w w3 := h02.trans (hb3.mono h02.size)
    replace kB := kB.keep hb3
    clear hb3 h02 hE1 hE2 hW1 hW2 HOk
    have kB' := kB
    obtain ⟨lt, c0, c1, c2, c3, c4, c5, c6, c7, c8⟩ := kB'
    go_wp2_with fail
    refine (hAp _ h03).mono ?_
    rintro e w4 ⟨hb4, hq4⟩
    have h04 : Go.RowKit.Below w.heap.size w w4 := h03.trans (hb4.mono h03.size)
    replace kB := kB.keep hb4
    clear lt c0 c1 c2 c3 c4 c5 c6 c7 c8
    obtain ⟨lt, c0, c1, c2, c3, c4, c5, c6, c7, c8⟩ := kB
    rcases hq4 with ⟨hne, rfl⟩ | ⟨mb, V, rfl, hV, hAV⟩
    · go_wp2_with fail
      refine (hRp _ h04).mono ?_
      rintro e w5 ⟨hb5, hq5⟩
      have h05 : Go.RowKit.Below w.heap.size w w5 := h04.trans (hb5.mono h04.size)
      rcases hq5 with ⟨_, rfl⟩ | ⟨_, _, _, _, _, _, _, hA5⟩
      · have hS := Same_any none none 0 0 0 0 T T w5 ⟨fun h => by omega⟩ ⟨fun h => by omega⟩ (by omega) (by omega) (by omega) (by omega)
        have hee : (ae c T n != ae c T n) = false := by simp
        clear lt c0 c1 c2 c3 c4 c5 c6 c7 c8 hb5 hb4 hne
        generalize ae c T n = AE at *
        go_wp2_with fail
        refine hS.mono ?_
        rintro e w6 ⟨⟨B, rfl, hB⟩, hb6⟩
        have hBt : B = true := by first | exact hB.2 rfl | exact hB.2 trivial | simpa using hB
        subst hBt
        have h06 : Go.RowKit.Below w.heap.size w w6 := h05.trans (hb6.mono h05.size)
        clear hB hS hb6
        go_wp2_with fail
        refine (hF1 _ h06).mono ?_
        rintro e wf ⟨hqf, hbf⟩
        have h0f : Go.RowKit.Below w.heap.size w wf := (h06).trans (hbf.mono (h06).size)
        obtain ⟨_, dd, ds, dk, dE, rfl⟩ := fol_one hqf hqf
        have HQ : Hid (∀ e', FolQ T n U m e' → e' = F3 dd ds dk dE) := fun e' he' => (fol_one hqf he').1
        have h0g : Go.RowKit.Below w.heap.size w (wf.alloc (Obj.cells #[.int .i64 ds, .int .i64 dk] 26)) := h0f.alloc h0f.size _
        clear hqf hbf hF1
        unfold F3
        go_wp2_with fail
        refine (hF2 _ h0g).mono ?_
        rintro e wg ⟨hqg, hbg⟩
        have he := HQ.out e hqg
        unfold F3 at he
        subst he
        have zg := hbg.size
        simp at zg
        have i0 : wg.cell? ⟨wf.heap.size, 0, none⟩ = some (.int .i64 ds) := keepC hbg (by simp) (by simp [go_sem])
        have i1 : wg.cell? ⟨wf.heap.size, 1, none⟩ = some (.int .i64 dk) := keepC hbg (by simp) (by simp [go_sem])
        have h0h : Go.RowKit.Below w.heap.size w wg := h0g.trans (hbg.mono h0g.size)
        have ig : wf.heap.size < wg.heap.size := by omega
        clear HQ hqg hbg hF2
        go_wp2_with fail
        go_ret
        exact ⟨rfl, h0h.alloc h0h.size _⟩
      · exact absurd hA5.ok hne
    · go_wp2_with fail
      refine (hRp _ h04).mono ?_
      rintro e w5 ⟨hb5, hq5⟩
      have h05 : Go.RowKit.Below w.heap.size w w5 := h04.trans (hb5.mono h04.size)
      rcases hq5 with ⟨hne, _⟩ | ⟨ro, rc, Z, rfl, hZ, hr1, hr2, hAZ⟩
      · exact absurd hAV.ok hne
      · have hlen := (ae_zero hAV.ok).1.len
        have HE : Hid (tab V n = tab Z n) := App.one hAV hAZ
        have hS := Same_any (some ⟨mb, 0, none⟩) ro n n n rc V Z w5 (hV.keep hb5) hZ (Nat.le_refl _) hr1 (by omega) hr2
        clear lt c0 c1 c2 c3 c4 c5 c6 c7 c8 hb5 hb4 hAV hAZ
        go_wp2_with fail
        refine hS.mono ?_
        rintro e w6 ⟨⟨B, rfl, hB⟩, hb6⟩
        have hBt : B = true := hB.2 HE.out
        subst hBt
        have h06 : Go.RowKit.Below w.heap.size w w6 := h05.trans (hb6.mono h05.size)
        clear hB hS hb6 HE
        go_wp2_with fail
        refine (hF1 _ h06).mono ?_
        rintro e wf ⟨hqf, hbf⟩
        have h0f : Go.RowKit.Below w.heap.size w wf := (h06).trans (hbf.mono (h06).size)
        obtain ⟨_, dd, ds, dk, dE, rfl⟩ := fol_one hqf hqf
        have HQ : Hid (∀ e', FolQ T n U m e' → e' = F3 dd ds dk dE) := fun e' he' => (fol_one hqf he').1
        have h0g : Go.RowKit.Below w.heap.size w (wf.alloc (Obj.cells #[.int .i64 ds, .int .i64 dk] 26)) := h0f.alloc h0f.size _
        clear hqf hbf hF1
        unfold F3
        go_wp2_with fail
        refine (hF2 _ h0g).mono ?_
        rintro e wg ⟨hqg, hbg⟩
        have he := HQ.out e hqg
        unfold F3 at he
        subst he
        have zg := hbg.size
        simp at zg
        have i0 : wg.cell? ⟨wf.heap.size, 0, none⟩ = some (.int .i64 ds) := keepC hbg (by simp) (by simp [go_sem])
        have i1 : wg.cell? ⟨wf.heap.size, 1, none⟩ = some (.int .i64 dk) := keepC hbg (by simp) (by simp [go_sem])
        have h0h : Go.RowKit.Below w.heap.size w wg := h0g.trans (hbg.mono h0g.size)
        have ig : wf.heap.size < wg.heap.size := by omega
        clear HQ hqg hbg hF2
        go_wp2_with fail
        go_ret
        exact ⟨rfl, h0h.alloc h0h.size _⟩
end Go.Proofs.YtjakaceckmhjiafDoor.Y
