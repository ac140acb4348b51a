/- The walk of CanonFollows. -/
import Derived.Test.YtjakaceckmhjiafDoorYL1
namespace Go.Proofs.YtjakaceckmhjiafDoor.Y
open Go.RowKit Go.Sort
set_option linter.unusedVariables false
set_option linter.unusedSimpArgs false

theorem app_mk {c : Ch} {T U : Nat → Tn} {n : Nat} : Mk c T U n ↔ App c T n U := ⟨fun h => ⟨h.1, h.2.1, h.2.2⟩, fun h => ⟨h.ok, h.perm, h.ord⟩⟩
/-- A line that is another one, later and moved, is told to follow it just so. -/
theorem fol_found {s h d : Int} {T X : Nat → Tn} {n : Nat} {e : Ending} (hA : App (follow s h d) T n X) (h0 : 0 < n) (hq : FolQ T n X n e) : e = F3 d s h 0 := by
  obtain ⟨hT, hr, hz⟩ := ae_zero hA.ok
  have hX0 := follow_is hA 0 h0
  have e1 : (X 0).t - (T 0).t = d := by
    rw [hX0]; show 1 * (T 0).t + d - (T 0).t = d; omega
  have e2 : M.st (X 0).l (X 0).o - M.st (T 0).l (T 0).o = s := by
    rw [hX0, cx_st (hz 0 h0)]; show M.st (T 0).l (T 0).o + s - M.st (T 0).l (T 0).o = s; omega
  have e3 : M.hv (X 0).l (X 0).a (X 0).o - M.hv (T 0).l (T 0).a (T 0).o = h := by
    rw [hX0, cx_hv (hz 0 h0)]; show M.hv (T 0).l (T 0).a (T 0).o + h - M.hv (T 0).l (T 0).a (T 0).o = h; omega
  have hf : fc T X = follow s h d := by unfold fc follow; rw [e1, e2, e3]
  have hw1 := wr_of hT
  have hw2 := wr_of hA.okl
  rcases hq with ⟨hne, _⟩ | ⟨_, hne, _⟩ | ⟨_, _, h3, _⟩ | ⟨_, _, _, _, _, he⟩
  · exact absurd hw1 hne
  · exact absurd hw2 hne
  · rcases h3 with h3 | h3 | h3
    · omega
    · exact absurd rfl h3
    · rw [hf] at h3; exact absurd (app_mk.2 hA) h3
  · rw [he, e1, e2, e3]

set_option maxRecDepth 20000 in
set_option maxHeartbeats 8000000 in
theorem follows_walk (ao bo : Option Addr) (n m cap cap2 : Nat) (T U : Nat → Tn) (dl s h : Int) (w : World) (ht : Tab w) (hp : TL w ao n T) (hc : n ≤ cap) (hcm : cap ≤ 9223372036854775807) (hp2 : TL w bo m U) (hc2 : m ≤ cap2) (hcm2 : cap2 ≤ 9223372036854775807) :
    Calls Tryd.prog 6 #[.slice ao n cap, .slice bo m cap2, .int .i64 dl, .agg #[.int .i64 s, .int .i64 h]] w fun e w' => e = .returned (.bool true) ∧ Go.RowKit.Below w.heap.size w w' := by
  go_enter Tryd.func6, Tryd.ntmps6
  go_wp2_with fail
  refine (alive_any _ (ht.step (by go_grown))).mono ?_
  rintro e w1 ⟨rfl, hb1⟩
  have z1 := hb1.size
  simp at z1
  have h01 : Go.RowKit.Below w.heap.size w w1 := Below.trans (by go_grown) (hb1.mono (by simp))
  have k1 : B2 w1 w.heap.size s h := ⟨by omega, keepC hb1 (by simp) (by simp [go_sem]), keepC hb1 (by simp) (by simp [go_sem])⟩
  clear hb1 z1
  have k1' := k1
  obtain ⟨i0, i1, i2⟩ := k1'
  have hFo := fun (W : World) (hg : Go.RowKit.Below w.heap.size w W) => Follows_any ao bo n m cap cap2 T U W (ht.step hg) (hp.keep hg) (hp2.keep hg) hc hc2
  have tail : Hid (∀ (e : Ending), FolQ T n U m e → (∃ d s h E, e = F3 d s h E ∧ E ≠ 0) ∨ (m = n ∧ ∃ d s h, e = F3 d s h 0 ∧ App (follow s h d) T n U)) := fun e hq => by
    rcases hq with ⟨hne, he⟩ | ⟨_, hne, he⟩ | ⟨_, _, _, he⟩ | ⟨_, _, _, hmn, hM, he⟩
    · exact .inl ⟨_, _, _, _, he, hne⟩
    · exact .inl ⟨_, _, _, _, he, hne⟩
    · exact .inl ⟨_, _, _, _, he, by decide⟩
    · exact .inr ⟨hmn, _, _, _, he, app_mk.1 hM⟩
  unfold F3 at tail
  go_wp2_with fail
  refine (Apply_q false 1 false 0 0 0 s h dl ao n cap T _ (ht.step h01) (hp.keep h01) hc).mono ?_
  rintro e w2 ⟨hb2, hq2⟩
  have h02 : Go.RowKit.Below w.heap.size w w2 := h01.trans (hb2.mono h01.size)
  replace k1 := k1.keep hb2
  clear i0 i1 i2
  rcases hq2 with ⟨hne, rfl⟩ | ⟨mX, X, rfl, hX, hA⟩
  · have hne2 : (ae ⟨false, 1, false, 0, 0, 0, s, h, dl⟩ T n == 0) = false := by simp; exact hne
    clear hne
    generalize ae ⟨false, 1, false, 0, 0, 0, s, h, dl⟩ T n = AE at *
    go_wp2_with fail
    refine (hFo _ h02).mono ?_
    rintro e wf ⟨hqf, hbf⟩
    have h0f : Go.RowKit.Below w.heap.size w wf := h02.trans (hbf.mono (h02).size)
    rcases tail.out e hqf with ⟨d, s', h', E, rfl, hE⟩ | ⟨hmn, d, s', h', rfl, hAp⟩
    · have hEb : (E != 0) = true := by simp [hE]
      clear tail hFo hqf hE
      go_wp2_with fail
      go_ret
      exact ⟨rfl, h0f.alloc h0f.size _⟩
    · subst hmn
      have hgf : Go.RowKit.Below w.heap.size w (wf.alloc (Obj.cells #[.int .i64 s', .int .i64 h'] 26)) := h0f.alloc h0f.size _
      have hlen := (ae_zero hAp.ok).1.len
      have HO : Hid (ae ⟨false, 1, false, 0, 0, 0, s', h', d⟩ T m = 0) := hAp.ok
      have HAp : Hid (App (follow s' h' d) T m U) := hAp
      clear tail hFo hqf hAp
      go_wp2_with fail
      refine (Apply_q false 1 false 0 0 0 s' h' d ao m cap T _ (ht.step hgf) (hp.keep hgf) hc).mono ?_
      rintro e wg ⟨hbg, hqg⟩
      have h0g : Go.RowKit.Below w.heap.size w wg := hgf.trans (hbg.mono hgf.size)
      rcases hqg with ⟨hneg, _⟩ | ⟨mG, G, rfl, hG, hAG⟩
      · exact absurd HO.out hneg
      · have HE : Hid (tab G m = tab U m) := App.one hAG HAp.out
        have hS := Same_any (some ⟨mG, 0, none⟩) bo m m m cap2 G U wg hG (hp2.keep h0g) (Nat.le_refl _) hc2 (by omega) hcm2
        clear HO HAp hAG
        go_wp2_with fail
        refine hS.mono ?_
        rintro e wh ⟨⟨B, rfl, hB⟩, hbh⟩
        have hBt : B = true := hB.2 HE.out
        subst hBt
        clear hB hS HE
        go_wp2_with fail
        go_ret
        exact ⟨rfl, h0g.trans (hbh.mono h0g.size)⟩
  · have hA' : App (follow s h dl) T n X := hA
    clear hA
    by_cases hn0 : 0 < n
    · have hn1 : (0 : Int) < (n : Int) := by omega
      have hFx := Follows_any ao (some ⟨mX, 0, none⟩) n n cap n T X w2 (ht.step h02) (hp.keep h02) hX hc (Nat.le_refl _)
      go_wp2_with fail
      refine hFx.mono ?_
      rintro e w3 ⟨hq3, hb3⟩
      have h03 : Go.RowKit.Below w.heap.size w w3 := h02.trans (hb3.mono h02.size)
      have he := fol_found hA' hn0 hq3
      unfold F3 at he
      subst he
      replace k1 := k1.keep hb3
      obtain ⟨i0, i1, i2⟩ := k1
      have h04 : Go.RowKit.Below w.heap.size w (w3.alloc (Obj.cells #[.int .i64 s, .int .i64 h] 26)) := h03.alloc h03.size _
      clear hFx hq3 hA' hX hb3 hb2
      go_wp2_with fail
      refine (hFo _ h04).mono ?_
      rintro e wf ⟨hqf, hbf⟩
      have h0f : Go.RowKit.Below w.heap.size w wf := h04.trans (hbf.mono (h04).size)
      rcases tail.out e hqf with ⟨d, s', h', E, rfl, hE⟩ | ⟨hmn, d, s', h', rfl, hAp⟩
      · have hEb : (E != 0) = true := by simp [hE]
        clear tail hFo hqf hE
        go_wp2_with fail
        go_ret
        exact ⟨rfl, h0f.alloc h0f.size _⟩
      · subst hmn
        have hgf : Go.RowKit.Below w.heap.size w (wf.alloc (Obj.cells #[.int .i64 s', .int .i64 h'] 26)) := h0f.alloc h0f.size _
        have hlen := (ae_zero hAp.ok).1.len
        have HO : Hid (ae ⟨false, 1, false, 0, 0, 0, s', h', d⟩ T m = 0) := hAp.ok
        have HAp : Hid (App (follow s' h' d) T m U) := hAp
        clear tail hFo hqf hAp
        go_wp2_with fail
        refine (Apply_q false 1 false 0 0 0 s' h' d ao m cap T _ (ht.step hgf) (hp.keep hgf) hc).mono ?_
        rintro e wg ⟨hbg, hqg⟩
        have h0g : Go.RowKit.Below w.heap.size w wg := hgf.trans (hbg.mono hgf.size)
        rcases hqg with ⟨hneg, _⟩ | ⟨mG, G, rfl, hG, hAG⟩
        · exact absurd HO.out hneg
        · have HE : Hid (tab G m = tab U m) := App.one hAG HAp.out
          have hS := Same_any (some ⟨mG, 0, none⟩) bo m m m cap2 G U wg hG (hp2.keep h0g) (Nat.le_refl _) hc2 (by omega) hcm2
          clear HO HAp hAG
          go_wp2_with fail
          refine hS.mono ?_
          rintro e wh ⟨⟨B, rfl, hB⟩, hbh⟩
          have hBt : B = true := hB.2 HE.out
          subst hBt
          clear hB hS HE
          go_wp2_with fail
          go_ret
          exact ⟨rfl, h0g.trans (hbh.mono h0g.size)⟩
    · have hn1 : ¬ (0 : Int) < (n : Int) := by omega
      clear hA'
      go_wp2_with fail
      refine (hFo _ h02).mono ?_
      rintro e wf ⟨hqf, hbf⟩
      have h0f : Go.RowKit.Below w.heap.size w wf := h02.trans (hbf.mono (h02).size)
      rcases tail.out e hqf with ⟨d, s', h', E, rfl, hE⟩ | ⟨hmn, d, s', h', rfl, hAp⟩
      · have hEb : (E != 0) = true := by simp [hE]
        clear tail hFo hqf hE
        go_wp2_with fail
        go_ret
        exact ⟨rfl, h0f.alloc h0f.size _⟩
      · subst hmn
        have hgf : Go.RowKit.Below w.heap.size w (wf.alloc (Obj.cells #[.int .i64 s', .int .i64 h'] 26)) := h0f.alloc h0f.size _
        have hlen := (ae_zero hAp.ok).1.len
        have HO : Hid (ae ⟨false, 1, false, 0, 0, 0, s', h', d⟩ T m = 0) := hAp.ok
        have HAp : Hid (App (follow s' h' d) T m U) := hAp
        clear tail hFo hqf hAp
        go_wp2_with fail
        refine (Apply_q false 1 false 0 0 0 s' h' d ao m cap T _ (ht.step hgf) (hp.keep hgf) hc).mono ?_
        rintro e wg ⟨hbg, hqg⟩
        have h0g : Go.RowKit.Below w.heap.size w wg := hgf.trans (hbg.mono hgf.size)
        rcases hqg with ⟨hneg, _⟩ | ⟨mG, G, rfl, hG, hAG⟩
        · exact absurd HO.out hneg
        · have HE : Hid (tab G m = tab U m) := App.one hAG HAp.out
          have hS := Same_any (some ⟨mG, 0, none⟩) bo m m m cap2 G U wg hG (hp2.keep h0g) (Nat.le_refl _) hc2 (by omega) hcm2
          clear HO HAp hAG
          go_wp2_with fail
          refine hS.mono ?_
          rintro e wh ⟨⟨B, rfl, hB⟩, hbh⟩
          have hBt : B = true := hB.2 HE.out
          subst hBt
          clear hB hS HE
          go_wp2_with fail
          go_ret
          exact ⟨rfl, h0g.trans (hbh.mono h0g.size)⟩
end Go.Proofs.YtjakaceckmhjiafDoor.Y
