/- What the document's Spans comes to, at every beat and every length. -/
import Derived.Test.YtgcnmmjgdpdmbacB13
import Derived.Test.YtgcnmmjgdpdmbacB14
import Derived.Deep.RegionHeld3
import Derived.Deep.DeepCutAuto
namespace Go.Proofs.Ytgcnmmjgdpdmbac.F
open Go.RowKit
set_option linter.unusedVariables false
set_option linter.unusedSimpArgs false

theorem new_kept2 {X w' : World} {v0 v1 : Value} {t : TypeId} (hb : Below (X.alloc (Obj.cells #[v0, v1] t)).heap.size (X.alloc (Obj.cells #[v0, v1] t)) w') : w'.cell? ⟨X.heap.size, 0, none⟩ = some v0 ∧ w'.cell? ⟨X.heap.size, 1, none⟩ = some v1 ∧ w'.frozen? ⟨X.heap.size, 0, none⟩ = false ∧ w'.frozen? ⟨X.heap.size, 1, none⟩ = false ∧ X.heap.size < w'.heap.size ∧ Below X.heap.size X w' :=
  ⟨keepC hb (by simp) (by simp [go_sem]), keepC hb (by simp) (by simp [go_sem]), keepF hb (by simp) (by simp [go_sem]), keepF hb (by simp) (by simp [go_sem]), by have := hb.size; simp at this; omega, ((Below.refl _ _).alloc (Nat.le_refl _) _).trans (hb.mono (by simp))⟩
theorem new_kept2_drew {X w' : World} {v0 v1 : Value} {t : TypeId} (hb : Below (X.alloc (Obj.cells #[v0, v1] t)).drew.heap.size (X.alloc (Obj.cells #[v0, v1] t)).drew w') : w'.cell? ⟨X.heap.size, 0, none⟩ = some v0 ∧ w'.cell? ⟨X.heap.size, 1, none⟩ = some v1 ∧ w'.frozen? ⟨X.heap.size, 0, none⟩ = false ∧ w'.frozen? ⟨X.heap.size, 1, none⟩ = false ∧ X.heap.size < w'.heap.size ∧ Below X.heap.size X w' :=
  ⟨keepC hb (by simp) (by simp [go_sem]), keepC hb (by simp) (by simp [go_sem]), keepF hb (by simp) (by simp [go_sem]), keepF hb (by simp) (by simp [go_sem]), by have := hb.size; simp at this; omega, (((Below.refl _ _).alloc (Nat.le_refl _) _).drew).trans (hb.mono (by simp))⟩

/-- The variables of the document's Spans while it goes through the leaves. -/
structure SpI (w4 : World) (a : M.Fr) (o : List M.Sp) (x : Value) (wr : World) : Prop where
  b : Below w4.heap.size w4 wr
  r : wr.ownsRow (w4.heap.size + 1) 60 5 x o.length (spL o)
  a0 : wr.cell? ⟨w4.heap.size, 0, none⟩ = some (.int .i64 a.1)
  a1 : wr.cell? ⟨w4.heap.size, 1, none⟩ = some (.int .i64 a.2)
  f0 : wr.frozen? ⟨w4.heap.size, 0, none⟩ = false
  f1 : wr.frozen? ⟨w4.heap.size, 1, none⟩ = false
  lz : w4.heap.size < wr.heap.size
theorem SpI.below {w4 wr W : World} {a : M.Fr} {o : List M.Sp} {x : Value} (h : SpI w4 a o x wr) (hb : Below wr.heap.size wr W) : SpI w4 a o x W := by
  have l1 := h.lz; have l2 := hb.size
  exact ⟨h.b.trans (hb.mono (by omega)), own_step h.r hb, keepC hb l1 h.a0, keepC hb l1 h.a1, keepF hb l1 h.f0, keepF hb l1 h.f1, by omega⟩
/-- A step that leaves at alone and makes other spans. -/
theorem SpI.turn {w4 wr W : World} {a : M.Fr} {o o' : List M.Sp} {x x' : Value} (h : SpI w4 a o x wr) (hb : Below (w4.heap.size + 1) wr W) (hr : W.ownsRow (w4.heap.size + 1) 60 5 x' o'.length (spL o')) : SpI w4 a o' x' W := by
  have l1 := h.lz; have l2 := hb.size
  exact ⟨h.b.trans (hb.mono (by omega)), hr, keepC hb (by omega) h.a0, keepC hb (by omega) h.a1, keepF hb (by omega) h.f0, keepF hb (by omega) h.f1, by omega⟩
theorem SpI.put {w4 W : World} {a a' : M.Fr} {o : List M.Sp} {x : Value} (h : SpI w4 a o x W) : SpI w4 a' o x ((W.setCell ⟨w4.heap.size, 0, none⟩ (.int .i64 a'.1)).setCell ⟨w4.heap.size, 1, none⟩ (.int .i64 a'.2)) := by
  refine ⟨(h.b.setCell (p := ⟨w4.heap.size, 0, none⟩) (Nat.le_refl _) _).setCell (p := ⟨w4.heap.size, 1, none⟩) (Nat.le_refl _) _, own_put (own_put h.r (by omega)) (by omega), by simp [go_sem, h.a0], by simp [go_sem, h.a1], by simp [go_sem, h.f0], by simp [go_sem, h.f1], by simpa using h.lz⟩

set_option maxRecDepth 20000 in
set_option maxHeartbeats 8000000 in
theorem refSpans_loop (b : M.Bt) (k s : Int) (n : Nat) (ao : Option Addr) (cap : Nat) (u d : Int) (w : World) (l : List (Int × M.Fr)) (R : Option (M.Fr × List M.Sp)) (hL0 : Lies w w.heap.size b (.agg #[.int .i64 k, .int .i64 s, .slice ao n cap])) (hE : (M.wr b 1 4096).1 = 0) (hok : M.ok u d = true) (hu : ¬ u ≤ 0) (hl : M.lvs b (u, d) = some l) (hR : R = M.fold l (0, 1) []) (hsp : (R = none → M.spn b u d = (4, [])) ∧ ∀ a o, R = some (a, o) → M.spn b u d = (0, o)) :
    Calls Try.prog 13 #[.agg #[.int .i64 k, .int .i64 s, .slice ao n cap], .agg #[.int .i64 u, .int .i64 d]] w fun e w' => SpQ (M.spn b u d) w e w' := by
  obtain ⟨i0, hi, hz0, hz1, hz2⟩ := info_parts infoSp
  have hW := fun (X : World) (hb : Below w.heap.size w X) => refWrong_any _ X w.heap.size _ (Lies.step _ _ hL0 hb) hb.size
  have hFin := M.cnt_bd b hE
  have g0 : ∀ o1 o2 : Obj, Below w.heap.size w ((w.alloc o1).alloc o2) := fun o1 o2 => by go_grown
  rw [hE] at hW
  obtain ⟨k1, k2, k3, k4, _⟩ := M.ok_yes _ _ hok
  have hRt := fun X => refRight_any u d X (by omega) (by omega) (by omega) (by omega)
  rw [hok] at hRt
  have hLv := fun (X : World) (hb : Below w.heap.size w X) => leaves_any b hFin.2 (u, d) X w.heap.size _ (Lies.step _ _ hL0 hb) hb.size hFin.1 hok
  have hlok := M.lvs_ok b hFin.2 (u, d) l hok hl
  rw [hl] at hLv
  have HS : Hid (M.FK l 0 R (0, 1) []) := hR ▸ M.fk_start l (0, 1) []
  have HQ : Hid ((R = none → M.spn b u d = (4, [])) ∧ ∀ a o, R = some (a, o) → M.spn b u d = (0, o)) := hsp
  have Hlk : Hid (M.LvOk l) := hlok.1
  have l1 := hlok.2.1
  have l2 : l.length ≤ 4096 := by have := hlok.2.2; have := hFin.1; omega
  clear hsp hR hl hlok hE hFin
  go_enter Try.func13, Try.ntmps13
  go_wp2_with fail
  refine (hW _ (g0 _ _)).mono ?_
  rintro e w1 ⟨rfl, hb1⟩
  have A0 : w1.cell? ⟨w.heap.size, 0, none⟩ = some (.int .i64 k) := keepC hb1 (by simp; omega) (by simp [go_sem])
  have A1 : w1.cell? ⟨w.heap.size, 1, none⟩ = some (.int .i64 s) := keepC hb1 (by simp; omega) (by simp [go_sem])
  have A2 : w1.cell? ⟨w.heap.size, 2, none⟩ = some (.slice ao n cap) := keepC hb1 (by simp; omega) (by simp [go_sem])
  have B0 : w1.cell? ⟨w.heap.size + 1, 0, none⟩ = some (.int .i64 u) := keepC hb1 (by simp) (by simp [go_sem])
  have B1 : w1.cell? ⟨w.heap.size + 1, 1, none⟩ = some (.int .i64 d) := keepC hb1 (by simp) (by simp [go_sem])
  have h01 : Below w.heap.size w w1 := Below.trans (g0 _ _) (hb1.mono (by simp; omega))
  have z1 := hb1.size
  simp at z1
  have s1 : w.heap.size < w1.heap.size := by omega
  have s2 : w.heap.size + 1 < w1.heap.size := by omega
  clear hb1
  go_wp2_with fail
  refine (hRt _).mono ?_
  rintro e w2 ⟨rfl, hb2⟩
  have h02 : Below w.heap.size w w2 := h01.trans (hb2.mono h01.size)
  replace A0 := keepC hb2 s1 A0
  replace A1 := keepC hb2 s1 A1
  replace A2 := keepC hb2 s1 A2
  replace B0 := keepC hb2 s2 B0
  replace B1 := keepC hb2 s2 B1
  have z2 := hb2.size
  have s3 : w.heap.size < w2.heap.size := by omega
  have s4 : w.heap.size + 1 < w2.heap.size := by omega
  clear hb2
  go_wp2_with fail
  refine (hLv _ h02).mono ?_
  rintro e w4 ⟨_, g2, hb4⟩
  obtain ⟨v, rfl, hownl⟩ := g2 l rfl
  have h04 : Below w.heap.size w w4 := h02.trans (hb4.mono h02.size)
  have z4 := hb4.size
  obtain ⟨gl, cl, rfl, d1, d2, d3, d4⟩ := own_cells hownl (by omega)
  have Hcl : Hid (∀ i x, l[i]? = some x → w4.cell? ⟨gl, i * 3, none⟩ = some (.int .i64 x.1) ∧ w4.cell? ⟨gl, i * 3 + 1, none⟩ = some (.int .i64 x.2.1) ∧ w4.cell? ⟨gl, i * 3 + 2, none⟩ = some (.int .i64 x.2.2)) := fun i x hx => by
    have hlt := (List.getElem?_eq_some_iff.1 hx).1
    have q0 := (d4 (i * 3 + 0) (by omega)).trans (lvL_get l i 0 x hx (by omega))
    have q1 := (d4 (i * 3 + 1) (by omega)).trans (lvL_get l i 1 x hx (by omega))
    have q2 := (d4 (i * 3 + 2) (by omega)).trans (lvL_get l i 2 x hx (by omega))
    exact ⟨q0, q1, q2⟩
  have I0 : SpI w4 (0, 1) [] (.slice none 0 0) (w4.alloc (Obj.cells #[.int .i64 0, .int .i64 1] 26)) := ⟨by go_grown, own_nil _ _ _ _, by simp [go_sem], by simp [go_sem], by simp [go_sem], by simp [go_sem], by simp⟩
  clear hownl g2 d4 hLv hRt hW A0 A1 A2 B0 B1 hb4
  go_wp2_with fail
  go_loopw [9, 40] (fun x i wr => ∃ (i' : Nat) (a : M.Fr) (o : List M.Sp) (xa : Option Addr) (xc : Nat), x = .slice xa o.length xc ∧ i = .int .i64 i' ∧ i' ≤ l.length ∧ SpI w4 a o (.slice xa o.length xc) wr ∧ Hid (M.FK l i' R a o) ∧ M.Ok a ∧ M.OutOk o ∧ o.length ≤ i') (fun _ i _ => l.length - (intOf i).toNat)
  case atStart => exact ⟨0, (0, 1), [], none, 0, rfl, rfl, by omega, I0, HS, by unfold M.Ok M.ok; decide, fun s hs => by simp at hs, by simp⟩
  case round =>
    obtain ⟨i, a, o, xa, xc, rfl, rfl, hi', hI, hFK, ha, ho, hlen⟩ := hrel
    have lW := hI.lz
    have lg : gl < wr.heap.size := by omega
    by_cases hlt : i < l.length
    · obtain ⟨x, hx⟩ : ∃ x, l[i]? = some x := ⟨l[i], List.getElem?_eq_getElem hlt⟩
      obtain ⟨q0, q1, q2⟩ := Hcl.out i x hx
      replace q0 := keepC hI.b d2 q0
      replace q1 := keepC hI.b d2 q1
      replace q2 := keepC hI.b d2 q2
      have hxo : M.Ok x.2 := Hlk.out x (List.mem_of_getElem? hx)
      obtain ⟨st1, st2⟩ := M.fk_step l i R a o hFK.out x hx
      have hP := fun X => refPlus_o a x.2 X ha hxo
      have a0 := hI.a0
      have a1 := hI.a1
      cases hp : M.pl a x.2 with
      | none =>
        have hR : Hid (M.spn b u d = (4, [])) := HQ.out.1 (st1 hp)
        rw [hp] at hP
        replace hP : ∀ w, Calls Try.prog 34 #[.agg #[.int .i64 a.1, .int .i64 a.2], .agg #[.int .i64 x.2.1, .int .i64 x.2.2]] w fun e w' => e = .returned (.tuple #[.agg #[.int .i64 0, .int .i64 0], .int .i64 4]) ∧ Below w.heap.size w w' := hP
        clear st1 st2 hp hFK HS HQ hx hxo
        generalize x.1 = kk at *
        generalize x.2.1 = xu at *
        generalize x.2.2 = xd at *
        go_wp2_with fail
        refine (hP _).mono ?_
        rintro e w5 ⟨rfl, hb5⟩
        have h05 : Below wr.heap.size wr w5 := Below.trans (by go_grown) (hb5.mono (by simp))
        have z5 := h05.size
        clear hb5
        go_wp2_with fail
        go_returns
        rw [hR.out]
        exact SpQ.nil ((h04.trans ((hI.b.trans (h05.mono (by omega))).mono (by omega))).alloc (by omega) _)
      | some e2 =>
        obtain ⟨st3, st4⟩ := st2 e2 hp
        have he2 : M.Ok e2 := M.tell_ok hp (M.mul_pos' _ _ ha.low.1.1 hxo.low.1.1)
        rw [hp] at hP
        replace hP : ∀ w, Calls Try.prog 34 #[.agg #[.int .i64 a.1, .int .i64 a.2], .agg #[.int .i64 x.2.1, .int .i64 x.2.2]] w fun e w' => e = .returned (.tuple #[.agg #[.int .i64 e2.1, .int .i64 e2.2], .int .i64 0]) ∧ Below w.heap.size w w' := hP
        by_cases hc : x.1 ≠ 3 ∨ o = []
        · have had := M.ad_new o x.1 a x.2 hc
          have hS2 : Hid (M.FK l (i + 1) R e2 (o ++ [(a, x.2, x.1 == 1)])) := st4 _ had
          have ho2 := M.ad_ok ho hxo had
          have HL : Hid (spL o ++ [.int .i64 a.1, .int .i64 a.2, .int .i64 x.2.1, .int .i64 x.2.2, .bool (x.1 == 1)] = spL (o ++ [(a, x.2, x.1 == 1)])) := by
            show _ = _
            rw [spL_app]; rfl
          have HLn : Hid ((o ++ [(a, x.2, x.1 == 1)]).length = o.length + 1) := by show _ = _; simp
          have hguard : (x.1 == 3 && decide (0 < o.length)) = false := by
            rcases hc with h | h
            · have : (x.1 == 3) = false := by simpa using h
              rw [this]; rfl
            · subst h; simp
          generalize hon : o ++ [(a, x.2, x.1 == 1)] = on at *
          clear st1 st2 st3 st4 hp hFK HS HQ hx hxo had hon
          have hc' : x.1 ≠ 3 ∨ (x.1 = 3 ∧ o.length = 0) := by
            rcases hc with h | h
            · exact .inl h
            · by_cases e : x.1 = 3
              · exact .inr ⟨e, by rw [h]; rfl⟩
              · exact .inl e
          clear hc hguard
          have own := hI.r
          generalize x.1 = kk at *
          generalize x.2.1 = xu at *
          generalize x.2.2 = xd at *
          have key : ∀ (w5 : World), Below (wr.alloc (Obj.cells #[.int .i64 kk, .int .i64 xu, .int .i64 xd] 69)).heap.size (wr.alloc (Obj.cells #[.int .i64 kk, .int .i64 xu, .int .i64 xd] 69)) w5 → Below wr.heap.size wr w5 ∧ wr.heap.size < w5.heap.size ∧ w5.cell? ⟨wr.heap.size, 0, none⟩ = some (.int .i64 kk) ∧ w5.cell? ⟨wr.heap.size, 1, none⟩ = some (.int .i64 xu) ∧ w5.cell? ⟨wr.heap.size, 2, none⟩ = some (.int .i64 xd) := fun w5 hb5 =>
            ⟨Below.trans (by go_grown) (hb5.mono (by simp)), by have := hb5.size; simp at this; omega, keepC hb5 (by simp) (by simp [go_sem]), keepC hb5 (by simp) (by simp [go_sem]), keepC hb5 (by simp) (by simp [go_sem])⟩
          rcases hc' with hk3 | ⟨rfl, ho0⟩
          · have e3 : (kk == 3) = false := by simpa using hk3
            clear hk3
            go_wp2_with fail
            refine (hP _).mono ?_
            rintro e w5 ⟨rfl, hb5⟩
            obtain ⟨h05, z5, K0, K1, K2⟩ := key w5 hb5
            replace a0 := keepC h05 lW a0
            replace a1 := keepC h05 lW a1
            have l5 : w4.heap.size < w5.heap.size := by omega
            have own5 : (w5.alloc (Obj.cells #[.int .i64 e2.1, .int .i64 e2.2] 26)).ownsRow (w4.heap.size + 1) 60 5 (.slice xa o.length xc) o.length (spL o) := own_step own (h05.alloc (by omega) _)
            clear hb5
            go_wp2_with (at_builtin; refine wpList_append_keep _ rfl (.tmp 82) (.tmp 90) 38 rfl (w4.heap.size + 1) 60 i0 (.agg #[.int .i64 0, .int .i64 0, .int .i64 0, .int .i64 0, .bool false]) 5 40 Try.underlying38 hi hz0 hz1 hz2 rfl (by decide) _ o.length (spL o) rfl (own5.alloc _) ⟨w5.heap.size + 1, 0, none⟩ 1 1 [.int .i64 a.1, .int .i64 a.2, .int .i64 xu, .int .i64 xd, .bool (kk == 1)] rfl rfl ?c1 ?c2 ?c3 ?c4 ?c5 (by decide) ?_)
            try (case c1 =>
              intro i u hi
              match i, hi with
              | 0, hi => simp at hi; subst hi; simp [Addr.add, go_sem]
              | 1, hi => simp at hi; subst hi; simp [Addr.add, go_sem]
              | 2, hi => simp at hi; subst hi; simp [Addr.add, go_sem]
              | 3, hi => simp at hi; subst hi; simp [Addr.add, go_sem]
              | 4, hi => simp at hi; subst hi; simp [Addr.add, go_sem])
            case c2 => first | exact ⟨rfl, rfl, rfl, rfl, rfl⟩ | (intro u hu; simp at hu; rcases hu with rfl | rfl | rfl | rfl | rfl <;> rfl)
            case c3 => unfold maxLen; omega
            case c4 => omega
            case c5 => first | omega | (simp; omega)
            intro v' w7 hown' hgrow hkp
            rw [HL.out] at hown'
            replace hown' : w7.ownsRow (w4.heap.size + 1) 60 5 v' on.length (spL on) := by rw [HLn.out]; exact hown'
            obtain ⟨a2, c2', rfl⟩ := own_form hown'
            have hb7 : Below (w4.heap.size + 1) wr w7 := ((((h05.mono (by omega)).alloc (by omega) _).alloc (by simp; omega) _)).grown hgrow (by simp; omega) (own_block own5)
            have bl : w7.heap[w5.heap.size]? = ((w5.alloc (Obj.cells #[.int .i64 e2.1, .int .i64 e2.2] 26)).alloc (Obj.cells #[.int .i64 a.1, .int .i64 a.2, .int .i64 xu, .int .i64 xd, .bool (kk == 1)] 60)).heap[w5.heap.size]? := hgrow.block _ (by simp; omega) (fun e => by have := own_lt own _ e.symm; omega)
            have E0 : w7.cell? ⟨w5.heap.size, 0, none⟩ = some (.int .i64 e2.1) := (World.cell?_of_block (w := (w5.alloc (Obj.cells #[.int .i64 e2.1, .int .i64 e2.2] 26)).alloc (Obj.cells #[.int .i64 a.1, .int .i64 a.2, .int .i64 xu, .int .i64 xd, .bool (kk == 1)] 60)) bl).trans (by simp [go_sem])
            have E1 : w7.cell? ⟨w5.heap.size, 1, none⟩ = some (.int .i64 e2.2) := (World.cell?_of_block (w := (w5.alloc (Obj.cells #[.int .i64 e2.1, .int .i64 e2.2] 26)).alloc (Obj.cells #[.int .i64 a.1, .int .i64 a.2, .int .i64 xu, .int .i64 xd, .bool (kk == 1)] 60)) bl).trans (by simp [go_sem])
            have hI7 := hI.turn hb7 hown'
            replace a0 := hI7.a0
            replace a1 := hI7.a1
            have f0 := hI7.f0
            have f1 := hI7.f1
            have l7 := hI7.lz
            have z7 := hgrow.size
            simp at z7
            have l8 : w5.heap.size < w7.heap.size := by omega
            clear hgrow hkp own5 own bl hP key
            go_wp2_with fail
            go_roundw
            case rel => exact ⟨i + 1, e2, on, a2, c2', rfl, by go_num, by omega, hI7.put, hS2, he2, ho2.1, by omega⟩
            case measure => simp [intOf]; omega
          · have HL2 : Hid (spL o ++ [.int .i64 a.1, .int .i64 a.2, .int .i64 xu, .int .i64 xd, .bool false] = spL on) := HL
            clear HL
            have HL := HL2
            clear HL2
            generalize hN : o.length = N at *
            subst ho0
            have hlen0 : 0 ≤ i := by omega
            go_wp2_with fail
            refine (hP _).mono ?_
            rintro e w5 ⟨rfl, hb5⟩
            obtain ⟨h05, z5, K0, K1, K2⟩ := key w5 hb5
            replace a0 := keepC h05 lW a0
            replace a1 := keepC h05 lW a1
            have l5 : w4.heap.size < w5.heap.size := by omega
            have own5 : (w5.alloc (Obj.cells #[.int .i64 e2.1, .int .i64 e2.2] 26)).ownsRow (w4.heap.size + 1) 60 5 (.slice xa 0 xc) 0 (spL o) := own_step own (h05.alloc (by omega) _)
            clear hb5
            go_wp2_with (at_builtin; refine wpList_append_keep _ rfl (.tmp 82) (.tmp 90) 38 rfl (w4.heap.size + 1) 60 i0 (.agg #[.int .i64 0, .int .i64 0, .int .i64 0, .int .i64 0, .bool false]) 5 40 Try.underlying38 hi hz0 hz1 hz2 rfl (by decide) _ 0 (spL o) rfl (own5.alloc _) ⟨w5.heap.size + 1, 0, none⟩ 1 1 [.int .i64 a.1, .int .i64 a.2, .int .i64 xu, .int .i64 xd, .bool false] rfl rfl ?c1 ?c2 ?c3 ?c4 ?c5 (by decide) ?_)
            try (case c1 =>
              intro i u hi
              match i, hi with
              | 0, hi => simp at hi; subst hi; simp [Addr.add, go_sem]
              | 1, hi => simp at hi; subst hi; simp [Addr.add, go_sem]
              | 2, hi => simp at hi; subst hi; simp [Addr.add, go_sem]
              | 3, hi => simp at hi; subst hi; simp [Addr.add, go_sem]
              | 4, hi => simp at hi; subst hi; simp [Addr.add, go_sem])
            case c2 => first | exact ⟨rfl, rfl, rfl, rfl, rfl⟩ | (intro u hu; simp at hu; rcases hu with rfl | rfl | rfl | rfl | rfl <;> rfl)
            case c3 => unfold maxLen; omega
            case c4 => omega
            case c5 => first | omega | (simp; omega)
            intro v' w7 hown' hgrow hkp
            rw [HL.out] at hown'
            replace hown' : w7.ownsRow (w4.heap.size + 1) 60 5 v' on.length (spL on) := by rw [HLn.out]; exact hown'
            obtain ⟨a2, c2', rfl⟩ := own_form hown'
            have hb7 : Below (w4.heap.size + 1) wr w7 := ((((h05.mono (by omega)).alloc (by omega) _).alloc (by simp; omega) _)).grown hgrow (by simp; omega) (own_block own5)
            have bl : w7.heap[w5.heap.size]? = ((w5.alloc (Obj.cells #[.int .i64 e2.1, .int .i64 e2.2] 26)).alloc (Obj.cells #[.int .i64 a.1, .int .i64 a.2, .int .i64 xu, .int .i64 xd, .bool false] 60)).heap[w5.heap.size]? := hgrow.block _ (by simp; omega) (fun e => by have := own_lt own _ e.symm; omega)
            have E0 : w7.cell? ⟨w5.heap.size, 0, none⟩ = some (.int .i64 e2.1) := (World.cell?_of_block (w := (w5.alloc (Obj.cells #[.int .i64 e2.1, .int .i64 e2.2] 26)).alloc (Obj.cells #[.int .i64 a.1, .int .i64 a.2, .int .i64 xu, .int .i64 xd, .bool false] 60)) bl).trans (by simp [go_sem])
            have E1 : w7.cell? ⟨w5.heap.size, 1, none⟩ = some (.int .i64 e2.2) := (World.cell?_of_block (w := (w5.alloc (Obj.cells #[.int .i64 e2.1, .int .i64 e2.2] 26)).alloc (Obj.cells #[.int .i64 a.1, .int .i64 a.2, .int .i64 xu, .int .i64 xd, .bool false] 60)) bl).trans (by simp [go_sem])
            have hI7 := hI.turn hb7 hown'
            replace a0 := hI7.a0
            replace a1 := hI7.a1
            have f0 := hI7.f0
            have f1 := hI7.f1
            have l7 := hI7.lz
            have z7 := hgrow.size
            simp at z7
            have l8 : w5.heap.size < w7.heap.size := by omega
            clear hgrow hkp own5 own bl hP key
            go_wp2_with fail
            go_roundw
            case rel => exact ⟨i + 1, e2, on, a2, c2', rfl, by go_num, by omega, hI7.put, hS2, he2, ho2.1, by omega⟩
            case measure => simp [intOf]; omega
        · obtain ⟨o', y, rfl⟩ : ∃ o' y, o = o' ++ [y] := by
            rcases List.eq_nil_or_concat o with e | ⟨a, b, e⟩
            · exact absurd (.inr e) hc
            · exact ⟨a, b, by simpa using e⟩
          have hx3 : x.1 = 3 := by
            by_cases e : x.1 = 3
            · exact e
            · exact absurd (.inl e) hc
          have had := M.ad_tie o' y a x.2
          rw [← hx3] at had
          have hy : M.Ok y.2.1 := ho y (by simp)
          have hQ := fun X => refPlus_o y.2.1 x.2 X hy hxo
          have hr0 := hI.r
          have HI : Hid (SpI w4 a (o' ++ [y]) (.slice xa (o' ++ [y]).length xc) wr) := hI
          have Hln : Hid ((o' ++ [y]).length = o'.length + 1) := by show _ = _; simp
          rw [Hln.out] at hr0 hlen
          obtain ⟨g, cap2, hv, c1, c2, c3, c4⟩ := own_cells hr0 (by omega)
          obtain ⟨rfl, rfl⟩ : xa = some ⟨g, 0, none⟩ ∧ xc = cap2 := by simpa using hv
          have y2 : wr.cell? ⟨g, o'.length * 5 + 2, none⟩ = some (.int .i64 y.2.1.1) := (c4 _ (by omega)).trans (spL_last o' y 2)
          have y3 : wr.cell? ⟨g, o'.length * 5 + 3, none⟩ = some (.int .i64 y.2.1.2) := (c4 _ (by omega)).trans (spL_last o' y 3)
          have r2 := hr0.frozenAt (o'.length * 5 + 2)
          have r3 := hr0.frozenAt (o'.length * 5 + 3)
          have Hr0 : Hid (wr.ownsRow (w4.heap.size + 1) 60 5 (.slice (some ⟨g, 0, none⟩) (o'.length + 1) xc) (o'.length + 1) (spL (o' ++ [y]))) := hr0
          have key : ∀ (w5 : World), Below (wr.alloc (Obj.cells #[.int .i64 3, .int .i64 x.2.1, .int .i64 x.2.2] 69)).heap.size (wr.alloc (Obj.cells #[.int .i64 3, .int .i64 x.2.1, .int .i64 x.2.2] 69)) w5 → Below wr.heap.size wr w5 ∧ wr.heap.size < w5.heap.size ∧ w5.cell? ⟨wr.heap.size, 0, none⟩ = some (.int .i64 3) ∧ w5.cell? ⟨wr.heap.size, 1, none⟩ = some (.int .i64 x.2.1) ∧ w5.cell? ⟨wr.heap.size, 2, none⟩ = some (.int .i64 x.2.2) := fun w5 hb5 =>
            ⟨Below.trans (by go_grown) (hb5.mono (by simp)), by have := hb5.size; simp at this; omega, keepC hb5 (by simp) (by simp [go_sem]), keepC hb5 (by simp) (by simp [go_sem]), keepC hb5 (by simp) (by simp [go_sem])⟩
          have HF : Hid (∀ f : M.Fr, M.pl y.2.1 x.2 = some f → M.FK l (i + 1) R e2 (o' ++ [(y.1, f, y.2.2)]) ∧ M.OutOk (o' ++ [(y.1, f, y.2.2)])) := fun f hf => by
            have h1 : M.ad (o' ++ [y]) x.1 a x.2 = some (o' ++ [(y.1, f, y.2.2)]) := by rw [had, hf]; rfl
            exact ⟨st4 _ h1, (M.ad_ok ho hxo h1).1⟩
          have HN : Hid (M.pl y.2.1 x.2 = none → M.spn b u d = (4, [])) := fun hf => HQ.out.1 (st3 (by rw [had, hf]; rfl))
          rw [hx3] at q0
          rw [Hln.out]
          clear st1 st2 st3 st4 hp hFK HS HQ hx hxo had hv c4 hr0 hc hI ho hy
          generalize hpl : M.pl y.2.1 x.2 = PL at *
          generalize hU : M.tU PL = U at *
          generalize hD : M.tD PL = D at *
          generalize hEE : M.tE PL = E at *
          generalize x.2.1 = xu at *
          generalize x.2.2 = xd at *
          generalize y.2.1.1 = yu at *
          generalize y.2.1.2 = yd at *
          have e01 : (0 : Int) < o'.length + 1 := by omega
          have e02 : IntKind.i64.wrap ((o'.length : Int) + 1 - 1) = (o'.length : Int) := by rw [wid (by omega) (by omega)]; omega
          have e03 : IntKind.i64.wrap (o'.length : Int) = (o'.length : Int) := wid (by omega) (by omega)
          have e04 : (0 : Int) ≤ o'.length := by omega
          have e05 : (o'.length : Int) < o'.length + 1 := by omega
          go_wp2_with fail
          refine (hP _).mono ?_
          rintro e w5 ⟨rfl, hb5⟩
          obtain ⟨h05, z5, K0, K1, K2⟩ := key w5 hb5
          replace y2 := keepC h05 c2 y2
          replace y3 := keepC h05 c2 y3
          replace r2 := keepF h05 c2 r2
          replace r3 := keepF h05 c2 r3
          have l5 : w4.heap.size < w5.heap.size := by omega
          have g5 : g < w5.heap.size := by omega
          have b5 : Below w5.heap.size w5 (w5.alloc (Obj.cells #[.int .i64 e2.1, .int .i64 e2.2] 26)) := (Below.refl _ _).alloc (Nat.le_refl _) _
          have b05 := h05.trans (b5.mono h05.size)
          have E0 : (w5.alloc (Obj.cells #[.int .i64 e2.1, .int .i64 e2.2] 26)).cell? ⟨w5.heap.size, 0, none⟩ = some (.int .i64 e2.1) := by simp [go_sem]
          have E1 : (w5.alloc (Obj.cells #[.int .i64 e2.1, .int .i64 e2.2] 26)).cell? ⟨w5.heap.size, 1, none⟩ = some (.int .i64 e2.2) := by simp [go_sem]
          have zE : w5.heap.size < (w5.alloc (Obj.cells #[.int .i64 e2.1, .int .i64 e2.2] 26)).heap.size := by simp
          replace y2 := keepC b5 g5 y2
          replace y3 := keepC b5 g5 y3
          replace r2 := keepF b5 g5 r2
          replace r3 := keepF b5 g5 r3
          replace K0 := keepC b5 z5 K0
          replace K1 := keepC b5 z5 K1
          replace K2 := keepC b5 z5 K2
          clear hb5 key hP
          go_wp2_with fail
          generalize w5.alloc (Obj.cells #[.int .i64 e2.1, .int .i64 e2.2] 26) = W0 at *
          have g0' : g < W0.heap.size := by omega
          have k0' : wr.heap.size < W0.heap.size := by omega
          have mkS : ∀ w', Below W0.heap.size W0 w' → (Below W0.heap.size W0 w' ∧ w'.cell? ⟨g, o'.length * 5 + 2, none⟩ = some (.int .i64 yu) ∧ w'.cell? ⟨g, o'.length * 5 + 3, none⟩ = some (.int .i64 yd) ∧ w'.cell? ⟨wr.heap.size, 1, none⟩ = some (.int .i64 xu) ∧ w'.cell? ⟨wr.heap.size, 2, none⟩ = some (.int .i64 xd)) := fun w' hb => ⟨hb, keepC hb g0' y2, keepC hb g0' y3, keepC hb k0' K1, keepC hb k0' K2⟩
          go_cut [16, 17] (fun c q wx => ∃ sb : Nat, c = .pointer (some ⟨sb, 0, none⟩) ∧ q = .int .i64 E ∧ W0.heap.size ≤ sb ∧ sb < wx.heap.size ∧ Below W0.heap.size W0 wx ∧ wx.cell? ⟨sb, 0, none⟩ = some (.int .i64 U) ∧ wx.cell? ⟨sb, 1, none⟩ = some (.int .i64 D))
          case first =>
            go_region_held3 (fun w' => Below W0.heap.size W0 w' ∧ w'.cell? ⟨g, o'.length * 5 + 2, none⟩ = some (.int .i64 yu) ∧ w'.cell? ⟨g, o'.length * 5 + 3, none⟩ = some (.int .i64 yd) ∧ w'.cell? ⟨wr.heap.size, 1, none⟩ = some (.int .i64 xu) ∧ w'.cell? ⟨wr.heap.size, 2, none⟩ = some (.int .i64 xd))
              (first | exact mkS _ hbn | exact mkS _ (hbn.alloc hbn.size _) | exact mkS _ ((hbn.setCell hnl _).setCell hnl _) | (refine mkS _ ?_; (solve | go_grown)))
              (first | (go_at_call 34; refine (hQ _).mono ?_; rintro e wa ⟨rfl, hba⟩; (first
                 | (have nn := new_kept2 hba; obtain ⟨n0, n1, g0, g1, hnz, hbn⟩ := nn; have hnl := Nat.le_refl W0.heap.size)
                 | (have nn := new_kept2_drew hba; obtain ⟨n0, n1, g0, g1, hnz, hbn⟩ := nn; have hnl := Nat.le_refl W0.heap.size)
                 | (have hbn : Below W0.heap.size W0 wa := Below.trans (by go_grown) (hba.mono (by simp))))))
            all_goals
              go_wp2_with fail
              go_meet
              case rel =>
                first
                  | exact ⟨wa.heap.size, rfl, rfl, hbn.size, by simp, hbn.alloc hbn.size _, by simp [go_sem], by simp [go_sem]⟩
                  | exact ⟨_, rfl, rfl, hnl, by simpa [World.setCell] using hnz, ((hbn.setCell hnl _).setCell hnl _), by simp [go_sem, n0], by simp [go_sem, n1]⟩
          case rest =>
            obtain ⟨sb, rfl, rfl, hs1, hs2, hbx, n0, n1⟩ := hcut
            have b0c : Below wr.heap.size wr wc := b05.trans (hbx.mono b05.size)
            have hIc := HI.out.below b0c
            have zc := hbx.size
            replace y2 := keepC hbx g0' y2
            replace y3 := keepC hbx g0' y3
            replace r2 := keepF hbx g0' r2
            replace r3 := keepF hbx g0' r3
            replace E0 := keepC hbx zE E0
            replace E1 := keepC hbx zE E1
            have a0 := hIc.a0
            have a1 := hIc.a1
            have f0 := hIc.f0
            have f1 := hIc.f1
            have lc := hIc.lz
            have gc : g < wc.heap.size := by omega
            have ec : w5.heap.size < wc.heap.size := by omega
            have ne1 : w5.heap.size ≠ g := by omega
            have ne2 : g ≠ w5.heap.size := by omega
            have ne3 : w4.heap.size ≠ g := by omega
            have ne4 : g ≠ w4.heap.size := by omega
            have ne5 : w5.heap.size ≠ w4.heap.size := by omega
            have ne6 : w4.heap.size ≠ w5.heap.size := by omega
            have h0c : Below w.heap.size w wc := h04.trans (hIc.b.mono (by omega))
            clear mkS hQ K0 K1 K2
            cases PL with
            | none =>
              obtain rfl : E = 4 := hEE.symm
              have hR : Hid (M.spn b u d = (4, [])) := HN.out rfl
              clear HF HN hU hD hEE
              go_wp2_with fail
              go_returns
              rw [hR.out]
              exact SpQ.nil h0c
            | some f =>
              obtain rfl : E = 0 := hEE.symm
              obtain rfl : U = f.1 := hU.symm
              obtain rfl : D = f.2 := hD.symm
              obtain ⟨m1, m2⟩ := HF.out f rfl
              have hS2 : Hid (M.FK l (i + 1) R e2 (o' ++ [(y.1, f, y.2.2)])) := m1
              have hrow : Hid (((wc.setCell ⟨g, o'.length * 5 + 2, none⟩ (.int .i64 f.1)).setCell ⟨g, o'.length * 5 + 2 + 1, none⟩ (.int .i64 f.2)).ownsRow (w4.heap.size + 1) 60 5 (.slice (some ⟨g, 0, none⟩) (o' ++ [(y.1, f, y.2.2)]).length xc) (o' ++ [(y.1, f, y.2.2)]).length (spL (o' ++ [(y.1, f, y.2.2)]))) := by
                have o1 := ((own_step Hr0.out b0c).stored (o'.length * 5 + 2) (.int .i64 f.1)).1
                have o2 := (o1.stored (o'.length * 5 + 2 + 1) (.int .i64 f.2)).1
                rw [spL_set o' y f] at o2
                show _
                rw [show (o' ++ [(y.1, f, y.2.2)]).length = o'.length + 1 by simp]
                exact o2
              have Hn2 : Hid ((o' ++ [(y.1, f, y.2.2)]).length = o'.length + 1) := by show _ = _; simp
              clear HF HN hU hD hEE m1
              generalize o' ++ [(y.1, f, y.2.2)] = on at *
              have hI7 : Hid (SpI w4 a on (.slice (some ⟨g, 0, none⟩) on.length xc) ((wc.setCell ⟨g, o'.length * 5 + 2, none⟩ (.int .i64 f.1)).setCell ⟨g, o'.length * 5 + 2 + 1, none⟩ (.int .i64 f.2))) := hIc.turn (((Below.refl _ _).setCell (p := ⟨g, o'.length * 5 + 2, none⟩) c1 _).setCell (p := ⟨g, o'.length * 5 + 2 + 1, none⟩) c1 _) hrow.out
              go_wp2_with fail
              go_roundw
              case rel => exact ⟨i + 1, e2, on, some ⟨g, 0, none⟩, xc, by rw [Hn2.out], by go_num, by omega, hI7.out.put, hS2, he2, m2, by rw [Hn2.out]; omega⟩
              case measure => simp [intOf]; omega
    · obtain rfl : i = l.length := by omega
      have hz := M.fk_end l R a o hFK.out
      have Hz : Hid (M.spn b u d = (0, o)) := HQ.out.2 a o hz
      clear hz hFK HQ
      go_wp2_with fail
      go_returns
      rw [Hz.out]
      exact ⟨_, rfl, own_base hI.r (by omega), h04.trans (hI.b.mono (by omega))⟩

set_option maxHeartbeats 2000000 in
theorem refSpans_any (b : M.Bt) (u d : Int) (w : World) (v : Value) (hL : Lies w w.heap.size b v) (h1 : -9223372036854775808 ≤ u) (h2 : u ≤ 9223372036854775807) (h3 : -9223372036854775808 ≤ d) (h4 : d ≤ 9223372036854775807) :
    Calls Try.prog 13 #[v, .agg #[.int .i64 u, .int .i64 d]] w fun e w' => SpQ (M.spn b u d) w e w' := by
  have hL0 := hL
  obtain ⟨_, _, _, _, rfl⟩ | ⟨k, s, n, kid, rfl⟩ := M.Bt.two b
  · exact False.elim hL
  obtain ⟨ao, cap, rfl, hn, _⟩ := hL
  generalize hbt : M.Bt.mk k s n kid = bt at *
  have hW := fun (X : World) (hb : Below w.heap.size w X) => refWrong_any _ X w.heap.size _ (Lies.step _ _ hL0 hb) hb.size
  have g0 : ∀ o1 o2 : Obj, Below w.heap.size w ((w.alloc o1).alloc o2) := fun o1 o2 => by go_grown
  have hRt := fun X => refRight_any u d X h1 h2 h3 h4
  by_cases c1 : (M.wr bt 1 4096).1 = 0
  case neg =>
    rw [M.spn_wrong bt u d c1]
    have hE : ((M.wr bt 1 4096).1 != 0) = true := by simpa using c1
    clear c1
    generalize (M.wr bt 1 4096).1 = E at *
    go_enter Try.func13, Try.ntmps13
    go_wp2_with fail
    refine (hW _ (g0 _ _)).mono ?_
    rintro e w1 ⟨rfl, hb1⟩
    go_wp2_with fail
    go_returns
    exact SpQ.nil (Below.trans (g0 _ _) (hb1.mono (by simp; omega)))
  case pos =>
    have hFin := M.cnt_bd bt c1
    cases hok : M.ok u d
    · rw [M.spn_form bt u d c1 hok]
      rw [c1] at hW
      rw [hok] at hRt
      clear c1
      go_enter Try.func13, Try.ntmps13
      go_wp2_with fail
      refine (hW _ (g0 _ _)).mono ?_
      rintro e w1 ⟨rfl, hb1⟩
      have B0 : w1.cell? ⟨w.heap.size + 1, 0, none⟩ = some (.int .i64 u) := keepC hb1 (by simp) (by simp [go_sem])
      have B1 : w1.cell? ⟨w.heap.size + 1, 1, none⟩ = some (.int .i64 d) := keepC hb1 (by simp) (by simp [go_sem])
      have h01 : Below w.heap.size w w1 := Below.trans (g0 _ _) (hb1.mono (by simp; omega))
      go_wp2_with fail
      refine (hRt _).mono ?_
      rintro e w2 ⟨rfl, hb2⟩
      go_wp2_with fail
      go_returns
      exact SpQ.nil (h01.trans (hb2.mono h01.size))
    · by_cases hu : u ≤ 0
      · rw [M.spn_range bt u d c1 hok hu]
        rw [c1] at hW
        rw [hok] at hRt
        clear c1
        have hu' : u < 1 := by omega
        go_enter Try.func13, Try.ntmps13
        go_wp2_with fail
        refine (hW _ (g0 _ _)).mono ?_
        rintro e w1 ⟨rfl, hb1⟩
        have B0 : w1.cell? ⟨w.heap.size + 1, 0, none⟩ = some (.int .i64 u) := keepC hb1 (by simp) (by simp [go_sem])
        have B1 : w1.cell? ⟨w.heap.size + 1, 1, none⟩ = some (.int .i64 d) := keepC hb1 (by simp) (by simp [go_sem])
        have h01 : Below w.heap.size w w1 := Below.trans (g0 _ _) (hb1.mono (by simp; omega))
        have z1 := hb1.size
        simp at z1
        have s2 : w.heap.size + 1 < w1.heap.size := by omega
        go_wp2_with fail
        refine (hRt _).mono ?_
        rintro e w2 ⟨rfl, hb2⟩
        replace B0 := keepC hb2 s2 B0
        go_wp2_with fail
        go_returns
        exact SpQ.nil (h01.trans (hb2.mono h01.size))
      · have hsi := M.spans_is bt (u, d) hFin.2 (M.Ok.low (f := (u, d)) hok).1 (M.Ok.low (f := (u, d)) hok).2
        cases hl : M.lvs bt (u, d) with
        | some l =>
          refine refSpans_loop bt k s n ao cap u d w l _ hL0 c1 hok hu hl rfl ⟨fun hR => ?_, fun a o hR => ?_⟩
          · exact M.spn_much bt u d c1 hok hu (by rw [hsi, hl]; simp only [Option.bind_some]; rw [hR]; rfl)
          · exact M.spn_ok bt u d o c1 hok hu (by rw [hsi, hl]; simp only [Option.bind_some]; rw [hR]; rfl)
        | none =>
          rw [M.spn_much bt u d c1 hok hu (by rw [hsi, hl]; rfl)]
          have hLv := fun (X : World) (hb : Below w.heap.size w X) => leaves_any bt hFin.2 (u, d) X w.heap.size _ (Lies.step _ _ hL0 hb) hb.size hFin.1 hok
          rw [hl] at hLv
          rw [c1] at hW
          rw [hok] at hRt
          clear c1 hsi hl hFin
          go_enter Try.func13, Try.ntmps13
          go_wp2_with fail
          refine (hW _ (g0 _ _)).mono ?_
          rintro e w1 ⟨rfl, hb1⟩
          have A0 : w1.cell? ⟨w.heap.size, 0, none⟩ = some (.int .i64 k) := keepC hb1 (by simp; omega) (by simp [go_sem])
          have A1 : w1.cell? ⟨w.heap.size, 1, none⟩ = some (.int .i64 s) := keepC hb1 (by simp; omega) (by simp [go_sem])
          have A2 : w1.cell? ⟨w.heap.size, 2, none⟩ = some (.slice ao n cap) := keepC hb1 (by simp; omega) (by simp [go_sem])
          have B0 : w1.cell? ⟨w.heap.size + 1, 0, none⟩ = some (.int .i64 u) := keepC hb1 (by simp) (by simp [go_sem])
          have B1 : w1.cell? ⟨w.heap.size + 1, 1, none⟩ = some (.int .i64 d) := keepC hb1 (by simp) (by simp [go_sem])
          have h01 : Below w.heap.size w w1 := Below.trans (g0 _ _) (hb1.mono (by simp; omega))
          have z1 := hb1.size
          simp at z1
          have s1 : w.heap.size < w1.heap.size := by omega
          have s2 : w.heap.size + 1 < w1.heap.size := by omega
          clear hb1
          go_wp2_with fail
          refine (hRt _).mono ?_
          rintro e w2 ⟨rfl, hb2⟩
          have h02 : Below w.heap.size w w2 := h01.trans (hb2.mono h01.size)
          replace A0 := keepC hb2 s1 A0
          replace A1 := keepC hb2 s1 A1
          replace A2 := keepC hb2 s1 A2
          replace B0 := keepC hb2 s2 B0
          replace B1 := keepC hb2 s2 B1
          have z2 := hb2.size
          have s3 : w.heap.size < w2.heap.size := by omega
          have s4 : w.heap.size + 1 < w2.heap.size := by omega
          clear hb2
          go_wp2_with fail
          refine (hLv _ h02).mono ?_
          rintro e w4 ⟨g1, _, hb4⟩
          obtain rfl := g1 rfl
          go_wp2_with fail
          go_returns
          exact SpQ.nil (h02.trans (hb4.mono h02.size))
end Go.Proofs.Ytgcnmmjgdpdmbac.F
