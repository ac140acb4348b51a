/- The statement RhythmSums: the walk of its text. -/
import Derived.Test.YtgcnmmjgdpdmbadB16s
import Derived.Test.YtgcnmmjgdpdmbadB17
import Derived.Test.YtgcnmmjgdpdmbadR4
import Derived.Deep.RegionHeld3
import Derived.Deep.DeepCutAuto
namespace Go.Proofs.Ytgcnmmjgdpdmbad.F
open Go.RowKit
set_option linter.unusedVariables false
set_option linter.unusedSimpArgs false

theorem M.spn_facts (b : M.Bt) (u d : Int) (h : (M.spn b u d).1 = 0) : (M.wr b 1 4096).1 = 0 ∧ M.ok u d = true ∧ ¬ u ≤ 0 ∧ M.sh b (0, 1) (u, d) [] = some (M.spn b u d).2 := by
  by_cases c1 : (M.wr b 1 4096).1 = 0
  · cases hok : M.ok u d
    · rw [M.spn_form b u d c1 hok] at h; exact absurd h (show ¬ (2 : Int) = 0 by decide)
    · by_cases hu : u ≤ 0
      · rw [M.spn_range b u d c1 hok hu] at h; exact absurd h (show ¬ (3 : Int) = 0 by decide)
      · cases hs : M.sh b (0, 1) (u, d) [] with
        | none => rw [M.spn_much b u d c1 hok hu hs] at h; exact absurd h (show ¬ (4 : Int) = 0 by decide)
        | some o => rw [M.spn_ok b u d o c1 hok hu hs]; exact ⟨c1, rfl, hu, rfl⟩
  · rw [M.spn_wrong b u d c1] at h; exact absurd h c1
theorem M.spn_scl (b : M.Bt) (u d n : Int) (hn : 1 ≤ n) (h : (M.spn b u d).1 = 0) : (M.spn (M.scl n b) u d).1 = 3 ∨ M.spn (M.scl n b) u d = M.spn b u d := by
  obtain ⟨h1, h2, h3, h4⟩ := M.spn_facts b u d h
  have hF := (M.cnt_bd b h1).2
  rcases (M.wr_scl n hn b 1 4096 (by omega) (by omega) h1).2 with q | q
  · left
    rw [M.spn_wrong _ u d (by rw [q]; decide), q]
  · right
    have h1' : (M.wr (M.scl n b) 1 4096).1 = 0 := by rw [q]; exact h1
    have h4' : M.sh (M.scl n b) (0, 1) (u, d) [] = some (M.spn b u d).2 := by
      rw [M.sh_scl n hn b hF (0, 1) (u, d) [] (M.ok_yes _ _ h2).2.2.1]; exact h4
    rw [M.spn_ok _ u d _ h1' h2 h3 h4', M.spn_ok b u d _ h1 h2 h3 h4]
theorem M.chn_step (o : List M.Sp) (i : Nat) (x : M.Sp) (a L : M.Fr) (hx : o[i]? = some x) (h : M.chn (o.drop i) a = some L) : x.1 = a ∧ 1 ≤ x.2.1.1 ∧ ∃ e, M.pl a x.2.1 = some e ∧ M.chn (o.drop (i + 1)) e = some L := by
  obtain ⟨hi, rfl⟩ := List.getElem?_eq_some_iff.1 hx
  rw [List.drop_eq_getElem_cons hi, M.chn] at h
  split at h
  · rename_i hc
    obtain ⟨e, he, h⟩ := Option.bind_eq_some_iff.1 h
    exact ⟨hc.1, hc.2, e, he, h⟩
  · simp at h

/-- The law's variables while it goes through the spans. -/
structure SmI (w : World) (k s : Int) (sl : Value) (u d : Int) (w4 : World) (a : M.Fr) (wr : World) : Prop where
  b : Below w4.heap.size w4 wr
  a0 : wr.cell? ⟨w4.heap.size, 0, none⟩ = some (.int .i64 a.1)
  a1 : wr.cell? ⟨w4.heap.size, 1, none⟩ = some (.int .i64 a.2)
  f0 : wr.frozen? ⟨w4.heap.size, 0, none⟩ = false
  f1 : wr.frozen? ⟨w4.heap.size, 1, none⟩ = false
  lz : w4.heap.size < wr.heap.size
theorem SmI.put {w w4 W : World} {k s u d : Int} {sl : Value} {a a' : M.Fr} (h : SmI w k s sl u d w4 a W) : SmI w k s sl u d w4 a' ((W.setCell ⟨w4.heap.size, 0, none⟩ (.int .i64 a'.1)).setCell ⟨w4.heap.size, 1, none⟩ (.int .i64 a'.2)) :=
  ⟨(h.b.setCell (p := ⟨w4.heap.size, 0, none⟩) (Nat.le_refl _) _).setCell (p := ⟨w4.heap.size, 1, none⟩) (Nat.le_refl _) _, by simp [go_sem, h.a0], by simp [go_sem, h.a1], by simp [go_sem, h.f0], by simp [go_sem, h.f1], by simpa using h.lz⟩
theorem SmI.below {w w4 wr W : World} {k s u d : Int} {sl : Value} {a : M.Fr} (h : SmI w k s sl u d w4 a wr) (hb : Below wr.heap.size wr W) : SmI w k s sl u d w4 a W := by
  have l1 := h.lz; have l2 := hb.size
  exact ⟨h.b.trans (hb.mono (by omega)), keepC hb l1 h.a0, keepC hb l1 h.a1, keepF hb l1 h.f0, keepF hb l1 h.f1, by omega⟩

set_option maxHeartbeats 4000000 in
theorem sums_walk (b : M.Bt) (u d n : Int) (v : Value) (w : World) (hL : Lies w w.heap.size b v) (h : -9223372036854775808 ≤ u ∧ u ≤ 9223372036854775807) (h' : -9223372036854775808 ≤ d ∧ d ≤ 9223372036854775807) :
    Calls Try.prog 3 #[v, .agg #[.int .i64 u, .int .i64 d], .int .i64 n] w fun e w' => e = .returned (.bool true) ∧ Below w.heap.size w w' := by
  have hL0 := hL
  obtain ⟨_, _, _, _, rfl⟩ | ⟨k, s, m, kid, rfl⟩ := M.Bt.two b
  · exact False.elim hL
  obtain ⟨ao, cap, rfl, hm, _⟩ := hL
  generalize hbt : M.Bt.mk k s m kid = bt at *
  have hA := fun X => alive_any X
  have hS := fun (X : World) (hb : Below w.heap.size w X) => Spans_prog bt u d X _ ((Lies.step _ _ hL0 hb).wide hb.size) h.1 h.2 h'.1 h'.2
  have hlen := M.spn_len bt u d
  have g0 : Below w.heap.size w ((w.alloc (Obj.cells #[.int .i64 k, .int .i64 s, .slice ao m cap] 24)).alloc (Obj.cells #[.int .i64 u, .int .i64 d] 26)) := by go_grown
  have HF : Hid ((M.spn bt u d).1 = 0 → M.Ok (u, d) ∧ M.chn (M.spn bt u d).2 (0, 1) = some (u, d) ∧ M.OutOk (M.spn bt u d).2 ∧ M.Fine bt) := fun h0 => by
    obtain ⟨h1, h2, h3, h4⟩ := M.spn_facts bt u d h0
    have hF := (M.cnt_bd bt h1).2
    have := M.spans_chn bt (u, d) _ hF h2 (by show 1 ≤ u; omega) h4
    exact ⟨h2, this.1, this.2, hF⟩
  have HG : Hid ((M.spn bt u d).1 = 0 → 1 ≤ n → (M.spn (M.scl n bt) u d).1 = 3 ∨ M.spn (M.scl n bt) u d = M.spn bt u d) := fun h0 hn => M.spn_scl bt u d n hn h0
  generalize hR : M.spn bt u d = R at *
  obtain ⟨E, o⟩ := R
  dsimp only at *
  go_enter Try.func3, Try.ntmps3
  go_wp2_with fail
  refine (hA _).mono ?_
  rintro e w1 ⟨rfl, hb1⟩
  have A0 : w1.cell? ⟨w.heap.size, 0, none⟩ = some (.int .i64 k) := keepC hb1 (by simp; omega) (by simp [go_sem])
  have A1 : w1.cell? ⟨w.heap.size, 1, none⟩ = some (.int .i64 s) := keepC hb1 (by simp; omega) (by simp [go_sem])
  have A2 : w1.cell? ⟨w.heap.size, 2, none⟩ = some (.slice ao m cap) := keepC hb1 (by simp; omega) (by simp [go_sem])
  have B0 : w1.cell? ⟨w.heap.size + 1, 0, none⟩ = some (.int .i64 u) := keepC hb1 (by simp) (by simp [go_sem])
  have B1 : w1.cell? ⟨w.heap.size + 1, 1, none⟩ = some (.int .i64 d) := keepC hb1 (by simp) (by simp [go_sem])
  have h01 : Below w.heap.size w w1 := Below.trans g0 (hb1.mono (by simp; omega))
  have z1 := hb1.size
  simp at z1
  have s1 : w.heap.size < w1.heap.size := by omega
  have s2 : w.heap.size + 1 < w1.heap.size := by omega
  clear hb1 g0
  go_wp2_with fail
  refine (hS _ h01).mono ?_
  rintro e w4 ⟨v4, rfl, o4, hb4⟩
  have h04 := h01.trans (hb4.mono h01.size)
  replace A0 := keepC hb4 s1 A0
  replace A1 := keepC hb4 s1 A1
  replace A2 := keepC hb4 s1 A2
  replace B0 := keepC hb4 s2 B0
  replace B1 := keepC hb4 s2 B1
  have z4 := hb4.size
  have s3 : w.heap.size < w4.heap.size := by omega
  have s4 : w.heap.size + 1 < w4.heap.size := by omega
  clear hb4 hA hS
  dsimp only at *
  by_cases hE : E = 0
  case neg =>
    have hEb : (E != 0) = true := by simpa using hE
    clear hE
    go_wp2_with fail
    go_ret
    exact ⟨rfl, h04⟩
  case pos =>
    subst hE
    obtain ⟨hok, hch, hoo, hFin⟩ := HF.out rfl
    obtain ⟨xa, xc, rfl⟩ := own_form o4
    have Hcl : Hid (∀ i x, o[i]? = some x → ∃ g, xa = some ⟨g, 0, none⟩ ∧ g < w4.heap.size ∧ w4.cell? ⟨g, i * 5, none⟩ = some (.int .i64 x.1.1) ∧ w4.cell? ⟨g, i * 5 + 1, none⟩ = some (.int .i64 x.1.2) ∧ w4.cell? ⟨g, i * 5 + 2, none⟩ = some (.int .i64 x.2.1.1) ∧ w4.cell? ⟨g, i * 5 + 3, none⟩ = some (.int .i64 x.2.1.2) ∧ w4.cell? ⟨g, i * 5 + 4, none⟩ = some (.bool x.2.2)) := fun i x hx => by
      have hi := (List.getElem?_eq_some_iff.1 hx).1
      obtain ⟨g, cp, hv, d1, d2, d3, d4⟩ := own_cells o4 (by omega)
      obtain ⟨rfl, rfl⟩ : xa = some ⟨g, 0, none⟩ ∧ xc = cp := by simpa using hv
      exact ⟨g, rfl, d2, (d4 (i * 5 + 0) (by omega)).trans (spL_get o i 0 x hx (by omega)), (d4 _ (by omega)).trans (spL_get o i 1 x hx (by omega)), (d4 _ (by omega)).trans (spL_get o i 2 x hx (by omega)), (d4 _ (by omega)).trans (spL_get o i 3 x hx (by omega)), (d4 _ (by omega)).trans (spL_get o i 4 x hx (by omega))⟩
    have Hown : Hid (w4.ownsRow w1.heap.size 33 5 (.slice xa o.length xc) o.length (spL o)) := o4
    have I0 : SmI w k s (.slice ao m cap) u d w4 (0, 1) (w4.alloc (Obj.cells #[.int .i64 0, .int .i64 1] 26)) := ⟨by go_grown, by simp [go_sem], by simp [go_sem], by simp [go_sem], by simp [go_sem], by simp⟩
    have Hch : Hid (M.chn (o.drop 0) (0, 1) = some (u, d)) := hch
    clear hch o4 HF
    go_wp2_with fail
    go_loopw [26] (fun i wr => ∃ (i' : Nat) (a : M.Fr), i = .int .i64 i' ∧ i' ≤ o.length ∧ SmI w k s (.slice ao m cap) u d w4 a wr ∧ Hid (M.chn (o.drop i') a = some (u, d)) ∧ M.Ok a) (fun i _ => o.length - (intOf i).toNat)
    case atStart => exact ⟨0, (0, 1), rfl, by omega, I0, Hch, M.ok01⟩
    case round =>
      obtain ⟨i, a, rfl, hi, hI, hC, ha⟩ := hrel
      have lW := hI.lz
      by_cases hlt : i < o.length
      · obtain ⟨x, hx⟩ : ∃ x, o[i]? = some x := ⟨o[i], List.getElem?_eq_getElem hlt⟩
        obtain ⟨g, rfl, gz, q0, q1, q2, q3, q4⟩ := Hcl.out i x hx
        obtain ⟨c1, c2, e, c3, c4⟩ := M.chn_step o i x a (u, d) hx hC.out
        have hxo : M.Ok x.2.1 := hoo x (List.mem_of_getElem? hx)
        have he : M.Ok e := M.tell_ok c3 (M.mul_pos' _ _ ha.low.1.1 hxo.low.1.1)
        have hP := fun X => refPlus_o a x.2.1 X ha hxo
        rw [c3] at hP
        replace hP : ∀ w, Calls Try.prog 7 #[.agg #[.int .i64 a.1, .int .i64 a.2], .agg #[.int .i64 x.2.1.1, .int .i64 x.2.1.2]] w fun e' w' => e' = .returned (.tuple #[.agg #[.int .i64 e.1, .int .i64 e.2], .int .i64 0]) ∧ Below w.heap.size w w' := hP
        rw [c1] at q0 q1
        replace q0 := keepC hI.b gz q0
        replace q1 := keepC hI.b gz q1
        replace q2 := keepC hI.b gz q2
        replace q3 := keepC hI.b gz q3
        replace q4 := keepC hI.b gz q4
        have c4' : Hid (M.chn (o.drop (i + 1)) e = some (u, d)) := c4
        have a0 := hI.a0
        have a1 := hI.a1
        have f0 := hI.f0
        have f1 := hI.f1
        have gw : g < wr.heap.size := by omega
        clear c3 c4 hC hx c1 Hcl
        generalize x.2.1.1 = xu at *
        generalize x.2.1.2 = xd at *
        generalize x.2.2 = xs at *
        have c2' : ¬ xu < 1 := by omega
        go_wp2_with fail
        refine (hP _).mono ?_
        rintro e' w5 ⟨rfl, hb5⟩
        have h05 : Below wr.heap.size wr w5 := Below.trans (by go_grown) (hb5.mono (by simp))
        have hI5 := hI.below h05
        replace a0 := hI5.a0
        replace a1 := hI5.a1
        replace f0 := hI5.f0
        replace f1 := hI5.f1
        have l5 := hI5.lz
        clear hb5
        go_wp2_with fail
        go_roundw
        case rel => exact ⟨i + 1, e, by go_num, by omega, hI5.put, c4', he⟩
        case measure => simp [intOf]; omega
      · obtain rfl : i = o.length := by omega
        have hfin := hC.out
        rw [List.drop_length] at hfin
        simp only [M.chn, Option.some.injEq] at hfin
        subst hfin
        have a0 := hI.a0
        have a1 := hI.a1
        replace A0 := keepC hI.b s3 A0
        replace A1 := keepC hI.b s3 A1
        replace A2 := keepC hI.b s3 A2
        replace B0 := keepC hI.b s4 B0
        replace B1 := keepC hI.b s4 B1
        have h0r : Below w.heap.size w wr := h04.trans (hI.b.mono (by omega))
        have Hown2 : Hid (wr.ownsRow w1.heap.size 33 5 (.slice xa o.length xc) o.length (spL o)) := own_step Hown.out hI.b
        have zr := h0r.size
        have s5 : w.heap.size < wr.heap.size := by omega
        have s6 : w.heap.size + 1 < wr.heap.size := by omega
        clear hC Hcl Hch Hown
        by_cases hn : n < 1 ∨ 1000 < n
        · rcases (show n < 1 ∨ (¬ n < 1 ∧ 1000 < n) by omega) with c | ⟨c, c'⟩
          · clear hn
            go_wp2_with fail
            go_ret
            exact ⟨rfl, h0r⟩
          · clear hn
            go_wp2_with fail
            go_ret
            exact ⟨rfl, h0r⟩
        · have n1 : ¬ n < 1 := by omega
          have n2 : ¬ 1000 < n := by omega
          have hG := HG.out (by first | rfl | trivial) (by omega)
          have hSc := fun (X : World) (hb : Below w.heap.size w X) => scaled_any bt hFin n X w.heap.size _ (Lies.step _ _ hL0 hb) hb.size (by omega) (by omega)
          have hS2 := fun (X : World) (v : Value) (hl : Lies X X.heap.size (M.scl n bt) v) => Spans_prog (M.scl n bt) u d X v hl h.1 h.2 h'.1 h'.2
          generalize M.spn (M.scl n bt) u d = R2 at *
          clear hn HG
          go_wp2_with fail
          obtain ⟨w0, hw0⟩ : ∃ x, x = wr := ⟨wr, rfl⟩
          subst hw0
          have mkS : ∀ w', Below w0.heap.size w0 w' → (Below w0.heap.size w0 w' ∧ w'.cell? ⟨w.heap.size, 0, none⟩ = some (.int .i64 k) ∧ w'.cell? ⟨w.heap.size, 1, none⟩ = some (.int .i64 s) ∧ w'.cell? ⟨w.heap.size, 2, none⟩ = some (.slice ao m cap) ∧ w'.cell? ⟨w.heap.size + 1, 0, none⟩ = some (.int .i64 u) ∧ w'.cell? ⟨w.heap.size + 1, 1, none⟩ = some (.int .i64 d)) := fun w' hb => ⟨hb, keepC hb s5 A0, keepC hb s5 A1, keepC hb s5 A2, keepC hb s6 B0, keepC hb s6 B1⟩
          go_cut [8, 12] (fun e c wx => ∃ (bs : Nat) (vx : Value), c = vx ∧ e = .int .i64 R2.1 ∧ wx.ownsRow bs 33 5 vx R2.2.length (spL R2.2) ∧ Below w0.heap.size w0 wx)
          case first =>
            go_region_held3 (fun w' => Below w0.heap.size w0 w' ∧ w'.cell? ⟨w.heap.size, 0, none⟩ = some (.int .i64 k) ∧ w'.cell? ⟨w.heap.size, 1, none⟩ = some (.int .i64 s) ∧ w'.cell? ⟨w.heap.size, 2, none⟩ = some (.slice ao m cap) ∧ w'.cell? ⟨w.heap.size + 1, 0, none⟩ = some (.int .i64 u) ∧ w'.cell? ⟨w.heap.size + 1, 1, none⟩ = some (.int .i64 d))
              (first | exact mkS _ hbn | (refine mkS _ ?_; (solve | go_grown)))
              (first
                | (go_at_call 8; refine (hSc _ ?_).mono ?_; (first | exact h0r | exact h0r.trans (Below.mono (by go_grown) h0r.size)); rintro e wa ⟨va, rfl, hla, hba⟩; have hbn : Below w0.heap.size w0 wa := Below.trans (by go_grown) (hba.mono (by simp)); have hll := LiesP.lies (B := wa.heap.size) (fun b hb => hb.2) _ _ hla)
                | (go_at_call 6; refine (hS2 _ _ ?_).mono ?_; (exact hll); rintro e wb ⟨vb, rfl, ob, hbb⟩; have hbn := hbn.trans (hbb.mono hbn.size)))
            all_goals
              go_wp2_with fail
              go_meet
              case rel => exact ⟨_, _, rfl, rfl, ob, hbn⟩
          case rest =>
            obtain ⟨bs, vx, rfl, rfl, ox, hbx⟩ := hcut
            have h0c := h0r.trans (hbx.mono h0r.size)
            have own2 := own_step Hown2.out hbx
            clear mkS hSc hS2
            rcases hG with q | q
            · rw [q]
              clear q
              go_wp2_with fail
              go_ret
              exact ⟨rfl, h0c⟩
            · subst q
              have hl2 : o.length ≤ 70000 := hlen
              dsimp only at *
              go_wp2_with fail
              refine (SameSpans_own _ _ o _ _ _ hl2 own2 ox).mono ?_
              rintro e w5 ⟨rfl, hb5⟩
              go_wp2_with fail
              go_ret
              exact ⟨by simp, h0c.trans (hb5.mono h0c.size)⟩
end Go.Proofs.Ytgcnmmjgdpdmbad.F
