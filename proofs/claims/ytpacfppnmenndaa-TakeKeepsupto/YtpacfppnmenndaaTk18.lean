/- Open. -/
import Derived.Test.YtpacfppnmenndaaTk14
import Derived.Test.YtpacfppnmenndaaTk17
import Derived.Test.YtpacfppnmenndaaTkNx
import Derived.Deep.LoopGhost
namespace Go.Proofs.Ytpacfppnmenndaa.Tk
open Go.RowKit Go.Maps Go.Sort Go.Proofs.Ytpacfppnmenndaa.Rg
open Go.Proofs.Ytpacfppnmenndaa.Y (Tn lt okT wr fst cod bfr OkL TL tab tc rows)
set_option linter.unusedVariables false
set_option linter.unusedSimpArgs false

theorem lies_stop {ws : List Int} {h : Hs} {d : Nat} (hc : ¬ cnt ws h d) (f : Nat) : lies ws f h d = (h, d) := by
  cases f with
  | zero => rfl
  | succ f => unfold lies; rw [if_neg hc]
theorem lies_go {ws : List Int} {h : Hs} {d : Nat} (hc : cnt ws h d) (f : Nat) : lies ws (f + 1) h d = lies ws f (nx h (de ws (d * 8))) (d + 1) := by
  show (if cnt ws h d then _ else _) = _
  rw [if_pos hc]
theorem nx_len {h : Hs} (hk : HOk h) {e : Ed} (h0 : er h e = 0) : (nx h e).vs.length ≤ h.vs.length + 1 := by
  have hs := hk.st
  rcases er_kinds h0 with h1 | h1 | h1 | h1
  · rw [nx_put h1]; show (h.vs.take h.st ++ [_]).length ≤ _; simp; omega
  · rw [nx_cut h1]; show (h.vs.take h.st ++ [_]).length ≤ _; simp; omega
  · rw [nx_undo h1]; show h.vs.length ≤ _; omega
  · rw [nx_redo h1]; show h.vs.length ≤ _; omega
/-- What an edit of a take reads: its history, and the edit. -/
structure PF (tb eb : Nat) (va : Option Addr) (n vc st : Nat) (k en et eg el ea eo : Int) (w' : World) : Prop where
  l : tb < w'.heap.size ∧ eb < w'.heap.size
  c0 : w'.cell? ⟨tb, 0, none⟩ = some (.slice va n vc)
  c1 : w'.cell? ⟨tb, 1, none⟩ = some (.int .i64 st)
  e0 : w'.cell? ⟨eb, 0, none⟩ = some (.int .i64 k)
  e1 : w'.cell? ⟨eb, 1, none⟩ = some (.int .i64 en)
  e2 : w'.cell? ⟨eb, 2, none⟩ = some (.int .i64 et)
  e3 : w'.cell? ⟨eb, 3, none⟩ = some (.int .i64 eg)
  e4 : w'.cell? ⟨eb, 4, none⟩ = some (.int .i64 el)
  e5 : w'.cell? ⟨eb, 5, none⟩ = some (.int .i64 ea)
  e6 : w'.cell? ⟨eb, 6, none⟩ = some (.int .i64 eo)
theorem PF.keep {tb eb : Nat} {va : Option Addr} {n vc st : Nat} {k en et eg el ea eo : Int} {w w' : World} (h : PF tb eb va n vc st k en et eg el ea eo w) (h1 : w'.heap[tb]? = w.heap[tb]?) (h2 : w'.heap[eb]? = w.heap[eb]?) (hz : w.heap.size ≤ w'.heap.size) : PF tb eb va n vc st k en et eg el ea eo w' :=
  ⟨⟨Nat.lt_of_lt_of_le h.l.1 hz, Nat.lt_of_lt_of_le h.l.2 hz⟩, blk h1 h.c0, blk h1 h.c1, blk h2 h.e0, blk h2 h.e1, blk h2 h.e2, blk h2 h.e3, blk h2 h.e4, blk h2 h.e5, blk h2 h.e6⟩
/-- What Open leaves. -/
structure OpQ (w : World) (db : Nat) (ws : List Int) (e : Ending) (w' : World) : Prop where
  e : e = .returned (.pointer (some ⟨w.heap.size, 0, none⟩))
  t : TB w' (fun b => w.heap.size < b) w.heap.size db (new ws)
  b : Below w.heap.size w w'
set_option maxRecDepth 20000 in
set_option maxHeartbeats 8000000 in
theorem Open_any (db wb cap : Nat) (wo : Option Addr) (ws : List Int) (lf : Int) (w : World) (h : DB w db wb wo cap ws lf) (hw : ws.length ≤ 1048576) :
    Calls Try.prog 14 #[.iface 50 (.pointer (some ⟨db, 0, none⟩))] w fun e w' => OpQ w db ws e w' := by
  obtain ⟨W1, hW1⟩ : ∃ X, X = w.alloc (.cells #[.slice none 0 0, .int .i64 0, .iface 50 (.pointer (some ⟨db, 0, none⟩)), .int .i64 0, .bool false] 72) := ⟨_, rfl⟩
  have hb1 : Below w.heap.size w W1 := by rw [hW1]; exact (Below.refl _ _).alloc (Nat.le_refl _) _
  have hT1 : TB W1 (fun b => w.heap.size < b) w.heap.size db ⟨⟨[], 0⟩, 0, false⟩ := by
    refine ⟨⟨none, 0, ?_, HV.nil _ _⟩, ⟨HOk.zero, Nat.zero_le _, Nat.le_refl _, fun h => by cases h⟩⟩
    rw [hW1]
    exact World.rowIs_alloc w #[.slice none 0 0, .int .i64 0, .iface 50 (.pointer (some ⟨db, 0, none⟩)), .int .i64 0, .bool false] 72 (tk none 0 db ⟨⟨[], 0⟩, 0, false⟩) (fun i hi => by
      match i, hi with
      | 0, _ => rfl
      | 1, _ => rfl
      | 2, _ => rfl
      | 3, _ => rfl
      | 4, _ => rfl
      | i + 5, hi => exact absurd hi (by show ¬ (i + 5 < 5); omega))
  have HD : Hid (DB w db wb wo cap ws lf ∧ ws.length ≤ 1048576) := ⟨h, hw⟩
  have HT1 : Hid (TB W1 (fun b => w.heap.size < b) w.heap.size db ⟨⟨[], 0⟩, 0, false⟩) := hT1
  have HW1 : Hid (Below w.heap.size w W1) := hb1
  obtain ⟨Q, hQ⟩ : ∃ Q, Q = OpQ w db ws := ⟨_, rfl⟩
  rw [← hQ]
  have HQ : Hid (Q = OpQ w db ws) := hQ
  have HEnd : Hid (∀ (s : Ta) (ww : World), s.br = false → (s.h, s.d) = opn ws → TB ww (fun b => w.heap.size < b) w.heap.size db s → Below w.heap.size w ww → Q (.returned (.pointer (some ⟨w.heap.size, 0, none⟩))) ww) := fun s ww h1 h2 h3 h4 => by
    rw [hQ]
    have e : new ws = s := by
      unfold new
      rw [← h2, ← h1]
    exact ⟨rfl, by rw [e]; exact h3, h4⟩
  clear h hw hQ hT1 hb1
  go_enter Try.func14, Try.ntmps14
  go_wp2_with fail
  rw [← hW1]
  clear hW1
  go_loopg [] 1024 (fun f wr => ∃ s : Ta, s.br = false ∧ s.d + f = 1024 ∧ Hid (TB wr (fun b => w.heap.size < b) w.heap.size db s) ∧ Hid (lies ws f s.h s.d = opn ws) ∧ Hid (Below w.heap.size w wr))
  case atStart => exact ⟨⟨⟨[], 0⟩, 0, false⟩, rfl, rfl, HT1.out, rfl, HW1.out⟩
  case round =>
    obtain ⟨s, hbr, hsf, HT, HLi, HB⟩ := hrel
    have HDr : Hid (DB wr db wb wo cap ws lf) := HD.out.1.keep (HB.out.block db HD.out.1.ld) (fun hn => HB.out.block wb (HD.out.1.lw hn).2.1) HB.out.size
    have hRm := room_any (fun b => w.heap.size < b) w.heap.size db wb cap wo ws lf s wr HT.out HDr.out hbr HD.out.2
    go_wp2_with fail
    refine hRm.mono ?_
    rintro e w2 ⟨rfl, hw2⟩
    rw [hw2]
    clear hRm hw2
    by_cases hroom : s.d < 1024 ∧ s.d * 8 + 8 ≤ ws.length
    · have hdr : decide (s.d < 1024 ∧ s.d * 8 + 8 ≤ ws.length) = true := decide_eq_true hroom
      rw [hdr]
      clear hdr
      obtain ⟨va, vc, hr, hv⟩ := HT.out.ex
      have c3 : wr.cell? ⟨w.heap.size, 3, none⟩ = some (.int .i64 s.d) := World.rowIs.cell hr (i := 3) (by omega)
      have hE := end_any w.heap.size s.d wr c3 (by omega)
      have hRd := read_any db wb cap (s.d * 8) wo ws lf wr HDr.out hroom.2 HD.out.2
      have HRm : Hid (s.d < 1024 ∧ s.d * 8 + 8 ≤ ws.length) := hroom
      obtain ⟨E, hE0⟩ : ∃ E, E = de ws (s.d * 8) := ⟨_, rfl⟩
      rw [← hE0] at hRd
      obtain ⟨B, hB0⟩ : ∃ B, B = decide (sl ws (s.d * 8) = rc E) := ⟨_, rfl⟩
      rw [← hB0] at hRd
      have HE0 : Hid (E = de ws (s.d * 8) ∧ B = decide (sl ws (s.d * 8) = rc E)) := ⟨hE0, hB0⟩
      obtain ⟨ek, en, ⟨et, eg, el, ea, eo⟩⟩ := E
      simp only at hRd
      clear hr hv hroom c3 hE0 hB0
      go_wp2_with fail
      refine hE.mono ?_
      rintro e w3 ⟨rfl, hw3⟩
      rw [hw3]
      clear hE hw3
      go_wp2_with fail
      refine hRd.mono ?_
      rintro e w4 ⟨rfl, hb4⟩
      obtain ⟨W5, hW5⟩ : ∃ X, X = w4.alloc (.cells #[.int .i64 ek, .int .i64 en, .int .i64 et, .int .i64 eg, .int .i64 el, .int .i64 ea, .int .i64 eo] 40) := ⟨_, rfl⟩
      have hb45 : Below w4.heap.size w4 W5 := by rw [hW5]; exact (Below.refl _ _).alloc (Nat.le_refl _) _
      have hb5 : Below wr.heap.size wr W5 := hb4.trans (hb45.mono hb4.size)
      have z5 : W5.heap.size = w4.heap.size + 1 := by rw [hW5]; simp
      have e0 : W5.cell? ⟨w4.heap.size, 0, none⟩ = some (.int .i64 ek) := by rw [hW5]; simp [go_sem]
      have e1 : W5.cell? ⟨w4.heap.size, 1, none⟩ = some (.int .i64 en) := by rw [hW5]; simp [go_sem]
      have e2 : W5.cell? ⟨w4.heap.size, 2, none⟩ = some (.int .i64 et) := by rw [hW5]; simp [go_sem]
      have e3 : W5.cell? ⟨w4.heap.size, 3, none⟩ = some (.int .i64 eg) := by rw [hW5]; simp [go_sem]
      have e4 : W5.cell? ⟨w4.heap.size, 4, none⟩ = some (.int .i64 el) := by rw [hW5]; simp [go_sem]
      have e5 : W5.cell? ⟨w4.heap.size, 5, none⟩ = some (.int .i64 ea) := by rw [hW5]; simp [go_sem]
      have e6 : W5.cell? ⟨w4.heap.size, 6, none⟩ = some (.int .i64 eo) := by rw [hW5]; simp [go_sem]
      have HT5 : Hid (TB W5 (fun b => w.heap.size < b) w.heap.size db s) := HT.out.bel hb5
      have HB5 : Hid (Below w.heap.size w W5) := HB.out.trans (hb5.mono HB.out.size)
      clear hRd hb4 hb45 hb5
      cases B
      · have hst : Q (.returned (.pointer (some ⟨w.heap.size, 0, none⟩))) W5 := by
          refine HEnd.out s W5 hbr ?_ HT5.out HB5.out
          rw [← HLi.out]
          refine (lies_stop (fun hc => ?_) _).symm
          have h1 := HE0.out.2
          rw [HE0.out.1] at h1
          rw [decide_eq_true hc.2.1] at h1
          cases h1
        clear e0 e1 e2 e3 e4 e5 e6
        go_wp2_with fail
        rw [← hW5]
        exact hst
      · obtain ⟨va, vc, hr, hv⟩ := HT5.out.ex
        have c0 : W5.cell? ⟨w.heap.size, 0, none⟩ = some (.slice va s.h.vs.length vc) := World.rowIs.cell hr (i := 0) (by omega)
        have c1 : W5.cell? ⟨w.heap.size, 1, none⟩ = some (.int .i64 s.h.st) := World.rowIs.cell hr (i := 1) (by omega)
        have HV5 : Hid (HV W5 (fun b => w.heap.size < b) va vc s.h) := hv
        have htl : w.heap.size < W5.heap.size := HT5.out.lt
        have hPF : PF w.heap.size w4.heap.size va s.h.vs.length vc s.h.st ek en et eg el ea eo W5 := ⟨⟨htl, by omega⟩, c0, c1, e0, e1, e2, e3, e4, e5, e6⟩
        have hst4 : s.h.st ≤ 1024 := by have := HT.out.ok.h.st; have := HT.out.ok.v; have := HT.out.ok.d; omega
        have HAf : Hid (∀ W, Below W5.heap.size W5 W → Calls Try.prog 27 #[.agg #[.slice va s.h.vs.length vc, .int .i64 s.h.st], .agg #[.int .i64 ek, .int .i64 en, .int .i64 et, .int .i64 eg, .int .i64 el, .int .i64 ea, .int .i64 eo]] W fun x w' => AfQ W (Nw W5 W (fun b => w.heap.size < b)) (er s.h ⟨ek, en, ⟨et, eg, el, ea, eo⟩⟩) (nx s.h ⟨ek, en, ⟨et, eg, el, ea, eo⟩⟩) x w') := fun W hbW => after_nw (fun b => w.heap.size < b) va vc s.h ⟨ek, en, ⟨et, eg, el, ea, eo⟩⟩ W5 W hbW HV5.out HT.out.ok.h hst4
        have HPF : Hid (PF w.heap.size w4.heap.size va s.h.vs.length vc s.h.st ek en et eg el ea eo W5) := hPF
        obtain ⟨Z, hZ⟩ : ∃ Z, Z = er s.h ⟨ek, en, ⟨et, eg, el, ea, eo⟩⟩ := ⟨_, rfl⟩
        obtain ⟨H', hH⟩ : ∃ H', H' = nx s.h ⟨ek, en, ⟨et, eg, el, ea, eo⟩⟩ := ⟨_, rfl⟩
        rw [← hZ, ← hH] at HAf
        have HZ : Hid (Z = er s.h ⟨ek, en, ⟨et, eg, el, ea, eo⟩⟩ ∧ H' = nx s.h ⟨ek, en, ⟨et, eg, el, ea, eo⟩⟩) := ⟨hZ, hH⟩
        clear hZ hH hr hv c0 c1 e0 e1 e2 e3 e4 e5 e6 hPF hst4 z5
        generalize hn : s.h.vs.length = n at *
        have Hn : Hid (s.h.vs.length = n) := hn
        generalize hs4 : s.h.st = st at *
        have Hs : Hid (s.h.st = st) := hs4
        clear hn hs4
        go_wp2_with fail
        rw [← hW5]
        clear hW5
        have mkS : ∀ W, Below W5.heap.size W5 W → (Below W5.heap.size W5 W ∧ W.cell? ⟨w.heap.size, 0, none⟩ = some (.slice va n vc) ∧ W.cell? ⟨w.heap.size, 1, none⟩ = some (.int .i64 st) ∧ W.cell? ⟨w4.heap.size, 0, none⟩ = some (.int .i64 ek) ∧ W.cell? ⟨w4.heap.size, 1, none⟩ = some (.int .i64 en) ∧ W.cell? ⟨w4.heap.size, 2, none⟩ = some (.int .i64 et) ∧ W.cell? ⟨w4.heap.size, 3, none⟩ = some (.int .i64 eg) ∧ W.cell? ⟨w4.heap.size, 4, none⟩ = some (.int .i64 el) ∧ W.cell? ⟨w4.heap.size, 5, none⟩ = some (.int .i64 ea) ∧ W.cell? ⟨w4.heap.size, 6, none⟩ = some (.int .i64 eo)) := fun W h => ⟨h, keepC h HPF.out.l.1 HPF.out.c0, keepC h HPF.out.l.1 HPF.out.c1, keepC h HPF.out.l.2 HPF.out.e0, keepC h HPF.out.l.2 HPF.out.e1, keepC h HPF.out.l.2 HPF.out.e2, keepC h HPF.out.l.2 HPF.out.e3, keepC h HPF.out.l.2 HPF.out.e4, keepC h HPF.out.l.2 HPF.out.e5, keepC h HPF.out.l.2 HPF.out.e6⟩
        go_cut [6, 7] (fun c d wx => NX W5 (fun b => w.heap.size < b) Z H' c d wx)
        case first =>
          go_region_held3 (fun W => (Below W5.heap.size W5 W ∧ W.cell? ⟨w.heap.size, 0, none⟩ = some (.slice va n vc) ∧ W.cell? ⟨w.heap.size, 1, none⟩ = some (.int .i64 st) ∧ W.cell? ⟨w4.heap.size, 0, none⟩ = some (.int .i64 ek) ∧ W.cell? ⟨w4.heap.size, 1, none⟩ = some (.int .i64 en) ∧ W.cell? ⟨w4.heap.size, 2, none⟩ = some (.int .i64 et) ∧ W.cell? ⟨w4.heap.size, 3, none⟩ = some (.int .i64 eg) ∧ W.cell? ⟨w4.heap.size, 4, none⟩ = some (.int .i64 el) ∧ W.cell? ⟨w4.heap.size, 5, none⟩ = some (.int .i64 ea) ∧ W.cell? ⟨w4.heap.size, 6, none⟩ = some (.int .i64 eo)))
            (first | exact mkS _ hbn | exact mkS _ (hbn.alloc hbn.size _) | exact mkS _ ((hbn.setCell hnl _).setCell hnl _) | (refine mkS _ ?_; (solve | go_grown)))
            (first
              | (go_at_call 27; refine (HAf.out _ (by solve | go_grown)).mono ?_; intro x wa hq; obtain ⟨va', n', vc', st', rfl, hba, hfin⟩ := hq.form
                 first
                   | (have nn := new_kept2_pre hba; obtain ⟨n0, n1, g0, hnz, hbn⟩ := nn; have hnl := Nat.le_refl W5.heap.size)
                   | (have nn := new_kept2 hba; obtain ⟨n0, n1, g0, hnz, hbx⟩ := nn; have hbn : Below W5.heap.size W5 wa := Below.trans (by go_grown) (hba.mono (by simp)); have hnl : W5.heap.size ≤ _ := (by simp))
                   | (have nn := new_kept2_drew hba; obtain ⟨n0, n1, g0, hnz, hbx⟩ := nn; have hbn : Below W5.heap.size W5 wa := Below.trans (by go_grown) (hba.mono (by simp)))
                   | (have hbn : Below W5.heap.size W5 wa := Below.trans (by go_grown) (hba.mono (by simp)))))
          all_goals
            go_wp2_with fail
            go_meet
            case rel =>
              first
                | exact nx_cf (by solve | go_grown) (fun b hb => (by have := HPF.out.l.1; omega : w.heap.size < b)) hba hfin
                | exact nx_af (X := W5) (by solve | go_grown) (fun b hb => (by have := HPF.out.l.1; omega : w.heap.size < b)) hba (Nat.le_refl _) (by simp) ⟨.slice none 0 0, by simp [go_sem]⟩ ⟨.int .i64 0, by simp [go_sem]⟩ hfin
        case rest =>
          obtain ⟨q, va', n', vc', st', rfl, rfl, hq0, hq, hbc, y0, y1, hf⟩ := hcut.ex
          have HTc : Hid (TB wc (fun b => w.heap.size < b) w.heap.size db s) := HT5.out.bel hbc
          have HBc : Hid (Below w.heap.size w wc) := HB5.out.trans (hbc.mono HB5.out.size)
          have HF : Hid (Z = 0 → n' = H'.vs.length ∧ st' = H'.st ∧ HV wc (fun b => w.heap.size < b) va' vc' H') := hf
          clear hcut hbc hf mkS
          by_cases hz : Z = 0
          · obtain ⟨e1, e2, hv'⟩ := HF.out hz
            subst e1 e2
            have hc : cnt ws s.h s.d := by
              have h1 := HE0.out.2
              rw [HE0.out.1] at h1
              refine ⟨HRm.out.2, ?_, ?_⟩
              · by_cases c : sl ws (s.d * 8) = rc (de ws (s.d * 8))
                · exact c
                · rw [decide_eq_false c] at h1; cases h1
              · rw [← HE0.out.1, ← HZ.out.1]; exact hz
            have he0 : er s.h ⟨ek, en, ⟨et, eg, el, ea, eo⟩⟩ = 0 := by rw [← HZ.out.1]; exact hz
            have hk' : HOk H' := by rw [HZ.out.2]; exact HT.out.ok.h.nx he0
            have hl' : H'.vs.length ≤ s.d + 1 := by
              rw [HZ.out.2]
              have h1 := nx_len HT.out.ok.h he0
              have h2 := HT.out.ok.v
              omega
            have hWe := went_any (fun b => w.heap.size < b) w.heap.size db s H' va' vc' wc HTc.out hbr hv' (fun b hb => by have : w.heap.size < b := hb; omega) hk' HRm.out.1 hl'
            have HNx : Hid (lies ws (gk - 1) H' (s.d + 1) = opn ws) := by
              show _ = _
              rw [← HLi.out, show gk = (gk - 1) + 1 by have := HRm.out.1; omega, lies_go hc, ← HE0.out.1, ← HZ.out.2]
              rfl
            clear hc he0 hk' hl' hv'
            generalize H'.vs.length = n1 at *
            generalize H'.st = st1 at *
            go_wp2_with fail
            refine hWe.mono ?_
            rintro e w7 ⟨rfl, hT7, hk7⟩
            have HT7 : Hid (TB w7 (fun b => w.heap.size < b) w.heap.size db ⟨H', s.d + 1, false⟩) := hT7
            have HB7 : Hid (Below w.heap.size w w7) := HBc.out.trans (hk7.below (Nat.le_refl _) (Nat.le_refl _) HBc.out.size)
            clear hWe hT7 hk7
            go_wp2_with fail
            go_roundg (gk - 1)
            case measure => have := HRm.out.1; omega
            case rel => exact ⟨⟨H', s.d + 1, false⟩, rfl, by show s.d + 1 + (gk - 1) = 1024; have := HRm.out.1; omega, HT7.out, HNx.out, HB7.out⟩
          · have hst : Q (.returned (.pointer (some ⟨w.heap.size, 0, none⟩))) wc := by
              refine HEnd.out s wc hbr ?_ HTc.out HBc.out
              rw [← HLi.out]
              refine (lies_stop (fun hc => hz ?_) _).symm
              rw [HZ.out.1, HE0.out.1]
              exact hc.2.2
            have hd : (Z != 0) = true := by simp [hz]
            clear HF
            go_wp2_with fail
            exact hst
    · have hdr : decide (s.d < 1024 ∧ s.d * 8 + 8 ≤ ws.length) = false := decide_eq_false hroom
      rw [hdr]
      have hst : Q (.returned (.pointer (some ⟨w.heap.size, 0, none⟩))) wr := by
        refine HEnd.out s wr hbr ?_ HT.out HB.out
        rw [← HLi.out]
        by_cases c : s.d < 1024
        · exact (lies_stop (fun hc => hroom ⟨c, hc.1⟩) _).symm
        · rw [show gk = 0 by omega]; rfl
      clear hdr hroom
      go_wp2_with fail
      exact hst
end Go.Proofs.Ytpacfppnmenndaa.Tk
