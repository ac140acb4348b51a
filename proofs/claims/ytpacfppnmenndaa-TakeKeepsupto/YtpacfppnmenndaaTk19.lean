/- Do: an edit of a take. -/
import Derived.Test.YtpacfppnmenndaaTk15
import Derived.Test.YtpacfppnmenndaaTk18
namespace Go.Proofs.Ytpacfppnmenndaa.Tk
open Go.RowKit Go.Maps Go.Sort Go.Proofs.Ytpacfppnmenndaa.Rg
open Go.Proofs.Ytpacfppnmenndaa.Y (Tn lt okT wr fst cod bfr OkL TL tab tc rows)
set_option linter.unusedVariables false
set_option linter.unusedSimpArgs false

/-- All blocks but three are as they were. -/
structure K3 (tb db wb : Nat) (w w' : World) : Prop where
  os : w'.os = w.os
  tp : w'.tape = w.tape
  op : w'.output = w.output
  z : w.heap.size ≤ w'.heap.size
  k : ∀ j, j < w.heap.size → j ≠ tb → j ≠ db → j ≠ wb → w'.heap[j]? = w.heap[j]?
theorem K3.trans {tb db wb : Nat} {w w1 w2 : World} (h : K3 tb db wb w w1) (h2 : K3 tb db wb w1 w2) : K3 tb db wb w w2 := ⟨h2.os.trans h.os, h2.tp.trans h.tp, h2.op.trans h.op, Nat.le_trans h.z h2.z, fun j hj h3 h4 h5 => (h2.k j (Nat.lt_of_lt_of_le hj h.z) h3 h4 h5).trans (h.k j hj h3 h4 h5)⟩
theorem K3.of {tb db wb : Nat} {w w1 : World} (h : Below w.heap.size w w1) : K3 tb db wb w w1 := ⟨h.os, h.tape, h.output, h.size, fun j hj _ _ _ => h.block j hj⟩
theorem K3.kd {tb db wb : Nat} {w w1 : World} (h : KD db wb w w1) : K3 tb db wb w w1 := ⟨h.os, h.tp, h.op, h.z, fun j hj _ h2 h3 => h.k j hj h2 h3⟩
theorem K3.kt {tb db wb : Nat} {w w1 : World} (h : KD tb tb w w1) : K3 tb db wb w w1 := ⟨h.os, h.tp, h.op, h.z, fun j hj h1 _ _ => h.k j hj h1 h1⟩
theorem pts_lf (p : List (Nat × Int)) : ∀ (ws : List Int) (lf : Int), (-9223372036854775808 ≤ lf ∧ lf ≤ 9223372036854775807) → (-9223372036854775808 ≤ (pts p ws lf).1.2 ∧ (pts p ws lf).1.2 ≤ 9223372036854775807) := by
  induction p with
  | nil => intro ws lf h; exact h
  | cons x p ih =>
    intro ws lf h
    unfold pts
    split
    · exact h
    · refine ih _ _ ?_
      split <;> omega
/-- What Do leaves. -/
structure DoQ (w : World) (S : Nat → Prop) (tb db wb : Nat) (wo : Option Addr) (cap : Nat) (r : Int × Ta × Dk) (e : Ending) (w' : World) : Prop where
  e : e = .returned (.int .i64 r.1)
  t : TB w' S tb db r.2.1
  d : DB w' db wb wo cap r.2.2.ws r.2.2.lf
  k : K3 tb db wb w w'
/-- What the statement that puts the record reads. -/
structure PG (tb eb db d : Nat) (k en et eg el ea eo : Int) (w' : World) : Prop where
  l : tb < w'.heap.size ∧ eb < w'.heap.size
  c2 : w'.cell? ⟨tb, 2, none⟩ = some (.iface 50 (.pointer (some ⟨db, 0, none⟩)))
  c3 : w'.cell? ⟨tb, 3, none⟩ = some (.int .i64 d)
  e0 : w'.cell? ⟨eb, 0, none⟩ = some (.int .i64 k)
  e1 : w'.cell? ⟨eb, 1, none⟩ = some (.int .i64 en)
  e2 : w'.cell? ⟨eb, 2, none⟩ = some (.int .i64 et)
  e3 : w'.cell? ⟨eb, 3, none⟩ = some (.int .i64 eg)
  e4 : w'.cell? ⟨eb, 4, none⟩ = some (.int .i64 el)
  e5 : w'.cell? ⟨eb, 5, none⟩ = some (.int .i64 ea)
  e6 : w'.cell? ⟨eb, 6, none⟩ = some (.int .i64 eo)
theorem PG.keep {tb eb db d : Nat} {k en et eg el ea eo : Int} {w w' : World} (h : PG tb eb db d k en et eg el ea eo w) (h1 : w'.heap[tb]? = w.heap[tb]?) (h2 : w'.heap[eb]? = w.heap[eb]?) (hz : w.heap.size ≤ w'.heap.size) : PG tb eb db d k en et eg el ea eo w' :=
  ⟨⟨Nat.lt_of_lt_of_le h.l.1 hz, Nat.lt_of_lt_of_le h.l.2 hz⟩, blk h1 h.c2, blk h1 h.c3, blk h2 h.e0, blk h2 h.e1, blk h2 h.e2, blk h2 h.e3, blk h2 h.e4, blk h2 h.e5, blk h2 h.e6⟩
set_option maxRecDepth 20000 in
set_option maxHeartbeats 8000000 in
theorem Do_any (S : Nat → Prop) (tb db wb cap : Nat) (wo : Option Addr) (ws : List Int) (lf : Int) (s : Ta) (e : Ed) (w : World) (hT : TB w S tb db s) (hD : DB w db wb wo cap ws lf) (hw : ws.length ≤ 1048576) (hlf : -9223372036854775808 ≤ lf ∧ lf ≤ 9223372036854775807)
    (hS : ∀ b, S b → b ≠ tb ∧ b ≠ db ∧ b ≠ wb) (hN : ∀ b, w.heap.size ≤ b → S b) (hne : tb ≠ db ∧ tb ≠ wb) (hwb : wb < w.heap.size) :
    Calls Try.prog 15 #[.pointer (some ⟨tb, 0, none⟩), .agg #[.int .i64 e.k, .int .i64 e.n, .int .i64 e.t.t, .int .i64 e.t.g, .int .i64 e.t.l, .int .i64 e.t.a, .int .i64 e.t.o]] w fun x w' => DoQ w S tb db wb wo cap (doe s ⟨ws, lf⟩ e) x w' := by
  obtain ⟨va, vc, hr, hv⟩ := hT.ex
  have htl := hT.lt
  have c0 : w.cell? ⟨tb, 0, none⟩ = some (.slice va s.h.vs.length vc) := World.rowIs.cell hr (i := 0) (by omega)
  have c1 : w.cell? ⟨tb, 1, none⟩ = some (.int .i64 s.h.st) := World.rowIs.cell hr (i := 1) (by omega)
  have c2 : w.cell? ⟨tb, 2, none⟩ = some (if s.br = true then .nilIface else .iface 50 (.pointer (some ⟨db, 0, none⟩))) := World.rowIs.cell hr (i := 2) (by omega)
  have c3 : w.cell? ⟨tb, 3, none⟩ = some (.int .i64 s.d) := World.rowIs.cell hr (i := 3) (by omega)
  have c4 : w.cell? ⟨tb, 4, none⟩ = some (.bool s.br) := World.rowIs.cell hr (i := 4) (by omega)
  have cf : ∀ i, w.frozen? ⟨tb, i, none⟩ = false := fun i => World.rowIs.frozen hr i
  obtain ⟨W1, hW1⟩ : ∃ X, X = w.alloc (.cells #[.int .i64 e.k, .int .i64 e.n, .int .i64 e.t.t, .int .i64 e.t.g, .int .i64 e.t.l, .int .i64 e.t.a, .int .i64 e.t.o] 40) := ⟨_, rfl⟩
  have hb1 : Below w.heap.size w W1 := by rw [hW1]; exact (Below.refl _ _).alloc (Nat.le_refl _) _
  have z1 : W1.heap.size = w.heap.size + 1 := by rw [hW1]; simp
  obtain ⟨Q, hQ⟩ : ∃ Q, Q = DoQ w S tb db wb wo cap (doe s ⟨ws, lf⟩ e) := ⟨_, rfl⟩
  rw [← hQ]
  have HQ : Hid (Q = DoQ w S tb db wb wo cap (doe s ⟨ws, lf⟩ e)) := hQ
  have HT1 : Hid (TB W1 S tb db s) := hT.bel hb1
  have HD1 : Hid (DB W1 db wb wo cap ws lf) := hD.bel hb1
  have HK1 : Hid (K3 tb db wb w W1) := K3.of hb1
  have HS : Hid ((∀ b, S b → b ≠ tb ∧ b ≠ db ∧ b ≠ wb) ∧ (∀ b, w.heap.size ≤ b → S b) ∧ (tb ≠ db ∧ tb ≠ wb) ∧ wb < w.heap.size ∧ db < w.heap.size ∧ ws.length ≤ 1048576 ∧ (-9223372036854775808 ≤ lf ∧ lf ≤ 9223372036854775807)) := ⟨hS, hN, hne, hwb, hD.ld, hw, hlf⟩
  have C0 := keepC hb1 htl c0
  have C1 := keepC hb1 htl c1
  have C2 := keepC hb1 htl c2
  have C3 := keepC hb1 htl c3
  have C4 := keepC hb1 htl c4
  have CF : ∀ i, W1.frozen? ⟨tb, i, none⟩ = false := fun i => fz hb1 htl (cf i)
  have e0 : W1.cell? ⟨w.heap.size, 0, none⟩ = some (.int .i64 e.k) := by rw [hW1]; simp [go_sem]
  have e1 : W1.cell? ⟨w.heap.size, 1, none⟩ = some (.int .i64 e.n) := by rw [hW1]; simp [go_sem]
  have e2 : W1.cell? ⟨w.heap.size, 2, none⟩ = some (.int .i64 e.t.t) := by rw [hW1]; simp [go_sem]
  have e3 : W1.cell? ⟨w.heap.size, 3, none⟩ = some (.int .i64 e.t.g) := by rw [hW1]; simp [go_sem]
  have e4 : W1.cell? ⟨w.heap.size, 4, none⟩ = some (.int .i64 e.t.l) := by rw [hW1]; simp [go_sem]
  have e5 : W1.cell? ⟨w.heap.size, 5, none⟩ = some (.int .i64 e.t.a) := by rw [hW1]; simp [go_sem]
  have e6 : W1.cell? ⟨w.heap.size, 6, none⟩ = some (.int .i64 e.t.o) := by rw [hW1]; simp [go_sem]
  have htl1 : tb < W1.heap.size := by omega
  have hwl1 : w.heap.size < W1.heap.size := by omega
  have HV1 : Hid (HV W1 S va vc s.h) := hv.bel hb1
  clear hr hv hT hD hw hlf hS hN hne hwb hQ c0 c1 c2 c3 cf
  cases hbr : s.br
  · rw [hbr] at C4 C2 c4
    rw [if_neg (by decide)] at C2
    have hst4 : s.h.st ≤ 1024 := by have := HT1.out.ok.h.st; have := HT1.out.ok.v; have := HT1.out.ok.d; omega
    have hPF : PF tb w.heap.size va s.h.vs.length vc s.h.st e.k e.n e.t.t e.t.g e.t.l e.t.a e.t.o W1 := ⟨⟨htl1, hwl1⟩, C0, C1, e0, e1, e2, e3, e4, e5, e6⟩
    have HPF : Hid (PF tb w.heap.size va s.h.vs.length vc s.h.st e.k e.n e.t.t e.t.g e.t.l e.t.a e.t.o W1) := hPF
    have HPG : Hid (PG tb w.heap.size db s.d e.k e.n e.t.t e.t.g e.t.l e.t.a e.t.o W1) := ⟨⟨htl1, hwl1⟩, C2, C3, e0, e1, e2, e3, e4, e5, e6⟩
    have HAf : Hid (∀ W, Below W1.heap.size W1 W → Calls Try.prog 27 #[.agg #[.slice va s.h.vs.length vc, .int .i64 s.h.st], .agg #[.int .i64 e.k, .int .i64 e.n, .int .i64 e.t.t, .int .i64 e.t.g, .int .i64 e.t.l, .int .i64 e.t.a, .int .i64 e.t.o]] W fun x w' => AfQ W (Nw W1 W S) (er s.h e) (nx s.h e) x w') := fun W hbW => after_nw S va vc s.h e W1 W hbW HV1.out HT1.out.ok.h hst4
    have HSN : Hid (∀ b, W1.heap.size ≤ b → S b) := fun b hb => HS.out.2.1 b (by omega)
    have hRec := recordOf_any e
    have HRe : Hid (pl (s.d * 8) (rc e) = (s.d * 8, 0) :: rs (s.d * 8) (fun i => (rc e).getD i 0) 1) := pl_rs _ _
    have HWr : Hid (∀ W, DB W db wb wo cap ws lf → s.d * 8 + 8 ≤ ws.length → Calls Try.prog 30 #[.agg #[.int .i64 1, .int .i64 (pe e).k, .int .i64 (pe e).n, .int .i64 (pe e).t.t, .int .i64 (pe e).t.g, .int .i64 (pe e).t.l, .int .i64 (pe e).t.a, .int .i64 (pe e).t.o], .iface 50 (.pointer (some ⟨db, 0, none⟩)), .int .i64 (s.d * 8 : Nat)] W fun x w' => WrQ W db wb wo cap (pts (pl (s.d * 8) (rc e)) ws lf) x w') := fun W hW ha => by
      rw [HRe.out]
      exact write_any db wb cap (s.d * 8) wo ws lf (fun i => (rc e).getD i 0) W hW ha HS.out.2.2.2.2.2.1 HS.out.2.2.2.2.2.2
    have HB : Hid (s.br = false) := hbr
    obtain ⟨RR, hRR⟩ : ∃ RR, RR = pts (pl (s.d * 8) (rc e)) ws lf := ⟨_, rfl⟩
    rw [← hRR] at HWr
    have HRR : Hid (RR = pts (pl (s.d * 8) (rc e)) ws lf) := hRR
    clear hRR
    obtain ⟨⟨ws5, lf5⟩, B⟩ := RR
    obtain ⟨Z, hZ⟩ : ∃ Z, Z = er s.h e := ⟨_, rfl⟩
    obtain ⟨H', hH⟩ : ∃ H', H' = nx s.h e := ⟨_, rfl⟩
    rw [← hZ, ← hH] at HAf
    have HZ : Hid (Z = er s.h e ∧ H' = nx s.h e) := ⟨hZ, hH⟩
    clear hZ hH hPF hst4 hbr
    generalize hpe : pe e = P at *
    have HP : Hid (pe e = P) := hpe
    clear hpe
    generalize he0 : e.k = ek at *
    generalize he1 : e.n = en at *
    generalize he2 : e.t.t = et at *
    generalize he3 : e.t.g = eg at *
    generalize he4 : e.t.l = el at *
    generalize he5 : e.t.a = ea at *
    generalize he6 : e.t.o = eo at *
    clear he0 he1 he2 he3 he4 he5 he6
    generalize hn : s.h.vs.length = n at *
    generalize hs4 : s.h.st = st at *
    clear hn hs4 z1 hb1
    go_enter Try.func15, Try.ntmps15
    go_wp2_with fail
    rw [← hW1]
    clear hW1
    have mkS : ∀ W, Below W1.heap.size W1 W → (Below W1.heap.size W1 W ∧ W.cell? ⟨tb, 0, none⟩ = some (.slice va n vc) ∧ W.cell? ⟨tb, 1, none⟩ = some (.int .i64 st) ∧ W.cell? ⟨w.heap.size, 0, none⟩ = some (.int .i64 ek) ∧ W.cell? ⟨w.heap.size, 1, none⟩ = some (.int .i64 en) ∧ W.cell? ⟨w.heap.size, 2, none⟩ = some (.int .i64 et) ∧ W.cell? ⟨w.heap.size, 3, none⟩ = some (.int .i64 eg) ∧ W.cell? ⟨w.heap.size, 4, none⟩ = some (.int .i64 el) ∧ W.cell? ⟨w.heap.size, 5, none⟩ = some (.int .i64 ea) ∧ W.cell? ⟨w.heap.size, 6, none⟩ = some (.int .i64 eo)) := fun W h => ⟨h, keepC h HPF.out.l.1 HPF.out.c0, keepC h HPF.out.l.1 HPF.out.c1, keepC h HPF.out.l.2 HPF.out.e0, keepC h HPF.out.l.2 HPF.out.e1, keepC h HPF.out.l.2 HPF.out.e2, keepC h HPF.out.l.2 HPF.out.e3, keepC h HPF.out.l.2 HPF.out.e4, keepC h HPF.out.l.2 HPF.out.e5, keepC h HPF.out.l.2 HPF.out.e6⟩
    go_cut [5, 6] (fun c d wx => NX W1 S Z H' c d wx)
    case first =>
      go_region_held3 (fun W => (Below W1.heap.size W1 W ∧ W.cell? ⟨tb, 0, none⟩ = some (.slice va n vc) ∧ W.cell? ⟨tb, 1, none⟩ = some (.int .i64 st) ∧ W.cell? ⟨w.heap.size, 0, none⟩ = some (.int .i64 ek) ∧ W.cell? ⟨w.heap.size, 1, none⟩ = some (.int .i64 en) ∧ W.cell? ⟨w.heap.size, 2, none⟩ = some (.int .i64 et) ∧ W.cell? ⟨w.heap.size, 3, none⟩ = some (.int .i64 eg) ∧ W.cell? ⟨w.heap.size, 4, none⟩ = some (.int .i64 el) ∧ W.cell? ⟨w.heap.size, 5, none⟩ = some (.int .i64 ea) ∧ W.cell? ⟨w.heap.size, 6, none⟩ = some (.int .i64 eo)))
        (first | exact mkS _ hbn | exact mkS _ (hbn.alloc hbn.size _) | exact mkS _ ((hbn.setCell hnl _).setCell hnl _) | (refine mkS _ ?_; (solve | go_grown)))
        (first
          | (go_at_call 27; refine (HAf.out _ (by solve | go_grown)).mono ?_; intro x wa hq; obtain ⟨va', n', vc', st', rfl, hba, hfin⟩ := hq.form
             first
               | (have nn := new_kept2_pre hba; obtain ⟨n0, n1, g0, hnz, hbn⟩ := nn; have hnl := Nat.le_refl W1.heap.size)
               | (have nn := new_kept2 hba; obtain ⟨n0, n1, g0, hnz, hbx⟩ := nn; have hbn : Below W1.heap.size W1 wa := Below.trans (by go_grown) (hba.mono (by simp)); have hnl : W1.heap.size ≤ _ := (by simp))
               | (have nn := new_kept2_drew hba; obtain ⟨n0, n1, g0, hnz, hbx⟩ := nn; have hbn : Below W1.heap.size W1 wa := Below.trans (by go_grown) (hba.mono (by simp)))
               | (have hbn : Below W1.heap.size W1 wa := Below.trans (by go_grown) (hba.mono (by simp)))))
      all_goals
        go_wp2_with fail
        go_meet
        case rel =>
          first
            | exact nx_cf (by solve | go_grown) HSN.out hba hfin
            | exact nx_af (X := W1) (by solve | go_grown) HSN.out hba (Nat.le_refl _) (by simp) ⟨.slice none 0 0, by simp [go_sem]⟩ ⟨.int .i64 0, by simp [go_sem]⟩ hfin
    case rest =>
      obtain ⟨q, va', n', vc', st', rfl, rfl, hq0, hq, hbc, y0, y1, hf⟩ := hcut.ex
      have HTc : Hid (TB wc S tb db s) := HT1.out.bel hbc
      have HDc : Hid (DB wc db wb wo cap ws lf) := HD1.out.bel hbc
      have HKc : Hid (K3 tb db wb w wc) := HK1.out.trans (K3.of hbc)
      have HF : Hid (Z = 0 → n' = H'.vs.length ∧ st' = H'.st ∧ HV wc S va' vc' H') := hf
      have hPGc : PG tb w.heap.size db s.d ek en et eg el ea eo wc := HPG.out.keep (hbc.block _ HPG.out.l.1) (hbc.block _ HPG.out.l.2) hbc.size
      have HPGc : Hid (PG tb w.heap.size db s.d ek en et eg el ea eo wc) := hPGc
      have HQ0 : Hid (W1.heap.size ≤ q) := hq0
      have HWc : Hid (W1.heap.size ≤ wc.heap.size) := hbc.size
      clear hcut hbc hf mkS C0 C1 C2 C3 C4 CF e0 e1 e2 e3 e4 e5 e6 hq0 hPGc
      by_cases hz : Z = 0
      · have hRm := room_any S tb db wb cap wo ws lf s wc HTc.out HDc.out HB.out HS.out.2.2.2.2.2.1
        have hzb : (Z != 0) = false := by simp [hz]
        go_wp2_with fail
        refine hRm.mono ?_
        rintro x w2 ⟨rfl, hw2⟩
        rw [hw2]
        clear hRm hw2
        by_cases hroom : s.d < 1024 ∧ s.d * 8 + 8 ≤ ws.length
        · have hdr : decide (s.d < 1024 ∧ s.d * 8 + 8 ≤ ws.length) = true := decide_eq_true hroom
          rw [hdr]
          have HRm : Hid (s.d < 1024 ∧ s.d * 8 + 8 ≤ ws.length) := hroom
          clear hdr hroom hzb
          go_wp2_with fail
          refine RF.wp_region_floatC (PG tb w.heap.size db s.d ek en et eg el ea eo) (fun k => k != 1 && k != 7 && k != 8) (by kernel_rfl) (by kernel_rfl) (by kernel_rfl) (HPGc.out.keep rfl rfl (Nat.le_refl _)) ?_
          refine RF.wpFl_readC rfl rfl (.agg #[.int .i64 ek, .int .i64 en, .int .i64 et, .int .i64 eg, .int .i64 el, .int .i64 ea, .int .i64 eo]) (fun w' hw' => by obtain ⟨⟨k0, k0'⟩, k1, k2, k3, k4, k5, k6, k7, k8, k9⟩ := hw'; unfold RM.valAt; go_simp) ?_
          refine RF.wpFl_doC rfl rfl (fun K hK => ?_)
          go_wp2_with fail
          refine (hRec wc.drew).mono ?_
          rintro x w3 ⟨rfl, hb3⟩
          have hbc3 : Below wc.heap.size wc w3 := ⟨hb3.os, hb3.tape, hb3.output, hb3.size, hb3.block⟩
          have hPG3 : PG tb w.heap.size db s.d ek en et eg el ea eo w3 := HPGc.out.keep (hbc3.block _ HPGc.out.l.1) (hbc3.block _ HPGc.out.l.2) hbc3.size
          have HPG3 : Hid (PG tb w.heap.size db s.d ek en et eg el ea eo w3) := hPG3
          have HB3 : Hid (Below wc.heap.size wc w3) := hbc3
          go_wp2_with fail
          refine hK _ _ hPG3 ?_
          clear hK K hb3 hbc3 hPG3
          refine RF.wpFl_readC rfl rfl (.pointer (some ⟨tb, 0, none⟩)) (fun w' hw' => by clear hw'; unfold RM.valAt; go_simp) ?_
          refine RF.wpFl_readC rfl rfl (.pointer (some ⟨tb, 0, none⟩)) (fun w' hw' => by obtain ⟨⟨k0, k0'⟩, k1, k2, k3, k4, k5, k6, k7, k8, k9⟩ := hw'; unfold RM.valAt; go_simp) ?_
          refine RF.wpFl_readC rfl rfl (.pointer (some ⟨tb, 2, none⟩)) (fun w' hw' => by obtain ⟨⟨k0, k0'⟩, k1, k2, k3, k4, k5, k6, k7, k8, k9⟩ := hw'; unfold RM.valAt; go_simp) ?_
          refine RF.wpFl_readC rfl rfl (.iface 50 (.pointer (some ⟨db, 0, none⟩))) (fun w' hw' => by obtain ⟨⟨k0, k0'⟩, k1, k2, k3, k4, k5, k6, k7, k8, k9⟩ := hw'; unfold RM.valAt; go_simp) ?_
          refine RF.wpFl_readC rfl rfl (.pointer (some ⟨tb, 0, none⟩)) (fun w' hw' => by clear hw'; unfold RM.valAt; go_simp) ?_
          refine RF.wpFl_doC rfl rfl (fun K hK => ?_)
          have hEn := end_any tb s.d w3 HPG3.out.c3 (by have := HRm.out.1; omega)
          go_wp2_with fail
          refine hEn.mono ?_
          rintro x w4 ⟨rfl, hw4⟩
          rw [hw4]
          clear hw4 hEn
          go_wp2_with fail
          refine hK _ _ HPG3.out ?_
          clear hK K
          refine RF.wpFl_doC rfl rfl (fun K hK => ?_)
          have hWr := HWr.out w3 (HDc.out.bel HB3.out) HRm.out.2
          rw [show ((s.d * 8 : Nat) : Int) = (s.d : Int) * 8 by push_cast; rfl] at hWr
          go_wp2_with fail
          refine hWr.mono ?_
          rintro x w5 ⟨rfl, hd5, hk5⟩
          have hdw := HS.out.2.2.2.2.1
          have hww := HS.out.2.2.2.1
          have hne := HS.out.2.2.1
          have hWc := HWc.out
          have hz3 := HB3.out.size
          have hl3 := HPG3.out.l
          have k5 : ∀ j, j < w3.heap.size → j ≠ db → j ≠ wb → w5.heap[j]? = w3.heap[j]? := fun j h1 h2 h3 => hk5.k j h1 h2 h3
          have hPG5 : PG tb w.heap.size db s.d ek en et eg el ea eo w5 := HPG3.out.keep (k5 _ hl3.1 hne.1 hne.2) (k5 _ hl3.2 (by omega) (by omega)) hk5.z
          have kq : w5.heap[q]? = wc.heap[q]? := (k5 q (by omega) (by have := HQ0.out; omega) (by have := HQ0.out; omega)).trans (HB3.out.block q hq)
          have Y0 := blk kq y0
          have Y1 := blk kq y1
          have hq5 : q < w5.heap.size := by have := hk5.z; omega
          have HT5 : Hid (TB w5 S tb db s) := (HTc.out.bel HB3.out).keep (k5 tb hl3.1 hne.1 hne.2) (fun b hb hl => by have h1 := HS.out.1 b hb; exact k5 b hl h1.2.1 h1.2.2) hk5.z (fun _ h _ => h)
          have HV5 : Hid (Z = 0 → n' = H'.vs.length ∧ st' = H'.st ∧ HV w5 S va' vc' H') := fun h0 => by
            obtain ⟨e1, e2, hv⟩ := HF.out h0
            exact ⟨e1, e2, (hv.bel HB3.out).keep (fun b hb hl => by have h1 := HS.out.1 b hb; exact k5 b hl h1.2.1 h1.2.2) hk5.z (fun _ h _ => h)⟩
          have HD5 : Hid (DB w5 db wb wo cap ws5 lf5) := hd5
          have HK5 : Hid (K3 tb db wb w w5) := HKc.out.trans ((K3.of HB3.out).trans (K3.kd hk5))
          go_wp2_with fail
          refine hK _ _ hPG5 ?_
          clear hK K hPG5 hd5 hk5 k5 kq hWr y0 y1
          refine RF.wpFl_readC rfl rfl (.bool (!B)) (fun w' hw' => by clear hw'; unfold RM.valAt; go_simp) ?_
          refine RF.wpFl_nil ?_
          cases B
          · obtain ⟨va5, vc5, hr5, hv5⟩ := HT5.out.ex
            have D0 : w5.cell? ⟨tb, 0, none⟩ = some (.slice va5 s.h.vs.length vc5) := World.rowIs.cell hr5 (i := 0) (by omega)
            have D1 : w5.cell? ⟨tb, 1, none⟩ = some (.int .i64 s.h.st) := World.rowIs.cell hr5 (i := 1) (by omega)
            have D2 : w5.cell? ⟨tb, 2, none⟩ = some (if s.br = true then .nilIface else .iface 50 (.pointer (some ⟨db, 0, none⟩))) := World.rowIs.cell hr5 (i := 2) (by omega)
            have D3 : w5.cell? ⟨tb, 3, none⟩ = some (.int .i64 s.d) := World.rowIs.cell hr5 (i := 3) (by omega)
            have D4 : w5.cell? ⟨tb, 4, none⟩ = some (.bool s.br) := World.rowIs.cell hr5 (i := 4) (by omega)
            have DF : ∀ i, w5.frozen? ⟨tb, i, none⟩ = false := fun i => World.rowIs.frozen hr5 i
            rw [HB.out, if_neg (by decide)] at D2
            rw [HB.out] at D4
            have ht5 : tb < w5.heap.size := HT5.out.lt
            obtain ⟨WF, hWF⟩ : ∃ X, X = ((((w5.setCell ⟨tb, 0, none⟩ (.slice none 0 0)).setCell ⟨tb, 1, none⟩ (.int .i64 0)).setCell ⟨tb, 2, none⟩ .nilIface).setCell ⟨tb, 3, none⟩ (.int .i64 0)).setCell ⟨tb, 4, none⟩ (.bool true) := ⟨_, rfl⟩
            have hst : Q (.returned (.int .i64 11)) WF := by
              have kk : ∀ j, j ≠ tb → WF.heap[j]? = w5.heap[j]? := fun j hj => by rw [hWF]; exact (Below.heap_setCell _ _ _ _ hj).trans ((Below.heap_setCell _ _ _ _ hj).trans ((Below.heap_setCell _ _ _ _ hj).trans ((Below.heap_setCell _ _ _ _ hj).trans (Below.heap_setCell _ _ _ _ hj))))
              have zz : WF.heap.size = w5.heap.size := by rw [hWF]; simp [World.setCell]
              rw [HQ.out]
              have h1 : doe s ⟨ws, lf⟩ e = (11, ⟨⟨[], 0⟩, 0, true⟩, ⟨ws5, lf5⟩) := by
                unfold doe
                rw [if_neg (by rw [HB.out]; decide), if_neg (by rw [← HZ.out.1]; simp [hz]), if_neg (fun h => h HRm.out)]
                show (if (pts (pl (s.d * 8) (rc e)) ws lf).2 = true then _ else ((11 : Int), (⟨⟨[], 0⟩, 0, true⟩ : Ta), (⟨(pts (pl (s.d * 8) (rc e)) ws lf).1.1, (pts (pl (s.d * 8) (rc e)) ws lf).1.2⟩ : Dk))) = _
                rw [← HRR.out, if_neg (show ¬ (false = true) by decide)]
              rw [h1]
              refine ⟨rfl, ⟨⟨none, 0, ?_, HV.nil _ _⟩, ⟨HOk.zero, Nat.zero_le _, Nat.le_refl _, fun _ => ⟨rfl, rfl⟩⟩⟩, HD5.out.keep (kk db (fun h => hne.1 h.symm)) (fun _ => kk wb (fun h => hne.2 h.symm)) (by rw [zz]; exact Nat.le_refl _), HK5.out.trans ⟨by rw [hWF]; rfl, by rw [hWF]; rfl, by rw [hWF]; rfl, by rw [zz]; exact Nat.le_refl _, fun j _ h2 _ _ => kk j h2⟩⟩
              rw [hWF]
              refine World.rowIs.congr (World.rowIs.set (World.rowIs.set (World.rowIs.set (World.rowIs.set (World.rowIs.set hr5 0 _) 1 _) 2 _) 3 _) 4 _) (fun i hi => ?_)
              match i, hi with
              | 0, _ => rfl
              | 1, _ => rfl
              | 2, _ => rfl
              | 3, _ => rfl
              | 4, _ => rfl
            clear hr5 hv5 Y0 Y1
            generalize s.h.vs.length = m5 at *
            generalize s.h.st = u5 at *
            go_wp2_with fail
            rw [← hWF]
            exact hst
          · obtain ⟨e1, e2, hv'⟩ := HV5.out hz
            subst e1 e2
            have he0 : er s.h e = 0 := by rw [← HZ.out.1]; exact hz
            have hk' : HOk H' := by rw [HZ.out.2]; exact HT1.out.ok.h.nx he0
            have hl' : H'.vs.length ≤ s.d + 1 := by
              rw [HZ.out.2]
              have h1 := nx_len HT1.out.ok.h he0
              have h2 := HT1.out.ok.v
              omega
            have hWe := went_any S tb db s H' va' vc' w5 HT5.out HB.out hv' (fun b hb => (HS.out.1 b hb).1) hk' HRm.out.1 hl'
            have hst : ∀ w6, TB w6 S tb db ⟨H', s.d + 1, false⟩ → KD tb tb w5 w6 → Q (.returned (.int .i64 0)) w6 := fun w6 h6 k6 => by
              rw [HQ.out]
              have h1 : doe s ⟨ws, lf⟩ e = (0, ⟨H', s.d + 1, false⟩, ⟨ws5, lf5⟩) := by
                unfold doe
                rw [if_neg (by rw [HB.out]; decide), if_neg (by rw [← HZ.out.1]; simp [hz]), if_neg (fun h => h HRm.out)]
                show (if (pts (pl (s.d * 8) (rc e)) ws lf).2 = true then ((0 : Int), (⟨nx s.h e, s.d + 1, false⟩ : Ta), (⟨(pts (pl (s.d * 8) (rc e)) ws lf).1.1, (pts (pl (s.d * 8) (rc e)) ws lf).1.2⟩ : Dk)) else _) = _
                rw [← HRR.out, if_pos rfl, HZ.out.2]
              rw [h1]
              exact ⟨rfl, h6, HD5.out.keep (k6.k db HD5.out.ld (fun h => hne.1 h.symm) (fun h => hne.1 h.symm)) (fun hn => k6.k wb (HD5.out.lw hn).2.1 (fun h => hne.2 h.symm) (fun h => hne.2 h.symm)) k6.z, HK5.out.trans (K3.kt k6)⟩
            have Hst : Hid (∀ w6, TB w6 S tb db ⟨H', s.d + 1, false⟩ → KD tb tb w5 w6 → Q (.returned (.int .i64 0)) w6) := hst
            clear he0 hk' hl' hv' hst
            generalize H'.vs.length = n1 at *
            generalize H'.st = st1 at *
            go_wp2_with fail
            refine hWe.mono ?_
            rintro x w6 ⟨rfl, hT6, hk6⟩
            have hfin := Hst.out w6 hT6 hk6
            clear hWe hT6 hk6
            go_wp2_with fail
            exact hfin
        · have hdr : decide (s.d < 1024 ∧ s.d * 8 + 8 ≤ ws.length) = false := decide_eq_false hroom
          rw [hdr]
          have hst : Q (.returned (.int .i64 4)) wc := by
            rw [HQ.out]
            have h1 : doe s ⟨ws, lf⟩ e = (4, s, ⟨ws, lf⟩) := by
              unfold doe
              rw [if_neg (by rw [HB.out]; decide), if_neg (by rw [← HZ.out.1]; simp [hz]), if_pos hroom]
            rw [h1]
            exact ⟨rfl, HTc.out, HDc.out, HKc.out⟩
          clear hdr hroom
          go_wp2_with fail
          exact hst
      · have hst : Q (.returned (.int .i64 Z)) wc := by
          rw [HQ.out]
          have h1 : doe s ⟨ws, lf⟩ e = (er s.h e, s, ⟨ws, lf⟩) := by
            unfold doe
            rw [if_neg (by rw [HB.out]; decide), if_pos (by rw [← HZ.out.1]; exact hz)]
          rw [h1, ← HZ.out.1]
          exact ⟨rfl, HTc.out, HDc.out, HKc.out⟩
        have hd : (Z != 0) = true := by simp [hz]
        clear HF
        go_wp2_with fail
        exact hst
  · have hq : Q (.returned (.int .i64 9)) W1 := by
      rw [HQ.out]
      have h1 : doe s ⟨ws, lf⟩ e = (9, s, ⟨ws, lf⟩) := by unfold doe; rw [if_pos hbr]
      rw [h1]
      exact ⟨rfl, HT1.out, HD1.out, HK1.out⟩
    rw [hbr] at C4 c4
    clear e0 e1 e2 e3 e4 e5 e6 C0 C1 C2 C3
    generalize e.k = ek at *
    generalize e.n = en at *
    generalize e.t.t = et at *
    generalize e.t.g = eg at *
    generalize e.t.l = el at *
    generalize e.t.a = ea at *
    generalize e.t.o = eo at *
    go_enter Try.func15, Try.ntmps15
    go_wp2_with fail
    rw [← hW1]
    exact hq
end Go.Proofs.Ytpacfppnmenndaa.Tk
