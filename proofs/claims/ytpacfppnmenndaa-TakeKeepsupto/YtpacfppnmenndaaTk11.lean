/- after: an edit of a history. -/
import Derived.Test.YtpacfppnmenndaaTk10
namespace Go.Proofs.Ytpacfppnmenndaa.Tk
open Go.RowKit Go.Maps Go.Sort Go.Proofs.Ytpacfppnmenndaa.Rg
open Go.Proofs.Ytpacfppnmenndaa.Y (Tn lt okT wr fst cod bfr OkL TL tab tc rows)
set_option linter.unusedVariables false
set_option linter.unusedSimpArgs false

theorem AfQ.up {w W1 w2 : World} {S : Nat → Prop} {z : Int} {h' : Hs} {e : Ending} {rb : Nat} (hQ : AfQ W1 (fun b => S b ∧ b ≠ rb) z h' e w2) (hb1 : Below w.heap.size w W1) (hr : w.heap.size ≤ rb) (hr2 : rb < W1.heap.size) :
    ∃ va n vc st, e = .returned (.tuple #[.agg #[.slice va n vc, .int .i64 st], .int .i64 z]) ∧ Below W1.heap.size W1 w2 ∧ ∀ WF, TwoSet w2 WF rb (.slice va n vc) (.int .i64 st) → AfQ w S z h' (.returned (.tuple #[.agg #[.slice va n vc, .int .i64 st], .int .i64 z])) WF := by
  have hb2 : Below w.heap.size w w2 := hb1.trans (hQ.b.mono hb1.size)
  by_cases hz : z = 0
  · obtain ⟨va, vc, rfl, hv⟩ := hQ.ok hz
    refine ⟨va, h'.vs.length, vc, h'.st, by rw [hz], hQ.b, fun WF hF => ⟨hb2.trans (hF.b _ hr), fun hn => absurd hz hn, fun _ => ⟨va, vc, by rw [hz], hv.keep (fun b hb _ => hF.k b hb.2) (by rw [hF.z]; exact Nat.le_refl _) (fun b hb _ => hb.1)⟩⟩⟩
  · have he := hQ.bad hz
    exact ⟨none, 0, 0, 0, he, hQ.b, fun WF hF => ⟨hb2.trans (hF.b _ hr), fun _ => rfl, fun h0 => absurd h0 hz⟩⟩
set_option maxRecDepth 20000 in
set_option maxHeartbeats 8000000 in
theorem after_any (S : Nat → Prop) (va : Option Addr) (vc : Nat) (h : Hs) (e : Ed) (w : World) (hV : HV w S va vc h) (hk : HOk h) (hs : h.st ≤ 1024) (hS : ∀ b, w.heap.size ≤ b → S b) :
    Calls Try.prog 27 #[.agg #[.slice va h.vs.length vc, .int .i64 h.st], .agg #[.int .i64 e.k, .int .i64 e.n, .int .i64 e.t.t, .int .i64 e.t.g, .int .i64 e.t.l, .int .i64 e.t.a, .int .i64 e.t.o]] w fun x w' => AfQ w S (er h e) (nx h e) x w' := by
  obtain ⟨W1, hW1⟩ : ∃ X, X = ((w.alloc (.cells #[.slice va h.vs.length vc, .int .i64 h.st] 70)).alloc (.cells #[.int .i64 e.k, .int .i64 e.n, .int .i64 e.t.t, .int .i64 e.t.g, .int .i64 e.t.l, .int .i64 e.t.a, .int .i64 e.t.o] 40)).alloc (.cells #[.slice none 0 0, .int .i64 0] 70) := ⟨_, rfl⟩
  have hb1 : Below w.heap.size w W1 := by rw [hW1]; exact (((Below.refl _ _).alloc (Nat.le_refl _) _).alloc (by simp) _).alloc (by simp; omega) _
  have z1 : W1.heap.size = w.heap.size + 3 := by rw [hW1]; simp
  have c0 : W1.cell? ⟨w.heap.size, 0, none⟩ = some (.slice va h.vs.length vc) := by rw [hW1]; simp [go_sem]
  have c1 : W1.cell? ⟨w.heap.size, 1, none⟩ = some (.int .i64 h.st) := by rw [hW1]; simp [go_sem]
  have e0 : W1.cell? ⟨w.heap.size + 1, 0, none⟩ = some (.int .i64 e.k) := by rw [hW1]; simp [go_sem]
  have e1 : W1.cell? ⟨w.heap.size + 1, 1, none⟩ = some (.int .i64 e.n) := by rw [hW1]; simp [go_sem]
  have e2 : W1.cell? ⟨w.heap.size + 1, 2, none⟩ = some (.int .i64 e.t.t) := by rw [hW1]; simp [go_sem]
  have e3 : W1.cell? ⟨w.heap.size + 1, 3, none⟩ = some (.int .i64 e.t.g) := by rw [hW1]; simp [go_sem]
  have e4 : W1.cell? ⟨w.heap.size + 1, 4, none⟩ = some (.int .i64 e.t.l) := by rw [hW1]; simp [go_sem]
  have e5 : W1.cell? ⟨w.heap.size + 1, 5, none⟩ = some (.int .i64 e.t.a) := by rw [hW1]; simp [go_sem]
  have e6 : W1.cell? ⟨w.heap.size + 1, 6, none⟩ = some (.int .i64 e.t.o) := by rw [hW1]; simp [go_sem]
  have r0 : W1.cell? ⟨w.heap.size + 2, 0, none⟩ = some (.slice none 0 0) := by rw [hW1]; simp [go_sem]
  have r1 : W1.cell? ⟨w.heap.size + 2, 1, none⟩ = some (.int .i64 0) := by rw [hW1]; simp [go_sem]
  have f0 : W1.frozen? ⟨w.heap.size + 2, 0, none⟩ = false := by rw [hW1]; simp [go_sem]
  have f1 : W1.frozen? ⟨w.heap.size + 2, 1, none⟩ = false := by rw [hW1]; simp [go_sem]
  have l11 : w.heap.size + 2 < W1.heap.size := by omega
  have l12 : w.heap.size + 1 < W1.heap.size := by omega
  have l13 : w.heap.size < W1.heap.size := by omega
  have hV1 : HV W1 (fun b => S b ∧ b ≠ w.heap.size + 2) va vc h := hV.keep (fun b _ hl => hb1.block b hl) hb1.size (fun b hb hl => ⟨hb, by omega⟩)
  have hS1 : ∀ b, W1.heap.size ≤ b → S b ∧ b ≠ w.heap.size + 2 := fun b hb => ⟨hS b (by omega), by omega⟩
  have HB1 : Hid (Below w.heap.size w W1) := hb1
  have HE : Hid (e.k = 1 → er h e = (if wt e.t ≠ 0 then wt e.t else if h.line.length = 1024 then 5 else 0) ∧ nx h e = h.add (put h.line e.t)) := fun hh => ⟨er_put hh, nx_put hh⟩
  have HE2 : Hid (e.k = 2 → er h e = (if e.n < 0 ∨ (h.line.length : Int) ≤ e.n then 3 else 0) ∧ nx h e = h.add (h.line.eraseIdx e.n.toNat)) := fun hh => ⟨er_cut hh, nx_cut hh⟩
  have HE3 : Hid (e.k = 3 → er h e = (if h.st = 0 then 6 else 0) ∧ nx h e = ⟨h.vs, h.st - 1⟩) := fun hh => ⟨er_undo hh, nx_undo hh⟩
  have HE4 : Hid (e.k = 4 → er h e = (if h.st = h.vs.length then 6 else 0) ∧ nx h e = ⟨h.vs, h.st + 1⟩) := fun hh => ⟨er_redo hh, nx_redo hh⟩
  have HE5 : Hid (e.k ≠ 1 → e.k ≠ 2 → e.k ≠ 3 → e.k ≠ 4 → er h e = 1) := fun h1 h2 h3 h4 => er_kind h1 h2 h3 h4
  have q1 := put_any (fun b => S b ∧ b ≠ w.heap.size + 2) va vc h e.t W1 hV1 hk hs hS1
  have q2 := cut_any (fun b => S b ∧ b ≠ w.heap.size + 2) va vc h e.n W1 hV1 hk hs hS1
  have q3 := undo_any (fun b => S b ∧ b ≠ w.heap.size + 2) va vc h W1 hV1 hk hs
  have q4 := redo_any (fun b => S b ∧ b ≠ w.heap.size + 2) va vc h W1 hV1 hk hs
  have HBad : Hid (∀ w', er h e = 1 → Below w.heap.size w w' → AfQ w S (er h e) (nx h e) (.returned (.tuple #[.agg #[.slice none 0 0, .int .i64 0], .int .i64 1])) w') := fun w' hz hb => ⟨hb, fun _ => by rw [hz], fun x => by rw [hz] at x; exact absurd x (by decide)⟩
  clear hV hk hs hS hV1 hS1 hb1
  obtain ⟨k, hk⟩ : ∃ k, k = e.k := ⟨_, rfl⟩
  obtain ⟨Z, hZ⟩ : ∃ Z, Z = er h e := ⟨_, rfl⟩
  obtain ⟨H', hH⟩ : ∃ H', H' = nx h e := ⟨_, rfl⟩
  rw [← hk, ← hZ, ← hH] at HE HE2 HE3 HE4
  rw [← hk, ← hZ] at HE5
  rw [← hZ, ← hH] at HBad
  rw [← hk] at e0 hW1 ⊢
  rw [← hZ, ← hH]
  clear hk hZ hH
  generalize h.vs.length = n at *
  generalize h.st = st at *
  generalize e.n = en at *
  generalize e.t.t = et at *
  generalize e.t.g = eg at *
  generalize e.t.l = el at *
  generalize e.t.a = ea at *
  generalize e.t.o = eo at *
  by_cases h1 : k = 1
  · subst h1
    obtain ⟨hz, hh⟩ := HE.out rfl
    have hQ := q1
    rw [← hz, ← hh] at hQ
    clear q1 q2 q3 q4 hz hh HE HE2 HE3 HE4 HE5 HBad
    go_enter Try.func27, Try.ntmps27
    go_wp2_with fail
    rw [← hW1]
    clear hW1
    go_wp2_with fail
    refine hQ.mono ?_
    intro x w2 hq
    obtain ⟨va', n', vc', st', rfl, hb2, hfin⟩ := hq.up HB1.out (by omega) l11
    have y0 := keepC hb2 l11 r0
    have y1 := keepC hb2 l11 r1
    have g0 := fz hb2 l11 f0
    have g1 := fz hb2 l11 f1
    obtain ⟨WF, hWF, hF⟩ := two_set (a := .slice va' n' vc') (b := .int .i64 st') y0 y1
    have d0 := hF.d0
    have d1 := hF.d1
    have HQ : Hid _ := hfin WF hF
    clear hF hfin hq hQ c0 c1 e0 e1 e2 e3 e4 e5 e6 r0 r1 f0 f1
    go_wp2_with fail
    rw [← hWF]
    clear hWF
    refine bodyPost_ret (v := .tuple #[.agg #[.slice va' n' vc', .int .i64 st'], .int .i64 Z]) (by simp [results, Try.results27, go_sem, d0, d1]) rfl HQ.out
  by_cases h2 : k = 2
  · subst h2
    clear h1
    obtain ⟨hz, hh⟩ := HE2.out rfl
    have hQ := q2
    rw [← hz, ← hh] at hQ
    clear q1 q2 q3 q4 hz hh HE HE2 HE3 HE4 HE5 HBad
    go_enter Try.func27, Try.ntmps27
    go_wp2_with fail
    rw [← hW1]
    clear hW1
    go_wp2_with fail
    refine hQ.mono ?_
    intro x w2 hq
    obtain ⟨va', n', vc', st', rfl, hb2, hfin⟩ := hq.up HB1.out (by omega) l11
    have y0 := keepC hb2 l11 r0
    have y1 := keepC hb2 l11 r1
    have g0 := fz hb2 l11 f0
    have g1 := fz hb2 l11 f1
    obtain ⟨WF, hWF, hF⟩ := two_set (a := .slice va' n' vc') (b := .int .i64 st') y0 y1
    have d0 := hF.d0
    have d1 := hF.d1
    have HQ : Hid _ := hfin WF hF
    clear hF hfin hq hQ c0 c1 e0 e1 e2 e3 e4 e5 e6 r0 r1 f0 f1
    go_wp2_with fail
    rw [← hWF]
    clear hWF
    refine bodyPost_ret (v := .tuple #[.agg #[.slice va' n' vc', .int .i64 st'], .int .i64 Z]) (by simp [results, Try.results27, go_sem, d0, d1]) rfl HQ.out
  by_cases h3 : k = 3
  · subst h3
    clear h1 h2
    obtain ⟨hz, hh⟩ := HE3.out rfl
    have hQ := q3
    rw [← hz, ← hh] at hQ
    clear q1 q2 q3 q4 hz hh HE HE2 HE3 HE4 HE5 HBad
    go_enter Try.func27, Try.ntmps27
    go_wp2_with fail
    rw [← hW1]
    clear hW1
    go_wp2_with fail
    refine hQ.mono ?_
    intro x w2 hq
    obtain ⟨va', n', vc', st', rfl, hb2, hfin⟩ := hq.up HB1.out (by omega) l11
    have y0 := keepC hb2 l11 r0
    have y1 := keepC hb2 l11 r1
    have g0 := fz hb2 l11 f0
    have g1 := fz hb2 l11 f1
    obtain ⟨WF, hWF, hF⟩ := two_set (a := .slice va' n' vc') (b := .int .i64 st') y0 y1
    have d0 := hF.d0
    have d1 := hF.d1
    have HQ : Hid _ := hfin WF hF
    clear hF hfin hq hQ c0 c1 e0 e1 e2 e3 e4 e5 e6 r0 r1 f0 f1
    go_wp2_with fail
    rw [← hWF]
    clear hWF
    refine bodyPost_ret (v := .tuple #[.agg #[.slice va' n' vc', .int .i64 st'], .int .i64 Z]) (by simp [results, Try.results27, go_sem, d0, d1]) rfl HQ.out
  by_cases h4 : k = 4
  · subst h4
    clear h1 h2 h3
    obtain ⟨hz, hh⟩ := HE4.out rfl
    have hQ := q4
    rw [← hz, ← hh] at hQ
    clear q1 q2 q3 q4 hz hh HE HE2 HE3 HE4 HE5 HBad
    go_enter Try.func27, Try.ntmps27
    go_wp2_with fail
    rw [← hW1]
    clear hW1
    go_wp2_with fail
    refine hQ.mono ?_
    intro x w2 hq
    obtain ⟨va', n', vc', st', rfl, hb2, hfin⟩ := hq.up HB1.out (by omega) l11
    have y0 := keepC hb2 l11 r0
    have y1 := keepC hb2 l11 r1
    have g0 := fz hb2 l11 f0
    have g1 := fz hb2 l11 f1
    obtain ⟨WF, hWF, hF⟩ := two_set (a := .slice va' n' vc') (b := .int .i64 st') y0 y1
    have d0 := hF.d0
    have d1 := hF.d1
    have HQ : Hid _ := hfin WF hF
    clear hF hfin hq hQ c0 c1 e0 e1 e2 e3 e4 e5 e6 r0 r1 f0 f1
    go_wp2_with fail
    rw [← hWF]
    clear hWF
    refine bodyPost_ret (v := .tuple #[.agg #[.slice va' n' vc', .int .i64 st'], .int .i64 Z]) (by simp [results, Try.results27, go_sem, d0, d1]) rfl HQ.out
  have hz := HE5.out h1 h2 h3 h4
  have k1 : (k == 1) = false := by simp [h1]
  have k2 : (k == 2) = false := by simp [h2]
  have k3 : (k == 3) = false := by simp [h3]
  have k4 : (k == 4) = false := by simp [h4]
  have HQ : Hid _ := HBad.out W1 hz HB1.out
  clear q1 q2 q3 q4 HE HE2 HE3 HE4 HE5 HBad hz
  go_enter Try.func27, Try.ntmps27
  go_wp2_with fail
  rw [← hW1]
  clear hW1
  refine bodyPost_ret (v := .tuple #[.agg #[.slice none 0 0, .int .i64 0], .int .i64 1]) (by simp [results, Try.results27, go_sem, r0, r1]) rfl HQ.out
end Go.Proofs.Ytpacfppnmenndaa.Tk
