/- Records: recordOf, edit. -/
import Derived.Test.YtpacfppnmenndaaTk12
namespace Go.Proofs.Ytpacfppnmenndaa.Tk
open Go.RowKit Go.Maps Go.Sort Go.Proofs.Ytpacfppnmenndaa.Rg
open Go.Proofs.Ytpacfppnmenndaa.Y (Tn lt okT wr fst cod bfr OkL TL tab tc rows)
set_option linter.unusedVariables false
set_option linter.unusedSimpArgs false

set_option maxRecDepth 20000 in
set_option maxHeartbeats 4000000 in
theorem recordOf_any (e : Ed) (w : World) :
    Calls Try.prog 29 #[.agg #[.int .i64 e.k, .int .i64 e.n, .int .i64 e.t.t, .int .i64 e.t.g, .int .i64 e.t.l, .int .i64 e.t.a, .int .i64 e.t.o]] w fun x w' => x = .returned (.agg #[.int .i64 1, .int .i64 (pe e).k, .int .i64 (pe e).n, .int .i64 (pe e).t.t, .int .i64 (pe e).t.g, .int .i64 (pe e).t.l, .int .i64 (pe e).t.a, .int .i64 (pe e).t.o]) ∧ Below w.heap.size w w' := by
  by_cases h1 : e.k = 1
  · rw [pe_put h1]
    rw [h1]
    clear h1
    generalize e.n = en at *
    generalize e.t.t = et at *
    generalize e.t.g = eg at *
    generalize e.t.l = el at *
    generalize e.t.a = ea at *
    generalize e.t.o = eo at *
    go_enter Try.func29, Try.ntmps29
    go_wp2_with fail
    go_returns
    exact ⟨rfl, by go_grown⟩
  · by_cases h2 : e.k = 2
    · rw [pe_cut h2]
      rw [h2]
      clear h1 h2
      generalize e.n = en at *
      generalize e.t.t = et at *
      generalize e.t.g = eg at *
      generalize e.t.l = el at *
      generalize e.t.a = ea at *
      generalize e.t.o = eo at *
      go_enter Try.func29, Try.ntmps29
      go_wp2_with fail
      go_returns
      exact ⟨rfl, by go_grown⟩
    · rw [pe_else h1 h2]
      have k1 : (e.k == 1) = false := by simp [h1]
      have k2 : (e.k == 2) = false := by simp [h2]
      generalize e.k = k at *
      generalize e.n = en at *
      generalize e.t.t = et at *
      generalize e.t.g = eg at *
      generalize e.t.l = el at *
      generalize e.t.a = ea at *
      generalize e.t.o = eo at *
      go_enter Try.func29, Try.ntmps29
      go_wp2_with fail
      go_returns
      exact ⟨rfl, by go_grown⟩
set_option maxRecDepth 20000 in
set_option maxHeartbeats 4000000 in
theorem edit_any (r0 r1 r2 r3 r4 r5 r6 r7 : Int) (w : World) :
    Calls Try.prog 34 #[.agg #[.int .i64 r0, .int .i64 r1, .int .i64 r2, .int .i64 r3, .int .i64 r4, .int .i64 r5, .int .i64 r6, .int .i64 r7]] w fun x w' => x = .returned (.agg #[.int .i64 r1, .int .i64 r2, .int .i64 r3, .int .i64 r4, .int .i64 r5, .int .i64 r6, .int .i64 r7]) ∧ Below w.heap.size w w' := by
  go_enter Try.func34, Try.ntmps34
  go_wp2_with fail
  go_returns
  exact ⟨rfl, by go_grown⟩
end Go.Proofs.Ytpacfppnmenndaa.Tk
