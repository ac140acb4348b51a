/- behind, the closure of longer, sort.Search with it. -/
import Derived.Test.YtpacfppnmenndaaTkRow
import Derived.Test.YtpacfppnmenndaaY3
import Derived.Test.YtpacfppnmenndaaRFloatC
namespace Go.Proofs.Ytpacfppnmenndaa.Tk
open Go.RowKit Go.Maps Go.Sort Go.Proofs.Ytpacfppnmenndaa.Rg
open Go.Proofs.Ytpacfppnmenndaa.Y (Tn lt okT wr fst cod bfr OkL TL tab tc rows)
set_option linter.unusedVariables false
set_option linter.unusedSimpArgs false

abbrev tv (x : Tn) : Value := .agg #[.int .i64 x.t, .int .i64 x.g, .int .i64 x.l, .int .i64 x.a, .int .i64 x.o]
def two (x y : Tn) (j : Nat) : Tn := if j = 0 then x else y
theorem wr_two {x y : Tn} (hx : wt x = 0) (hy : wt y = 0) : wr (two x y) 2 = if lt y x = true then 8 else 0 := by
  obtain ⟨x1, x2⟩ := wt_ok hx
  obtain ⟨y1, y2⟩ := wt_ok hy
  rw [Y.wr_few (by omega)]
  have c0 : cod (two x y) 0 = 0 := Y.cod_ok (by exact x1) (by exact x2) (by unfold bfr; simp)
  have hb : bfr (two x y) 1 = lt y x := by unfold bfr two; simp
  have f1 : fst (cod (two x y)) 1 = 0 := by
    show (if fst (cod (two x y)) 0 ≠ 0 then _ else cod (two x y) 0) = 0
    rw [if_neg (by show ¬ (0 : Int) ≠ 0; decide)]; exact c0
  show (if fst (cod (two x y)) 1 ≠ 0 then _ else cod (two x y) 1) = _
  rw [if_neg (by rw [f1]; decide)]
  cases h : lt y x
  · rw [Y.cod_ok (by exact y1) (by exact y2) (by rw [hb]; exact h)]; rfl
  · rw [Y.cod_fit (by exact y1) (by exact y2) (by rw [hb]; exact h)]; rfl
set_option maxRecDepth 20000 in
set_option maxHeartbeats 4000000 in
theorem behind_any (x y : Tn) (hx : wt x = 0) (hy : wt y = 0) (w : World) :
    Calls Try.prog 47 #[.agg #[.int .i64 x.t, .int .i64 x.g, .int .i64 x.l, .int .i64 x.a, .int .i64 x.o], .agg #[.int .i64 y.t, .int .i64 y.g, .int .i64 y.l, .int .i64 y.a, .int .i64 y.o]] w fun e w' => e = .returned (.bool (lt y x)) ∧ Below w.heap.size w w' := by
  have HW := wr_two hx hy
  have hWr : ∀ (nb : Nat) (W : World), (∀ j, j < 2 → ∀ i v, (tc (two x y) j)[i]? = some v → W.cell? ⟨nb, 0 + j * 5 + i, none⟩ = some v) → nb < W.heap.size → Calls Try.prog 39 #[.slice (some ⟨nb, 0, none⟩) 2 2] W fun e w' => e = .returned (.int .i64 (wr (two x y) 2)) ∧ Below W.heap.size W w' := fun nb W hc hlt =>
    Y.Wrong_any _ 2 2 (two x y) W ⟨fun _ => ⟨nb, 0, rfl, hlt, fun j hj => hc j hj 0 _ rfl, fun j hj => hc j hj 1 _ rfl, fun j hj => hc j hj 2 _ rfl, fun j hj => hc j hj 3 _ rfl, fun j hj => hc j hj 4 _ rfl⟩⟩ (Nat.le_refl _)
  have HT : Hid (∀ j, j < 2 → ∀ i v, (tc (two x y) j)[i]? = some v → (#[Value.int .i64 x.t, .int .i64 x.g, .int .i64 x.l, .int .i64 x.a, .int .i64 x.o, .int .i64 y.t, .int .i64 y.g, .int .i64 y.l, .int .i64 y.a, .int .i64 y.o] : Array Value)[0 + j * 5 + i]? = some v) := by
    intro j hj i v h
    match j, hj with
    | 0, _ =>
      match i with
      | 0 | 1 | 2 | 3 | 4 => exact h
      | i + 5 => simp [tc] at h
    | 1, _ =>
      match i with
      | 0 | 1 | 2 | 3 | 4 => exact h
      | i + 5 => simp [tc] at h
  rw [HW] at hWr
  have HL : Hid (lt y x = true ∨ lt y x = false) := by cases lt y x; exact .inr rfl; exact .inl rfl
  clear HW hx hy
  generalize lt y x = B at *
  generalize x.t = xt at *
  generalize x.g = xg at *
  generalize x.l = xl at *
  generalize x.a = xa at *
  generalize x.o = xo at *
  generalize y.t = yt at *
  generalize y.g = yg at *
  generalize y.l = yl at *
  generalize y.a = ya at *
  generalize y.o = yo at *
  go_enter Try.func47, Try.ntmps47
  go_wp2_with fail
  refine (hWr _ _ ?_ ?_).mono ?_
  · intro j hj i v h
    have := HT.out j hj i v h
    simp [go_sem]
    simpa using this
  · simp
  · rintro e w1 ⟨rfl, hb⟩
    have hb2 : Below w.heap.size w w1 := by
      refine Below.trans ?_ (hb.mono ?_)
      · go_grown
      · simp; omega
    rcases HL.out with h | h
    · subst h
      go_wp2_with fail
      go_ret
      exact ⟨rfl, hb2⟩
    · subst h
      go_wp2_with fail
      go_ret
      exact ⟨rfl, hb2⟩
end Go.Proofs.Ytpacfppnmenndaa.Tk
