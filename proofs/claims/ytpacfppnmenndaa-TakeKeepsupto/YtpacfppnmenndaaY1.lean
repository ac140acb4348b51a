/- What cmp.Compare, cmp.Or and the program's order of tones come to. -/
import Derived.Test.YtpacfppnmenndaaYMath
import Derived.Test.YtpacfppnmenndaaRTail
import Derived.Test.YtpacfppnmenndaaQW2
namespace Go.Proofs.Ytpacfppnmenndaa.Y
open Go.RowKit Go.Sort
set_option linter.unusedVariables false
set_option linter.unusedSimpArgs false

theorem cm_cm (x y : Int) (w : World) :
    Calls Try.prog 50 #[.int .i64 x, .int .i64 y] w fun e w' => e = .returned (.int .i64 (cm x y)) ∧ w' = w := by
  have nan : ∀ (z : Int) (W : World), Calls Try.prog 51 #[.int .i64 z] W fun e w' => e = .returned (.bool false) ∧ w' = W := fun z W => by
    go_enter Try.func51, Try.ntmps51
    go_wp2
    go_ret
    exact ⟨rfl, rfl⟩
  rcases cm_cases x y with ⟨h1, e1⟩ | ⟨h1, e1⟩ | ⟨h1, e1⟩
  all_goals
    rw [e1]
    go_enter Try.func50, Try.ntmps50
    go_wp2_with (go_at_call 51; refine (nan _ _).mono ?_; rintro e w1 ⟨rfl, rfl⟩)
    go_ret
    exact ⟨rfl, rfl⟩

/-- Or of numbers that lie in a row. -/
theorem or_any (b n : Nat) (V : Nat → Int) (w : World) (hn : n ≤ 1000) (hb : b < w.heap.size) (hc : ∀ j, j < n → w.cell? ⟨b, j, none⟩ = some (.int .i64 (V j))) :
    Calls Try.prog 49 #[.slice (some ⟨b, 0, none⟩) n n] w fun e w' => e = .returned (.int .i64 (fst V n)) ∧ w' = w := by
  go_enter Try.func49, Try.ntmps49
  go_wp2
  go_loopw [8] (fun i wr => ∃ k : Nat, k ≤ n ∧ i = .int .i64 k ∧ wr = w ∧ Hid (∀ j, j < k → V j = 0)) (fun i _ => n - (intOf i).toNat)
  case atStart => exact ⟨0, by omega, rfl, rfl, fun j hj => by omega⟩
  case round =>
    obtain ⟨k, hk, rfl, rfl, hz⟩ := hrel
    by_cases hlt : k < n
    · have c := hc k hlt
      have HR : Hid (V k ≠ 0 → fst V n = V k) := fun hne => fst_stop hlt hz.out hne
      have HV : Hid (V k = 0 → ∀ j, j < k + 1 → V j = 0) := fun e j hj => by
        by_cases ej : j = k
        · rw [ej]; exact e
        · exact hz.out j (by omega)
      clear hc hz
      generalize V k = x at *
      by_cases h0 : x = 0
      · have hne : (x != 0) = false := by simp [h0]
        have HZ := HV.out h0
        go_wp2_with fail
        go_roundw
        case rel => exact ⟨k + 1, by omega, by go_num, by first | rfl | trivial, HZ⟩
        case measure => simp [intOf]; omega
      · have hne : (x != 0) = true := by simp [h0]
        have HE : Hid (fst V n = x) := HR.out h0
        go_wp2_with fail
        go_ret
        exact ⟨ret_int HE.out.symm, rfl⟩
    · obtain rfl : k = n := by omega
      have HE : Hid (fst V k = 0) := fst_all hz.out
      go_wp2_with fail
      go_ret
      exact ⟨ret_int HE.out.symm, rfl⟩

/-- The five numbers of two tones. -/
def V5 (x y : Tn) (j : Nat) : Int := if j = 0 then cm x.t y.t else if j = 1 then cm x.g y.g else if j = 2 then cm x.o y.o else if j = 3 then cm x.l y.l else cm x.a y.a
theorem V5_fst (x y : Tn) : fst (V5 x y) 5 = cf x y := by
  unfold cf
  by_cases e0 : cm x.t y.t = 0
  · rw [if_neg (by simp [e0])]
    by_cases e1 : cm x.g y.g = 0
    · rw [if_neg (by simp [e1])]
      by_cases e2 : cm x.o y.o = 0
      · rw [if_neg (by simp [e2])]
        by_cases e3 : cm x.l y.l = 0
        · rw [if_neg (by simp [e3])]
          simp [fst, V5, e0, e1, e2, e3]
        · rw [if_pos e3]; simp [fst, V5, e0, e1, e2, e3]
      · rw [if_pos e2]; simp [fst, V5, e0, e1, e2]
    · rw [if_pos e1]; simp [fst, V5, e0, e1]
  · rw [if_pos e0]; simp [fst, V5, e0]

theorem grown3 (w : World) (A B C : Obj) (n : Nat) : ((((w.alloc A).alloc B).drewN n).alloc C) = grow (w.drewN n) (#[A] ++ #[B] ++ #[C]) := by
  rw [alloc_eq_grow, alloc_eq_grow, alloc_eq_grow, ← grow_grow, ← grow_grow]
  rfl
abbrev tv (x : Tn) : Value := .agg #[.int .i64 x.t, .int .i64 x.g, .int .i64 x.l, .int .i64 x.a, .int .i64 x.o]
set_option maxRecDepth 20000 in
set_option maxHeartbeats 4000000 in
theorem order_any (x y : Tn) (w : World) :
    Calls Try.prog 44 #[.agg #[.int .i64 x.t, .int .i64 x.g, .int .i64 x.l, .int .i64 x.a, .int .i64 x.o], .agg #[.int .i64 y.t, .int .i64 y.g, .int .i64 y.l, .int .i64 y.a, .int .i64 y.o]] w fun e w' => e = .returned (.int .i64 (cf x y)) ∧ ∃ q os', w' = grow (w.drewN q) os' := by
  have HF := V5_fst x y
  have H0 : Hid (V5 x y 0 = cm x.t y.t ∧ V5 x y 1 = cm x.g y.g ∧ V5 x y 2 = cm x.o y.o ∧ V5 x y 3 = cm x.l y.l ∧ V5 x y 4 = cm x.a y.a) := ⟨rfl, rfl, rfl, rfl, rfl⟩
  generalize V5 x y = V at *
  generalize cf x y = R at *
  obtain ⟨xt, xg, xl, xa, xo⟩ := x
  obtain ⟨yt, yg, yl, ya, yo⟩ := y
  simp only at *
  have q1 := cm_cm xt yt
  have q2 := cm_cm xg yg
  have q3 := cm_cm xo yo
  have q4 := cm_cm xl yl
  have q5 := cm_cm xa ya
  generalize cm xt yt = v0 at *
  generalize cm xg yg = v1 at *
  generalize cm xo yo = v2 at *
  generalize cm xl yl = v3 at *
  generalize cm xa ya = v4 at *
  go_enter Try.func44, Try.ntmps44
  go_wp2_with fail
  have b0 : w.heap.size < ((w.alloc (Obj.cells #[.int .i64 xt, .int .i64 xg, .int .i64 xl, .int .i64 xa, .int .i64 xo] 38)).alloc (Obj.cells #[.int .i64 yt, .int .i64 yg, .int .i64 yl, .int .i64 ya, .int .i64 yo] 38)).heap.size := by simp; omega
  refine U2.wp_region_tail_read 31 (by decide) rfl (by kernel_rfl) (by kernel_rfl) (by kernel_rfl) ?_
  dsimp only [List.take, List.drop]
  repeat (quiet_step (first
    | (go_at_call_of 50 (Value.int IntKind.i64 xt); exact (q1 _).mono fun _ _ ⟨he, hw⟩ => ⟨he, _, hw⟩)
    | (go_at_call_of 50 (Value.int IntKind.i64 xg); exact (q2 _).mono fun _ _ ⟨he, hw⟩ => ⟨he, _, hw⟩)
    | (go_at_call_of 50 (Value.int IntKind.i64 xo); exact (q3 _).mono fun _ _ ⟨he, hw⟩ => ⟨he, _, hw⟩)
    | (go_at_call_of 50 (Value.int IntKind.i64 xl); exact (q4 _).mono fun _ _ ⟨he, hw⟩ => ⟨he, _, hw⟩)
    | (go_at_call_of 50 (Value.int IntKind.i64 xa); exact (q5 _).mono fun _ _ ⟨he, hw⟩ => ⟨he, _, hw⟩)))
  refine wpQuiet_nil ?_
  rintro w2 ⟨nq, rfl⟩
  go_wp2_with (go_at_call 49; refine (or_any _ 5 V _ (by omega) ?_ ?_).mono ?_)
  · simp
  · intro j hj
    obtain ⟨g0, g1, g2, g3, g4⟩ := H0.out
    match j, hj with
    | 0, _ => rw [g0]; simp [go_sem]
    | 1, _ => rw [g1]; simp [go_sem]
    | 2, _ => rw [g2]; simp [go_sem]
    | 3, _ => rw [g3]; simp [go_sem]
    | 4, _ => rw [g4]; simp [go_sem]
  · rintro e w3 ⟨rfl, rfl⟩
    rw [HF]
    go_wp2_with fail
    go_ret
    exact ⟨rfl, nq, _, grown3 _ _ _ _ _⟩
theorem order_below (x y : Tn) (w : World) :
    Calls Try.prog 44 #[.agg #[.int .i64 x.t, .int .i64 x.g, .int .i64 x.l, .int .i64 x.a, .int .i64 x.o], .agg #[.int .i64 y.t, .int .i64 y.g, .int .i64 y.l, .int .i64 y.a, .int .i64 y.o]] w fun e w' => e = .returned (.int .i64 (cf x y)) ∧ Below w.heap.size w w' :=
  (order_any x y w).mono fun e w' ⟨he, q, os, hw⟩ => ⟨he, by
    rw [hw]
    exact ⟨rfl, rfl, rfl, by simp [grow, World.drewN], fun k hk => by simp [grow, World.drewN, Array.getElem?_append, hk]⟩⟩
end Go.Proofs.Ytpacfppnmenndaa.Y
