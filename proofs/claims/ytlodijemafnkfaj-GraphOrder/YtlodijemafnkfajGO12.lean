/- What Stable, alive, Like, LikeAll, equal and back come to. -/
import Derived.Test.YtlodijemafnkfajGO11
import Derived.Test.YtlodijemafnkfajGO5
import Derived.Test.YtlodijemafnkfajGO2
import Derived.Test.YtlodijemafnkfajGO7
namespace Go.Proofs.Ytlodijemafnkfaj.Fi
open Go.RowKit Go.Maps Go.Sort Fl
set_option linter.unusedSimpArgs false
set_option linter.unusedVariables false

theorem isPart_yes (n : Int) (w : World) (h1 : -2147483648 ≤ n) (h2 : n ≤ 2147483648) : Calls Try.prog 49 #[.int .i64 n] w fun e w' => e = .returned (.bool true) ∧ w' = w := by
  go_enter Try.func49, Try.ntmps49
  go_wp2
  go_ret
  exact ⟨rfl, rfl⟩
theorem square_nat (n : Nat) (w : World) (h : n * n ≤ 1152921504606846976) : Calls Try.prog 31 #[.int .i64 n] w fun e w' => e = .returned (.int .u64 ((n : Int) * (n : Int))) ∧ w' = w := by
  have h0 : (0 : Int) ≤ (n : Int) * (n : Int) := Int.mul_nonneg (by omega) (by omega)
  have h1 : (n : Int) * (n : Int) ≤ 1152921504606846976 := by rw [← Int.natCast_mul]; exact Int.ofNat_le.2 h
  generalize hq : (n : Int) * (n : Int) = q at *
  have HQ : Hid ((n : Int) * (n : Int) = q) := hq
  go_enter Try.func31, Try.ntmps31
  go_wp2
  go_ret
  exact ⟨rfl, rfl⟩
set_option maxHeartbeats 1000000 in
theorem fair_one (n : Int) (b : Nat) (w : World) (h1 : -2147483648 ≤ n) (h2 : n ≤ 2147483648) (c0 : w.cell? ⟨b, 0, none⟩ = some (.int .i64 n)) (c1 : w.cell? ⟨b, 1, none⟩ = some (.int .i64 0)) :
    Calls Try.prog 30 #[.slice (some ⟨b, 0, none⟩) 1 1] w fun e w' => e = .returned (.bool true) ∧ Below w.heap.size w w' := by
  have lt := block_lt_of_cell c0
  simp only at lt
  go_enter Try.func30, Try.ntmps30
  go_wp2_with fail
  go_loopw [7] (fun i ww => ∃ k : Nat, k ≤ 1 ∧ i = .int .i64 k ∧ (k = 0 → ww = w) ∧ Below w.heap.size w ww) (fun i _ => 1 - (intOf i).toNat)
  case atStart => exact ⟨0, by omega, rfl, fun _ => rfl, Below.refl _ _⟩
  case round =>
    obtain ⟨k, hk, rfl, hw0, hbr⟩ := hrel
    rcases (show k = 0 ∨ k = 1 by omega) with rfl | rfl
    · obtain rfl := hw0 rfl
      clear hw0 hbr
      rw [show ((0 : Nat) : Int) = 0 from rfl]
      go_wp2_with fail
      refine (isPart_yes n _ h1 h2).mono ?_
      rintro e w1 ⟨rfl, hw⟩
      rw [hw]
      go_wp2_with fail
      refine (isPart_yes 0 _ (by decide) (by decide)).mono ?_
      rintro e w1 ⟨rfl, hw⟩
      rw [hw]
      go_wp2_with fail
      go_roundw
      case rel => exact ⟨1, by omega, by go_num, (fun h => absurd h (by decide)), by go_grown⟩
      case measure => simp [intOf]
    · rw [show ((1 : Nat) : Int) = 1 from rfl]
      go_wp2_with fail
      go_ret
      exact ⟨rfl, hbr⟩
set_option maxRecDepth 20000 in
set_option maxHeartbeats 2000000 in
theorem Stable_at (n : Nat) (w : World) (h : n ≤ 1073741824) : Calls Try.prog 18 #[.agg #[.int .i64 n, .int .i64 0]] w fun e w' => e = .returned (.bool (decide ((n : Int) * (n : Int) < 1152921504606846976))) ∧ Below w.heap.size w w' := by
  have hnn : n * n ≤ 1152921504606846976 := Nat.le_trans (Nat.mul_le_mul h h) (by decide)
  have q0 := fun w => square_nat n w hnn
  have q1 := fun w => square_nat 0 w (by decide)
  have h0 : (0 : Int) ≤ (n : Int) * (n : Int) := Int.mul_nonneg (by omega) (by omega)
  have h1 : (n : Int) * (n : Int) ≤ 1152921504606846976 := by rw [← Int.natCast_mul]; exact Int.ofNat_le.2 hnn
  have hb : Below w.heap.size w (w.alloc (Obj.cells #[.int .i64 n, .int .i64 0] 63)) := (Below.refl _ _).alloc (Nat.le_refl _) _
  have a0 : (w.alloc (Obj.cells #[.int .i64 n, .int .i64 0] 63)).cell? ⟨w.heap.size, 0, none⟩ = some (.int .i64 n) := by simp [go_sem]
  have a1 : (w.alloc (Obj.cells #[.int .i64 n, .int .i64 0] 63)).cell? ⟨w.heap.size, 1, none⟩ = some (.int .i64 0) := by simp [go_sem]
  have hz : w.heap.size < (w.alloc (Obj.cells #[.int .i64 n, .int .i64 0] 63)).heap.size := by simp
  go_enter Try.func18, Try.ntmps18
  go_wp2_with fail
  generalize w.alloc (Obj.cells #[.int .i64 n, .int .i64 0] 63) = W1 at *
  have g0 := cell_regrown a0
  have g1 := cell_regrown a1
  refine RF.wp_region_float (fun k => k != 1 && k != 2 && k != 6 && k != 9) (by kernel_rfl) (by kernel_rfl) (by kernel_rfl) ?_
  repeat (refine RF.wpFl_read rfl (fun K hK => ?_); go_simp; refine hK _ ?_; clear hK K)
  refine RF.wpFl_do rfl rfl (fun K hK => ?_)
  go_wp2_with fail
  refine hK _ _ (((Below.refl _ _).drew).alloc (by simp) _) ?_
  clear hK K
  refine RF.wpFl_do rfl rfl (fun K hK => ?_)
  go_wp2_with fail
  refine (fair_one n W1.heap.size _ (by omega) (by omega) (by simp [go_sem]) (by simp [go_sem])).mono ?_
  rintro e w2 ⟨rfl, hb2⟩
  go_wp2_with fail
  have hb12 : Below W1.heap.size W1 w2 := ((((Below.refl _ W1).alloc (Nat.le_refl _) _).drew).trans (hb2.mono (by simp)))
  refine hK _ _ hb12 ?_
  clear hK K
  repeat (refine RF.wpFl_read rfl (fun K hK => ?_); go_simp; refine hK _ ?_; clear hK K)
  refine RF.wpFl_dog rfl rfl (fun K hK => ?_)
  go_wp2_with fail
  refine (q0 _).mono ?_
  rintro e w3 ⟨rfl, hw3⟩
  rw [hw3]
  go_wp2_with fail
  refine hK _ _ hb12 ?_
  clear hK K
  repeat (refine RF.wpFl_read rfl (fun K hK => ?_); go_simp; refine hK _ ?_; clear hK K)
  refine RF.wpFl_dog rfl rfl (fun K hK => ?_)
  go_wp2_with fail
  refine (q1 _).mono ?_
  rintro e w4 ⟨rfl, hw4⟩
  rw [hw4]
  go_wp2_with fail
  refine hK _ _ hb12 ?_
  clear hK K
  repeat (refine RF.wpFl_read rfl (fun K hK => ?_); go_simp; refine hK _ ?_; clear hK K)
  refine RF.wpFl_nil ?_
  go_wp2_with fail
  go_ret
  have wq : IntKind.u64.wrap ((n : Int) * (n : Int)) = (n : Int) * (n : Int) := by
    generalize (n : Int) * (n : Int) = q at *
    simp [IntKind.wrap, IntKind.bits, IntKind.signed]; omega
  refine ⟨?_, hb.trans (hb12.mono (by omega))⟩
  rw [wq]; rfl
theorem alive_any (w : World) : Calls Try.prog 9 #[] w fun e w' => e = .returned (.bool true) ∧ Below w.heap.size w w' := by
  have q1 := fun w => Stable_at 5 w (by decide)
  have q2 := fun w => Stable_at 1073741824 w (by decide)
  rw [show decide (((5 : Nat) : Int) * ((5 : Nat) : Int) < 1152921504606846976) = true from by decide] at q1
  rw [show decide (((1073741824 : Nat) : Int) * ((1073741824 : Nat) : Int) < 1152921504606846976) = false from by decide] at q2
  rw [show ((5 : Nat) : Int) = 5 from rfl] at q1
  rw [show ((1073741824 : Nat) : Int) = 1073741824 from rfl] at q2
  go_enter Try.func9, Try.ntmps9
  go_wp2_with fail
  refine (q1 _).mono ?_
  rintro e w1 ⟨rfl, hb1⟩
  go_wp2_with fail
  refine (q2 _).mono ?_
  rintro e w2 ⟨rfl, hb2⟩
  go_wp2_with fail
  go_ret
  exact ⟨rfl, hb1.trans (hb2.mono hb1.size)⟩
@[go_sem] theorem call_bits (args : Array Value) (w : World) : (callFunc 34 args).run Try.prog w = ((Extern.MathFloatBits.float64bits args).run Try.prog w).andThen fun v w' => .ok (.value v) w' :=
  run_callFunc_extern Try.func34 (by kernel_rfl) (by kernel_rfl) (by kernel_rfl) (by kernel_rfl) args w
@[go_sem] theorem run_bits (b : Nat) (w : World) : (Extern.MathFloatBits.float64bits #[.float .f64 b]).run Try.prog w = .ok (.int .u64 b) w := rfl
theorem nn_ways (x : Nat) : (FloatKind.f64.format.order x x != some .eq) = nn x := ord_self x
set_option maxHeartbeats 1000000 in
theorem Like_any (x y : Nat) (w : World) : Calls Try.prog 22 #[.float .f64 x, .float .f64 y] w fun e w' => e = .returned (.bool (alike x y)) ∧ w' = w := by
  by_cases c : x = y
  · subst c
    rw [ab_same]
    go_enter Try.func22, Try.ntmps22
    go_wp2
    go_ret
    exact ⟨rfl, rfl⟩
  · rw [ab_eq c]
    have hne : ((x : Int) == (y : Int)) = false := by simp; omega
    have h1 := nn_ways x
    have h2 := nn_ways y
    generalize nn x = A at *
    generalize nn y = B at *
    clear c
    cases A <;> cases B
    all_goals
      go_enter Try.func22, Try.ntmps22
      go_wp2_with fail
      go_ret
      exact ⟨rfl, rfl⟩
set_option maxHeartbeats 1000000 in
theorem equal_any (x y : Nat) (w : World) (hx : x < 18446744073709551616) (hy : y < 18446744073709551616) : Calls Try.prog 11 #[.float .f64 x, .float .f64 y] w fun e w' => e = .returned (.bool (akin x y)) ∧ w' = w := by
  rw [akin_yes x y hx hy]
  have h0 : (FloatKind.f64.format.order x y == some .eq) = (Ieee.double.order x y == some .eq) := rfl
  have h1 : (FloatKind.f64.format.order x x != some .eq) = (Ieee.double.order x x != some .eq) := rfl
  have h2 : (FloatKind.f64.format.order y y != some .eq) = (Ieee.double.order y y != some .eq) := rfl
  generalize (Ieee.double.order x y == some .eq) = D at *
  generalize (Ieee.double.order x x != some .eq) = A at *
  generalize (Ieee.double.order y y != some .eq) = B at *
  cases D <;> cases A <;> cases B
  all_goals
    go_enter Try.func11, Try.ntmps11
    go_wp2_with fail
    go_ret
    exact ⟨rfl, rfl⟩
end Go.Proofs.Ytlodijemafnkfaj.Fi

/- What LikeAll and the document's Run come to. -/
namespace Go.Proofs.Ytlodijemafnkfaj.Fi
open Go.RowKit Go.Maps Go.Sort Fl
set_option linter.unusedSimpArgs false
set_option linter.unusedVariables false

theorem abs_get {g : List Nat} {i x : Nat} (h : g[i]? = some x) : (abs g)[i]? = some (ab x) := by unfold abs; rw [List.getElem?_map, h]; rfl
theorem alike_of {g h : List Nat} (e : abs g = abs h) {i x y : Nat} (hx : g[i]? = some x) (hy : h[i]? = some y) : alike x y = true := by
  have h1 := abs_get hx
  have h2 := abs_get hy
  rw [e, h2] at h1
  unfold alike
  simp at h1 ⊢
  exact h1.symm
set_option maxHeartbeats 2000000 in
theorem LikeAll_eq (w : World) (S S' : Nat → Prop) (ao bo : Option Addr) (g h : List Nat) (m c d : Nat) (ha : IL w S ao g) (hb : IL w S' bo h) (e : abs g = abs h) (hg : g.length = m) (hm : m ≤ 4611686018427387904) (mc1 : m ≤ c) (mc2 : c ≤ 9223372036854775807) (md1 : m ≤ d) (md2 : d ≤ 9223372036854775807) :
    Calls Try.prog 12 #[.slice ao m c, .slice bo m d] w fun e w' => e = .returned (.bool true) ∧ Below w.heap.size w w' := by
  have hh : h.length = m := by rw [← abs_len h, ← e, abs_len, hg]
  have HA : Hid (IL w S ao g) := ha
  have HB : Hid (IL w S' bo h) := hb
  have HE : Hid (abs g = abs h) := e
  have HG : Hid (g.length = m ∧ h.length = m) := ⟨hg, hh⟩
  clear ha hb e hg hh
  go_enter Try.func12, Try.ntmps12
  go_wp2_with fail
  go_loopw [13] (fun i ww => ∃ k : Nat, k ≤ m ∧ i = .int .i64 k ∧ Below w.heap.size w ww) (fun i _ => m - (intOf i).toNat)
  case atStart => exact ⟨0, by omega, rfl, Below.refl _ _⟩
  case round =>
    obtain ⟨k, hk, rfl, hbr⟩ := hrel
    by_cases hlt : k < m
    · obtain ⟨na, oa, rfl, la, _, ga⟩ := HA.out.at' (by rw [HG.out.1]; omega)
      obtain ⟨nb, ob, rfl, lb, _, gb⟩ := HB.out.at' (by rw [HG.out.2]; omega)
      obtain ⟨x, hx⟩ : ∃ x, g[k]? = some x := ⟨_, List.getElem?_eq_getElem (by rw [HG.out.1]; exact hlt)⟩
      obtain ⟨y, hy⟩ : ∃ y, h[k]? = some y := ⟨_, List.getElem?_eq_getElem (by rw [HG.out.2]; exact hlt)⟩
      have ca := keepC hbr (a := ⟨na, oa + k, none⟩) la (ga k x hx).1
      have cb := keepC hbr (a := ⟨nb, ob + k, none⟩) lb (gb k y hy).1
      have hal := alike_of HE.out hx hy
      have hlt' : (k : Int) < (m : Int) := by omega
      have w3 : IntKind.i64.wrap ((k : Int) + 1) = (k : Int) + 1 := wid (by omega) (by omega)
      clear ga gb hx hy
      have g1 := cell_regrown ca
      have g2 := cell_regrown cb
      have cS : ∀ dd os, Calls Try.prog 22 #[.float .f64 x, .float .f64 y] (grow (redrawn wr dd) os) fun e w'' => e = .returned (.bool true) ∧ ∃ p : Regrown, w'' = grow (redrawn wr p.d) p.os := fun dd os => Calls.regrown_of ((Like_any x y _).mono fun e w' h => ⟨by rw [h.1, hal], by rw [h.2]; exact Below.refl _ _⟩)
      clear hal
      go_wp2_with fail
      refine wp_region_quiet_below (by kernel_rfl) (by kernel_rfl) ?_
      repeat (go_big_quiet_step (exact cS _ _))
      refine wpQuiet_nil ?_
      rintro w4 ⟨⟨dq, osq⟩, hw4⟩
      have hb4 : Below wr.heap.size wr w4 := by rw [hw4]; exact below_regrown wr dq osq
      clear hw4 cS g1 g2
      go_wp2_with fail
      go_roundw
      case rel => exact ⟨k + 1, by omega, by go_num, hbr.trans (hb4.mono hbr.size)⟩
      case measure => simp [intOf]; omega
    · go_wp2_with fail
      go_ret
      exact ⟨rfl, hbr⟩
/-- A sum, difference or product in a walk, whether a number comes out or none. -/
theorem wpList_f {P : Program} {ops : Array Oper} {Q : Exit → Act → World → Prop} {a : Act} {o : Oper} {rest : List Oper} {w : World} (hg : o.guard = none) (op : BinOp) (hop : op = .add ∨ op = .sub ∨ op = .mul) (i j : Operand) (t u : TypeId) (ho : o.op = .binOp op t i j u) (x y : Nat) (hi : a.eval i = .float .f64 x) (hj : a.eval j = .float .f64 y)
    (h : ∀ r d, r < 18446744073709551616 → ab r = fo op (ab x) (ab y) → wpList P ops Q rest (a.put o.dst (.float .f64 r)) (w.drewN d)) : wpList P ops Q (o :: rest) a w := by
  obtain ⟨v, d, h1, r, rfl, h2, h3⟩ := fop_exec P o a op hop i j t u ho x y hi hj w
  unfold wpList
  rw [if_pos (by unfold Region.wanted; rw [hg])]
  left
  unfold Oper.wp
  rw [h1]
  exact h r d h2 h3
def fls (l : List Nat) : List Value := l.map fun x => .float .f64 x
theorem own_IL {w : World} {base : Nat} {v : Value} {g : List Nat} (h : w.ownsRow base 22 1 v g.length (fls g)) (hg : ∀ x ∈ g, x < 18446744073709551616) : ∃ ao c, v = .slice ao g.length c ∧ g.length ≤ c ∧ c ≤ 9223372036854775807 ∧ (ao = none → c = 0) ∧ IL w (fun b => base ≤ b) ao g := by
  rcases h.2 with ⟨e1, e2⟩ | ⟨q, cap, cur, e1, e2, e3, e4, hm, rest⟩
  · exact ⟨none, 0, by rw [e1, e2], by omega, by omega, fun _ => rfl, ⟨fun hn => by omega⟩⟩
  · refine ⟨some ⟨q, 0, none⟩, cap, e1, e4, by unfold maxLen at hm; omega, fun q => (by cases q), ⟨fun hn => ⟨q, 0, rfl, (Array.getElem?_eq_some_iff.1 e3).1, by omega, fun j x hj => ⟨?_, hg x (List.mem_of_getElem? hj)⟩⟩⟩⟩
    subst e1
    have hjl : j < g.length := (List.getElem?_eq_some_iff.1 hj).1
    rw [Nat.zero_add, World.ownsRow.cellAt h j (by omega)]
    unfold fls
    rw [List.getElem?_map, hj]; rfl
end Go.Proofs.Ytlodijemafnkfaj.Fi
