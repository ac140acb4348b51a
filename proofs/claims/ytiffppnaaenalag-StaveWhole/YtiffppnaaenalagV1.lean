/- Boxes and numbers in memory; what the program's with, fits, costs, beats and both Wrong come to. -/
import Derived.Test.YtiffppnaaenalagRows
import Derived.Test.YtiffppnaaenalagVMath2
import Derived.WalkKit
import Derived.Handy
import Derived.RegionTactic
import Derived.ChangeAlike
import Derived.Below
import Derived.Outline
import Derived.Deep.QuietTactic
import Derived.BigQuiet
import Derived.WalkSmall
import Derived.LoopTactic
import Derived.Deep.RegionWith
import Derived.OwnWalk
import Derived.Laws.OwnMore
import Derived.Laws.Rows
import Derived.Deep.OwnRows
namespace Go.Proofs.Ytiffppnaaenalag.V
open Go.RowKit
set_option linter.unusedVariables false
set_option linter.unusedSimpArgs false

theorem keepC {B : Nat} {W w1 : World} (hb : Below B W w1) {b o : Nat} {v : Value} (hlt : b < B) (h : W.cell? ⟨b, o, none⟩ = some v) : w1.cell? ⟨b, o, none⟩ = some v :=
  (hb.cell (p := ⟨b, o, none⟩) hlt).trans h
theorem keepF {B : Nat} {W w1 : World} (hb : Below B W w1) {b o : Nat} {v : Bool} (hlt : b < B) (h : W.frozen? ⟨b, o, none⟩ = v) : w1.frozen? ⟨b, o, none⟩ = v :=
  (hb.frozen (p := ⟨b, o, none⟩) hlt).trans h
theorem ret_int {k : IntKind} {a b : Int} (h : a = b) : Ending.returned (.int k a) = .returned (.int k b) := by rw [h]
theorem ret_bool {a b : Bool} (h : a = b) : Ending.returned (.bool a) = .returned (.bool b) := by rw [h]
theorem wid {x : Int} (h1 : -9223372036854775808 ≤ x) (h2 : x ≤ 9223372036854775807) : IntKind.i64.wrap x = x := by
  rw [IntKind.wrap_i64]; omega
/-- Numbers as they lie in memory. -/
structure LI (w : World) (ao : Option Addr) (n : Nat) (g : Nat → Int) : Prop where
  at' : 0 < n → ∃ b off, ao = some ⟨b, off, none⟩ ∧ b < w.heap.size ∧ ∀ j, j < n → w.cell? ⟨b, off + j, none⟩ = some (.int .i64 (g j))
theorem LI.step {w w' : World} {ao : Option Addr} {n : Nat} {g : Nat → Int} (h : LI w ao n g) (hb : Below w.heap.size w w') : LI w' ao n g := by
  refine ⟨fun hn => ?_⟩
  obtain ⟨b, off, h1, h2, h3⟩ := h.at' hn
  have := hb.size
  exact ⟨b, off, h1, by omega, fun j hj => keepC hb h2 (h3 j hj)⟩
/-- Boxes as they lie in memory. -/
structure BL (w : World) (ao : Option Addr) (n : Nat) (b : M.Bx) : Prop where
  at' : 0 < n → ∃ q off, ao = some ⟨q, off, none⟩ ∧ q < w.heap.size ∧ (∀ j, j < n → w.cell? ⟨q, off + j * 2, none⟩ = some (.int .i64 (b.W j))) ∧ (∀ j, j < n → w.cell? ⟨q, off + j * 2 + 1, none⟩ = some (.int .i64 (b.G j)))
theorem BL.step {w w' : World} {ao : Option Addr} {n : Nat} {b : M.Bx} (h : BL w ao n b) (hb : Below w.heap.size w w') : BL w' ao n b := by
  refine ⟨fun hn => ?_⟩
  obtain ⟨q, off, h1, h2, h3, h4⟩ := h.at' hn
  have := hb.size
  exact ⟨q, off, h1, by omega, fun j hj => keepC hb h2 (h3 j hj), fun j hj => keepC hb h2 (h4 j hj)⟩

theorem with_any (x y p q : Int) (w : World) (h1 : -9223372036854775808 ≤ x + p) (h2 : x + p ≤ 9223372036854775807) (h3 : -9223372036854775808 ≤ y + q) (h4 : y + q ≤ 9223372036854775807) :
    Calls Try.prog 21 #[.agg #[.int .i64 x, .int .i64 y], .agg #[.int .i64 p, .int .i64 q]] w fun e w' => e = .returned (.agg #[.int .i64 (x + p), .int .i64 (y + q)]) ∧ Below w.heap.size w w' := by
  go_enter Try.func21, Try.ntmps21
  go_wp2_with fail
  go_returns
  exact ⟨rfl, by go_grown⟩
theorem fits_any (x y wd : Int) (w : World) (h1 : -9223372036854775808 ≤ x - y) (h2 : x - y ≤ 9223372036854775807) :
    Calls Try.prog 18 #[.agg #[.int .i64 x, .int .i64 y], .int .i64 wd] w fun e w' => e = .returned (.bool (decide (x - y ≤ wd))) ∧ Below w.heap.size w w' := by
  go_enter Try.func18, Try.ntmps18
  go_wp2_with fail
  go_returns
  exact ⟨rfl, by go_grown⟩
theorem costs_any (x y wd : Int) (last : Bool) (w : World) (h1 : 0 ≤ x) (h2 : x ≤ 10240000) (h3 : 1 ≤ wd) (h4 : wd ≤ 10000) :
    Calls Try.prog 19 #[.agg #[.int .i64 x, .int .i64 y], .int .i64 wd, .bool last] w fun e w' => e = .returned (.int .i64 (M.cz x wd last)) ∧ Below w.heap.size w w' := by
  have HB := M.cz_bd (last := last) h1 h2 h3 h4
  have HE : Hid (M.cz x wd last = if 0 < x - wd then 4 * (x - wd) * (x - wd) else if last = true then 0 else (x - wd) * (x - wd)) := rfl
  generalize M.cz x wd last = V at *
  obtain ⟨o, ho⟩ : ∃ o, x - wd = o := ⟨_, rfl⟩
  rw [ho] at HE
  have h5 := M.sq_bd (x := o) (m := 10240000) (by omega) (by omega)
  by_cases c1 : 0 < o
  · have hV : V = 4 * o * o := by have := HE.out; rw [if_pos c1] at this; exact this
    have e : 4 * o * o = 4 * (o * o) := Int.mul_assoc ..
    subst hV
    clear HE HB
    go_enter Try.func19, Try.ntmps19
    go_wp2_with (simp only [ho])
    go_returns
    exact ⟨by rw [e]; rfl, by go_grown⟩
  · cases last
    · have hV : V = o * o := by have := HE.out; rw [if_neg c1] at this; exact this
      subst hV
      clear HE HB
      go_enter Try.func19, Try.ntmps19
      go_wp2_with (simp only [ho])
      go_returns
      exact ⟨rfl, by go_grown⟩
    · have hV : V = 0 := by have := HE.out; rw [if_neg c1] at this; exact this
      subst hV
      clear HE HB
      go_enter Try.func19, Try.ntmps19
      go_wp2_with (simp only [ho])
      go_returns
      exact ⟨rfl, by go_grown⟩
/-- A way as a value. -/
abbrev wv (v : M.Wy) : Value := .agg #[.bool v.ex, .int .i64 v.cost, .int .i64 v.lines, .int .i64 v.fin]
theorem beats_any (v f : M.Wy) (w : World) :
    Calls Try.prog 22 #[wv v, wv f] w fun e w' => e = .returned (.bool (M.be v f)) ∧ Below w.heap.size w w' := by
  have HE : Hid (M.be v f = if v.ex = false then false else if v.cost = f.cost then decide (v.lines < f.lines) else decide (v.cost < f.cost)) := rfl
  generalize M.be v f = V at *
  obtain ⟨x1, x2, x3, x4⟩ := v
  obtain ⟨y1, y2, y3, y4⟩ := f
  simp only at HE
  cases x1
  · have hV : V = false := by have := HE.out; rw [if_pos rfl] at this; exact this
    subst hV
    clear HE
    go_enter Try.func22, Try.ntmps22
    go_wp2_with fail
    go_returns
    exact ⟨rfl, by go_grown⟩
  · by_cases c1 : x2 = y2
    · have hV : V = decide (x3 < y3) := by have := HE.out; rw [if_neg (by decide), if_pos c1] at this; exact this
      subst hV
      clear HE
      subst c1
      go_enter Try.func22, Try.ntmps22
      go_wp2_with fail
      go_returns
      exact ⟨rfl, by go_grown⟩
    · have hV : V = decide (x2 < y2) := by have := HE.out; rw [if_neg (by decide), if_neg c1] at this; exact this
      subst hV
      have c1' : (x2 != y2) = true := by simp [c1]
      clear HE c1
      go_enter Try.func22, Try.ntmps22
      go_wp2_with fail
      go_returns
      exact ⟨rfl, by go_grown⟩

set_option maxHeartbeats 2000000 in
theorem Wrong_any (b : M.Bx) (ao : Option Addr) (n c : Nat) (w : World) (hp : BL w ao n b) (hc : n ≤ c) (hcm : c ≤ 9223372036854775807) :
    Calls Try.prog 6 #[.slice ao n c, .int .i64 b.wide] w fun e w' => e = .returned (.int .i64 (M.wr b n)) ∧ Below w.heap.size w w' := by
  by_cases hm : 1024 < n
  · rw [M.wr_many hm]
    have hm' : (1024 : Int) < n := by omega
    go_enter Try.func6, Try.ntmps6
    go_wp2_with fail
    go_ret
    exact ⟨rfl, by go_grown⟩
  have hm' : ¬ (1024 : Int) < n := by omega
  by_cases hw1 : b.wide < 1
  · rw [M.wr_wide hm (Or.inl hw1)]
    go_enter Try.func6, Try.ntmps6
    go_wp2_with fail
    go_ret
    exact ⟨rfl, by go_grown⟩
  by_cases hw2 : 10000 < b.wide
  · rw [M.wr_wide hm (Or.inr hw2)]
    go_enter Try.func6, Try.ntmps6
    go_wp2_with fail
    go_ret
    exact ⟨rfl, by go_grown⟩
  have HY : Hid (M.rt b n → M.wr b n = 0) := fun h => M.wr_ok (by omega) (by omega) (by omega) h
  have HN : Hid (∀ j, j < n → ¬ (1 ≤ b.W j ∧ b.W j ≤ 10000 ∧ 0 ≤ b.G j ∧ b.G j ≤ b.W j) → M.wr b n = 3) := fun j hj h => M.wr_box hm hj h
  generalize M.wr b n = V at *
  go_enter Try.func6, Try.ntmps6
  go_wp2_with fail
  go_loopw [18] (fun i wr => ∃ k : Nat, k ≤ n ∧ i = .int .i64 k ∧ Hid (M.rt b k) ∧ Below w.heap.size w wr) (fun i _ => n - (intOf i).toNat)
  case atStart => exact ⟨0, by omega, rfl, fun j hj => by omega, Below.refl _ _⟩
  case round =>
    obtain ⟨k, hkn, rfl, hk, hbr⟩ := hrel
    by_cases hlt : k < n
    · obtain ⟨q, off, rfl, hbl, q0, q1⟩ := (hp.step hbr).at' (by omega)
      have r0 := q0 k hlt
      have r1 := q1 k hlt
      have w3 : IntKind.i64.wrap ((k : Int) + 1) = (k : Int) + 1 := wid (by omega) (by omega)
      have hk2 : Hid ((1 ≤ b.W k ∧ b.W k ≤ 10000 ∧ 0 ≤ b.G k ∧ b.G k ≤ b.W k) → M.rt b (k + 1)) := fun h j hj => by
        rcases Nat.lt_succ_iff_lt_or_eq.1 hj with h1 | rfl
        · exact hk.out j h1
        · exact h
      have HNk : Hid (¬ (1 ≤ b.W k ∧ b.W k ≤ 10000 ∧ 0 ≤ b.G k ∧ b.G k ≤ b.W k) → V = 3) := HN.out k hlt
      clear q0 q1 HN HY hk
      generalize b.W k = X at *
      generalize b.G k = Y at *
      by_cases c1 : X < 1
      · have hV : V = 3 := HNk.out (by omega)
        subst hV
        clear HNk hk2
        go_wp2_with fail
        go_ret
        exact ⟨rfl, hbr.alloc hbr.size _⟩
      by_cases c2 : 10000 < X
      · have hV : V = 3 := HNk.out (by omega)
        subst hV
        clear HNk hk2
        go_wp2_with fail
        go_ret
        exact ⟨rfl, hbr.alloc hbr.size _⟩
      by_cases c3 : Y < 0
      · have hV : V = 3 := HNk.out (by omega)
        subst hV
        clear HNk hk2
        go_wp2_with fail
        go_ret
        exact ⟨rfl, hbr.alloc hbr.size _⟩
      by_cases c4 : X < Y
      · have hV : V = 3 := HNk.out (by omega)
        subst hV
        clear HNk hk2
        go_wp2_with fail
        go_ret
        exact ⟨rfl, hbr.alloc hbr.size _⟩
      have hk3 : Hid (M.rt b (k + 1)) := hk2.out (by omega)
      clear HNk hk2
      go_wp2_with fail
      go_roundw
      case rel => exact ⟨k + 1, by omega, by go_num, hk3, hbr.alloc hbr.size _⟩
      case measure => simp [intOf]; omega
    · obtain rfl : k = n := by omega
      have hV : V = 0 := HY.out hk.out
      subst hV
      clear HN HY hk
      go_wp2_with fail
      go_ret
      exact ⟨rfl, hbr⟩

set_option maxHeartbeats 2000000 in
theorem refWrong_any (b : M.Bx) (ao : Option Addr) (n c : Nat) (w : World) (hp : BL w ao n b) (hc : n ≤ c) (hcm : c ≤ 9223372036854775807) :
    Calls Try.prog 7 #[.slice ao n c, .int .i64 b.wide] w fun e w' => e = .returned (.int .i64 (M.wr b n)) ∧ Below w.heap.size w w' := by
  by_cases hm : 1024 < n
  · rw [M.wr_many hm]
    have hm' : (1024 : Int) < n := by omega
    go_enter Try.func7, Try.ntmps7
    go_wp2_with fail
    go_ret
    exact ⟨rfl, by go_grown⟩
  have hm' : ¬ (1024 : Int) < n := by omega
  by_cases hw1 : b.wide < 1
  · rw [M.wr_wide hm (Or.inl hw1)]
    go_enter Try.func7, Try.ntmps7
    go_wp2_with fail
    go_ret
    exact ⟨rfl, by go_grown⟩
  by_cases hw2 : 10000 < b.wide
  · rw [M.wr_wide hm (Or.inr hw2)]
    go_enter Try.func7, Try.ntmps7
    go_wp2_with fail
    go_ret
    exact ⟨rfl, by go_grown⟩
  have HY : Hid (M.rt b n → M.wr b n = 0) := fun h => M.wr_ok (by omega) (by omega) (by omega) h
  have HN : Hid (∀ j, j < n → ¬ (1 ≤ b.W j ∧ b.W j ≤ 10000 ∧ 0 ≤ b.G j ∧ b.G j ≤ b.W j) → M.wr b n = 3) := fun j hj h => M.wr_box hm hj h
  generalize M.wr b n = V at *
  go_enter Try.func7, Try.ntmps7
  go_wp2_with fail
  go_loopw [18] (fun i wr => ∃ k : Nat, k ≤ n ∧ i = .int .i64 k ∧ Hid (M.rt b k) ∧ Below w.heap.size w wr) (fun i _ => n - (intOf i).toNat)
  case atStart => exact ⟨0, by omega, rfl, fun j hj => by omega, Below.refl _ _⟩
  case round =>
    obtain ⟨k, hkn, rfl, hk, hbr⟩ := hrel
    by_cases hlt : k < n
    · obtain ⟨q, off, rfl, hbl, q0, q1⟩ := (hp.step hbr).at' (by omega)
      have r0 := q0 k hlt
      have r1 := q1 k hlt
      have w3 : IntKind.i64.wrap ((k : Int) + 1) = (k : Int) + 1 := wid (by omega) (by omega)
      have hk2 : Hid ((1 ≤ b.W k ∧ b.W k ≤ 10000 ∧ 0 ≤ b.G k ∧ b.G k ≤ b.W k) → M.rt b (k + 1)) := fun h j hj => by
        rcases Nat.lt_succ_iff_lt_or_eq.1 hj with h1 | rfl
        · exact hk.out j h1
        · exact h
      have HNk : Hid (¬ (1 ≤ b.W k ∧ b.W k ≤ 10000 ∧ 0 ≤ b.G k ∧ b.G k ≤ b.W k) → V = 3) := HN.out k hlt
      clear q0 q1 HN HY hk
      generalize b.W k = X at *
      generalize b.G k = Y at *
      by_cases c1 : X < 1
      · have hV : V = 3 := HNk.out (by omega)
        subst hV
        clear HNk hk2
        go_wp2_with fail
        go_ret
        exact ⟨rfl, hbr.alloc hbr.size _⟩
      by_cases c2 : 10000 < X
      · have hV : V = 3 := HNk.out (by omega)
        subst hV
        clear HNk hk2
        go_wp2_with fail
        go_ret
        exact ⟨rfl, hbr.alloc hbr.size _⟩
      by_cases c3 : Y < 0
      · have hV : V = 3 := HNk.out (by omega)
        subst hV
        clear HNk hk2
        go_wp2_with fail
        go_ret
        exact ⟨rfl, hbr.alloc hbr.size _⟩
      by_cases c4 : X < Y
      · have hV : V = 3 := HNk.out (by omega)
        subst hV
        clear HNk hk2
        go_wp2_with fail
        go_ret
        exact ⟨rfl, hbr.alloc hbr.size _⟩
      have hk3 : Hid (M.rt b (k + 1)) := hk2.out (by omega)
      clear HNk hk2
      go_wp2_with fail
      go_roundw
      case rel => exact ⟨k + 1, by omega, by go_num, hk3, hbr.alloc hbr.size _⟩
      case measure => simp [intOf]; omega
    · obtain rfl : k = n := by omega
      have hV : V = 0 := HY.out hk.out
      subst hV
      clear HN HY hk
      go_wp2_with fail
      go_ret
      exact ⟨rfl, hbr⟩
end Go.Proofs.Ytiffppnaaenalag.V
