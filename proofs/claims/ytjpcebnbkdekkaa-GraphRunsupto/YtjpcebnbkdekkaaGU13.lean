/- What Stable, alive, Like, LikeAll, equal and back come to. -/
import Derived.Test.YtjpcebnbkdekkaaGU12
import Derived.Test.YtjpcebnbkdekkaaGU6
import Derived.Test.YtjpcebnbkdekkaaGU2
import Derived.Test.YtjpcebnbkdekkaaGU8
namespace Go.Proofs.Ytjpcebnbkdekkaa.Fi
open Go.RowKit Go.Maps Go.Sort Fl
set_option linter.unusedSimpArgs false
set_option linter.unusedVariables false

@[go_sem] theorem call_bits (args : Array Value) (w : World) : (callFunc 35 args).run Try.prog w = ((Extern.MathFloatBits.float64bits args).run Try.prog w).andThen fun v w' => .ok (.value v) w' :=
  run_callFunc_extern Try.func35 (by kernel_rfl) (by kernel_rfl) (by kernel_rfl) (by kernel_rfl) args w
@[go_sem] theorem run_bits (b : Nat) (w : World) : (Extern.MathFloatBits.float64bits #[.float .f64 b]).run Try.prog w = .ok (.int .u64 b) w := rfl
theorem nn_ways (x : Nat) : (FloatKind.f64.format.order x x != some .eq) = nn x := ord_self x
set_option maxHeartbeats 1000000 in
theorem Like_any (x y : Nat) (w : World) : Calls Try.prog 20 #[.float .f64 x, .float .f64 y] w fun e w' => e = .returned (.bool (alike x y)) ∧ w' = w := by
  by_cases c : x = y
  · subst c
    rw [ab_same]
    go_enter Try.func20, Try.ntmps20
    go_wp2
    go_ret
    exact ⟨rfl, rfl⟩
  · rw [ab_eq c]
    have hne : ((x : Int) == (y : Int)) = false := by simp; omega
    have h1 := nn_ways x
    have h2 := nn_ways y
    generalize nn x = A at *
    generalize nn y = B at *
    clear c
    cases A <;> cases B
    all_goals
      go_enter Try.func20, Try.ntmps20
      go_wp2_with fail
      go_ret
      exact ⟨rfl, rfl⟩
end Go.Proofs.Ytjpcebnbkdekkaa.Fi

/- What LikeAll and the document's Run come to. -/
namespace Go.Proofs.Ytjpcebnbkdekkaa.Fi
open Go.RowKit Go.Maps Go.Sort Fl
set_option linter.unusedSimpArgs false
set_option linter.unusedVariables false

theorem abs_get {g : List Nat} {i x : Nat} (h : g[i]? = some x) : (abs g)[i]? = some (ab x) := by unfold abs; rw [List.getElem?_map, h]; rfl
theorem alike_of {g h : List Nat} (e : abs g = abs h) {i x y : Nat} (hx : g[i]? = some x) (hy : h[i]? = some y) : alike x y = true := by
  have h1 := abs_get hx
  have h2 := abs_get hy
  rw [e, h2] at h1
  unfold alike
  simp at h1 ⊢
  exact h1.symm
set_option maxHeartbeats 2000000 in
theorem LikeAll_eq (w : World) (S S' : Nat → Prop) (ao bo : Option Addr) (g h : List Nat) (m c d : Nat) (ha : IL w S ao g) (hb : IL w S' bo h) (e : abs g = abs h) (hg : g.length = m) (hm : m ≤ 4611686018427387904) (mc1 : m ≤ c) (mc2 : c ≤ 9223372036854775807) (md1 : m ≤ d) (md2 : d ≤ 9223372036854775807) :
    Calls Try.prog 11 #[.slice ao m c, .slice bo m d] w fun e w' => e = .returned (.bool true) ∧ Below w.heap.size w w' := by
  have hh : h.length = m := by rw [← abs_len h, ← e, abs_len, hg]
  have HA : Hid (IL w S ao g) := ha
  have HB : Hid (IL w S' bo h) := hb
  have HE : Hid (abs g = abs h) := e
  have HG : Hid (g.length = m ∧ h.length = m) := ⟨hg, hh⟩
  clear ha hb e hg hh
  go_enter Try.func11, Try.ntmps11
  go_wp2_with fail
  go_loopw [13] (fun i ww => ∃ k : Nat, k ≤ m ∧ i = .int .i64 k ∧ Below w.heap.size w ww) (fun i _ => m - (intOf i).toNat)
  case atStart => exact ⟨0, by omega, rfl, Below.refl _ _⟩
  case round =>
    obtain ⟨k, hk, rfl, hbr⟩ := hrel
    by_cases hlt : k < m
    · obtain ⟨na, oa, rfl, la, _, ga⟩ := HA.out.at' (by rw [HG.out.1]; omega)
      obtain ⟨nb, ob, rfl, lb, _, gb⟩ := HB.out.at' (by rw [HG.out.2]; omega)
      obtain ⟨x, hx⟩ : ∃ x, g[k]? = some x := ⟨_, List.getElem?_eq_getElem (by rw [HG.out.1]; exact hlt)⟩
      obtain ⟨y, hy⟩ : ∃ y, h[k]? = some y := ⟨_, List.getElem?_eq_getElem (by rw [HG.out.2]; exact hlt)⟩
      have ca := keepC hbr (a := ⟨na, oa + k, none⟩) la (ga k x hx).1
      have cb := keepC hbr (a := ⟨nb, ob + k, none⟩) lb (gb k y hy).1
      have hal := alike_of HE.out hx hy
      have hlt' : (k : Int) < (m : Int) := by omega
      have w3 : IntKind.i64.wrap ((k : Int) + 1) = (k : Int) + 1 := wid (by omega) (by omega)
      clear ga gb hx hy
      have g1 := cell_regrown ca
      have g2 := cell_regrown cb
      have cS : ∀ dd os, Calls Try.prog 20 #[.float .f64 x, .float .f64 y] (grow (redrawn wr dd) os) fun e w'' => e = .returned (.bool true) ∧ ∃ p : Regrown, w'' = grow (redrawn wr p.d) p.os := fun dd os => Calls.regrown_of ((Like_any x y _).mono fun e w' h => ⟨by rw [h.1, hal], by rw [h.2]; exact Below.refl _ _⟩)
      clear hal
      go_wp2_with fail
      refine wp_region_quiet_below (by kernel_rfl) (by kernel_rfl) ?_
      repeat (go_big_quiet_step (exact cS _ _))
      refine wpQuiet_nil ?_
      rintro w4 ⟨⟨dq, osq⟩, hw4⟩
      have hb4 : Below wr.heap.size wr w4 := by rw [hw4]; exact below_regrown wr dq osq
      clear hw4 cS g1 g2
      go_wp2_with fail
      go_roundw
      case rel => exact ⟨k + 1, by omega, by go_num, hbr.trans (hb4.mono hbr.size)⟩
      case measure => simp [intOf]; omega
    · go_wp2_with fail
      go_ret
      exact ⟨rfl, hbr⟩
/-- A sum, difference or product in a walk, whether a number comes out or none. -/
theorem wpList_f {P : Program} {ops : Array Oper} {Q : Exit → Act → World → Prop} {a : Act} {o : Oper} {rest : List Oper} {w : World} (hg : o.guard = none) (op : BinOp) (hop : op = .add ∨ op = .sub ∨ op = .mul) (i j : Operand) (t u : TypeId) (ho : o.op = .binOp op t i j u) (x y : Nat) (hi : a.eval i = .float .f64 x) (hj : a.eval j = .float .f64 y)
    (h : ∀ r d, r < 18446744073709551616 → ab r = fo op (ab x) (ab y) → wpList P ops Q rest (a.put o.dst (.float .f64 r)) (w.drewN d)) : wpList P ops Q (o :: rest) a w := by
  obtain ⟨v, d, h1, r, rfl, h2, h3⟩ := fop_exec P o a op hop i j t u ho x y hi hj w
  unfold wpList
  rw [if_pos (by unfold Region.wanted; rw [hg])]
  left
  unfold Oper.wp
  rw [h1]
  exact h r d h2 h3
def fls (l : List Nat) : List Value := l.map fun x => .float .f64 x
theorem own_IL {w : World} {base : Nat} {v : Value} {g : List Nat} (h : w.ownsRow base 46 1 v g.length (fls g)) (hg : ∀ x ∈ g, x < 18446744073709551616) : ∃ ao c, v = .slice ao g.length c ∧ g.length ≤ c ∧ c ≤ 9223372036854775807 ∧ (ao = none → c = 0) ∧ IL w (fun b => base ≤ b) ao g := by
  rcases h.2 with ⟨e1, e2⟩ | ⟨q, cap, cur, e1, e2, e3, e4, hm, rest⟩
  · exact ⟨none, 0, by rw [e1, e2], by omega, by omega, fun _ => rfl, ⟨fun hn => by omega⟩⟩
  · refine ⟨some ⟨q, 0, none⟩, cap, e1, e4, by unfold maxLen at hm; omega, fun q => (by cases q), ⟨fun hn => ⟨q, 0, rfl, (Array.getElem?_eq_some_iff.1 e3).1, by omega, fun j x hj => ⟨?_, hg x (List.mem_of_getElem? hj)⟩⟩⟩⟩
    subst e1
    have hjl : j < g.length := (List.getElem?_eq_some_iff.1 hj).1
    rw [Nat.zero_add, World.ownsRow.cellAt h j (by omega)]
    unfold fls
    rw [List.getElem?_map, hj]; rfl
end Go.Proofs.Ytjpcebnbkdekkaa.Fi
