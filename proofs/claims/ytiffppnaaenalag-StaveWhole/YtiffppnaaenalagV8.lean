/- What the program's bestWays comes to. -/
import Derived.Test.YtiffppnaaenalagV7
import Derived.Laws.MakeOwn
import Derived.Maps.AppendAt
import Derived.OneCell
namespace Go.Proofs.Ytiffppnaaenalag.V
open Go.RowKit Go.Sort Go.Maps
set_option linter.unusedVariables false
set_option linter.unusedSimpArgs false

/-- The ways as cells. -/
def wc (V : Nat → M.Wy) (i : Nat) : Value :=
  if i % 4 = 0 then .bool (V (i / 4)).ex else if i % 4 = 1 then .int .i64 (V (i / 4)).cost else if i % 4 = 2 then .int .i64 (V (i / 4)).lines else .int .i64 (V (i / 4)).fin
theorem wc0 (V : Nat → M.Wy) (j : Nat) : wc V (j * 4) = .bool (V j).ex := by unfold wc; rw [if_pos (by omega), show j * 4 / 4 = j by omega]
theorem wc1 (V : Nat → M.Wy) (j : Nat) : wc V (j * 4 + 1) = .int .i64 (V j).cost := by unfold wc; rw [if_neg (by omega), if_pos (by omega), show (j * 4 + 1) / 4 = j by omega]
theorem wc2 (V : Nat → M.Wy) (j : Nat) : wc V (j * 4 + 2) = .int .i64 (V j).lines := by unfold wc; rw [if_neg (by omega), if_neg (by omega), if_pos (by omega), show (j * 4 + 2) / 4 = j by omega]
theorem wc3 (V : Nat → M.Wy) (j : Nat) : wc V (j * 4 + 3) = .int .i64 (V j).fin := by unfold wc; rw [if_neg (by omega), if_neg (by omega), if_neg (by omega), show (j * 4 + 3) / 4 = j by omega]
/-- A table of ways lies in the block q. -/
def Tb (w : World) (q N : Nat) (V : Nat → M.Wy) : Prop := w.rowIs q 40 (N * 4) (wc V)
theorem Tb.at {w : World} {q N : Nat} {V : Nat → M.Wy} (h : Tb w q N V) {j : Nat} (hj : j < N) : C4 w q (j * 4) (V j) :=
  ⟨by rw [← wc0]; exact World.rowIs.cell h (by omega), by rw [← wc1]; exact World.rowIs.cell h (by omega), by rw [← wc2]; exact World.rowIs.cell h (by omega), by rw [← wc3]; exact World.rowIs.cell h (by omega)⟩
/-- One way of them is another one now. -/
def up (V : Nat → M.Wy) (j : Nat) (v : M.Wy) (i : Nat) : M.Wy := if i = j then v else V i
theorem up_same {V : Nat → M.Wy} {j : Nat} {v : M.Wy} : up V j v j = v := if_pos rfl
theorem up_other {V : Nat → M.Wy} {j i : Nat} {v : M.Wy} (h : i ≠ j) : up V j v i = V i := if_neg h
theorem Tb.set {w : World} {q N : Nat} {V : Nat → M.Wy} (h : Tb w q N V) (j : Nat) (v : M.Wy) :
    Tb ((((w.setCell ⟨q, j * 4, none⟩ (.bool v.ex)).setCell ⟨q, j * 4 + 1, none⟩ (.int .i64 v.cost)).setCell ⟨q, j * 4 + 2, none⟩ (.int .i64 v.lines)).setCell ⟨q, j * 4 + 3, none⟩ (.int .i64 v.fin)) q N (up V j v) := by
  refine World.rowIs.congr ((((World.rowIs.set h (j * 4) _).set (j * 4 + 1) _).set (j * 4 + 2) _).set (j * 4 + 3) _) (fun i hi => ?_)
  by_cases c3 : i = j * 4 + 3
  · subst c3; rw [if_pos rfl, wc3, up_same]
  rw [if_neg c3]
  by_cases c2 : i = j * 4 + 2
  · subst c2; rw [if_pos rfl, wc2, up_same]
  rw [if_neg c2]
  by_cases c1 : i = j * 4 + 1
  · subst c1; rw [if_pos rfl, wc1, up_same]
  rw [if_neg c1]
  by_cases c0 : i = j * 4
  · subst c0; rw [if_pos rfl, wc0, up_same]
  rw [if_neg c0]
  unfold wc
  rw [up_other (by omega)]
theorem Tb.keep {w w' : World} {q N : Nat} {V : Nat → M.Wy} (h : Tb w q N V) (hb : Below w.heap.size w w') : Tb w' q N V :=
  World.rowIs.of_block h (hb.block q (World.rowIs.lt h))
theorem tb_made (w : World) (N : Nat) : Tb (w.alloc (.cells (madeCells #[.bool false, .int .i64 0, .int .i64 0, .int .i64 0] (N * 4)) 40)) w.heap.size N (fun _ => ⟨false, 0, 0, 0⟩) := by
  have h := World.rowIs_alloc w (madeCells #[.bool false, .int .i64 0, .int .i64 0, .int .i64 0] (N * 4)) 40 (wc (fun _ => ⟨false, 0, 0, 0⟩)) (fun i hi => by
    rw [size_madeCells] at hi
    unfold madeCells
    rw [Array.getElem?_map, Array.getElem?_range, if_pos hi]
    simp only [Option.map_some]
    congr 1
    have h4 : i % 4 < 4 := by omega
    unfold wc
    simp only [List.size_toArray, List.length_cons, List.length_nil]
    generalize i % 4 = r at *
    match r, h4 with
    | 0, _ => rfl
    | 1, _ => rfl
    | 2, _ => rfl
    | 3, _ => rfl)
  rw [size_madeCells] at h
  exact h
theorem infoW : (Try.prog.info? 40).map (fun i => (i.zero, i.size, i.bytes)) = some (some (.agg #[.bool false, .int .i64 0, .int .i64 0, .int .i64 0]), 4, 32) := by kernel_rfl
theorem make_ways (n : Nat) (hn : n ≤ 1024) (w : World) : (Instr.makeSlice 37 (.int .i64 ((n : Int) + 1)) (.int .i64 ((n : Int) + 1))).run Try.prog w = .ok (.slice (some ⟨w.heap.size, 0, none⟩) (n + 1) (n + 1)) (w.alloc (.cells (madeCells #[.bool false, .int .i64 0, .int .i64 0, .int .i64 0] ((n + 1) * 4)) 40)) := by
  obtain ⟨i0, hi0, hz0, hz1, hz2⟩ := info_parts infoW
  have := run_make w 37 40 i0 _ Try.underlying37 hi0 hz0 .i64 .i64 ((n : Int) + 1) ((n : Int) + 1) (by omega) (by omega) (by rw [hz2]; omega) (by omega)
  rw [hz1] at this
  rw [this]
  simp [Value.cells]

set_option maxRecDepth 20000 in
set_option maxHeartbeats 8000000 in
theorem bestWays_any (b : M.Bx) (ao : Option Addr) (n c : Nat) (w : World) (hp : BL w ao n b) (hc : n ≤ c) (hcm : c ≤ 9223372036854775807) (hr : M.rt b n) (hn : n ≤ 1024) (w1b : 1 ≤ b.wide) (w2b : b.wide ≤ 10000) :
    Calls Try.prog 15 #[.slice ao n c, .int .i64 b.wide] w fun e w' => (∃ wb V, e = .returned (.slice (some ⟨wb, 0, none⟩) (n + 1) (n + 1)) ∧ w.heap.size ≤ wb ∧ Tb w' wb (n + 1) V ∧ ∀ j, j ≤ n → M.Is b n j (V j)) ∧ Below w.heap.size w w' := by
  have hmk := make_ways n hn
  have wn : IntKind.i64.wrap ((n : Int) + 1) = (n : Int) + 1 := wid (by omega) (by omega)
  go_enter Try.func15, Try.ntmps15
  go_upto_region 2 with fail
  have hT0 := tb_made w (n + 1)
  have hb0 : Below w.heap.size w (w.alloc (.cells (madeCells #[.bool false, .int .i64 0, .int .i64 0, .int .i64 0] ((n + 1) * 4)) 40)) := by go_grown
  have hz0 : w.heap.size < (w.alloc (.cells (madeCells #[.bool false, .int .i64 0, .int .i64 0, .int .i64 0] ((n + 1) * 4)) 40)).heap.size := by simp
  generalize w.alloc (.cells (madeCells #[.bool false, .int .i64 0, .int .i64 0, .int .i64 0] ((n + 1) * 4)) 40) = W0 at *
  have cc := hT0.at (j := n) (by omega)
  have c0 := cc.c0
  have c1 := cc.c1
  have c2 := cc.c2
  have c3 := cc.c3
  have f0 := World.rowIs.frozen hT0 (n * 4)
  have f1 := World.rowIs.frozen hT0 (n * 4 + 1)
  have f2 := World.rowIs.frozen hT0 (n * 4 + 2)
  have f3 := World.rowIs.frozen hT0 (n * 4 + 3)
  have hT1 := hT0.set n ⟨true, 0, 0, n⟩
  have hk1 : n < n + 1 := by omega
  have hk2 : (n : Int) < (n : Int) + 1 := by omega
  clear cc hT0 hmk
  go_wp2_with fail
  go_loopw [6] (fun s wr => ∃ (j : Nat) (V : Nat → M.Wy), j ≤ n ∧ s = .int .i64 ((j : Int) - 1) ∧ Below w.heap.size w wr ∧ Tb wr w.heap.size (n + 1) V ∧ Hid (∀ i, j ≤ i → i ≤ n → M.Is b n i (V i))) (fun s _ => (intOf s + 1).toNat)
  case atStart =>
    refine ⟨n, _, Nat.le_refl _, rfl, (((hb0.setCell (by simp) _).setCell (by simp) _).setCell (by simp) _).setCell (by simp) _, hT1, fun i h1 h2 => ?_⟩
    obtain rfl : i = n := by omega
    rw [up_same]
    exact M.is_end b i
  case round =>
    obtain ⟨j, V, hjn, rfl, hbr, hT, hIs⟩ := hrel
    clear hT1 c0 c1 c2 c3 f0 f1 f2 f3 hz0 hb0
    by_cases hj : j = 0
    · subst hj
      go_wp2_with fail
      go_returns
      exact ⟨⟨_, V, rfl, Nat.le_refl _, hT, fun i hi => hIs.out i (by omega) hi⟩, hbr⟩
    · obtain ⟨i, rfl⟩ : ∃ i, j = i + 1 := ⟨j - 1, by omega⟩
      have ei : ((i + 1 : Nat) : Int) - 1 = (i : Int) := by omega
      rw [ei]
      have hWT : WT wr w.heap.size n i V := ⟨World.rowIs.lt hT, fun j h1 h2 => hT.at (by omega)⟩
      have HB := bestFrom_any b ao n c i w.heap.size V wr (hp.step hbr) hc hcm hr hn w1b w2b (by omega) hWT (fun j h1 h2 => hIs.out j (by omega) h2)
      have hil : (i : Int) < (n : Int) + 1 := by omega
      have hil2 : i < n + 1 := by omega
      clear hWT
      go_wp2_with fail
      refine HB.mono ?_
      rintro e w2 ⟨⟨v, rfl, hv⟩, hb2⟩
      have hv' : Hid (M.Is b n i v) := hv
      have hT2 := hT.keep hb2
      have hb02 : Below w.heap.size w w2 := hbr.trans (hb2.mono hbr.size)
      have cc := hT2.at (j := i) (by omega)
      have d0 := cc.c0
      have d1 := cc.c1
      have d2 := cc.c2
      have d3 := cc.c3
      have g0 := World.rowIs.frozen hT2 (i * 4)
      have g1 := World.rowIs.frozen hT2 (i * 4 + 1)
      have g2 := World.rowIs.frozen hT2 (i * 4 + 2)
      have g3 := World.rowIs.frozen hT2 (i * 4 + 3)
      have hT3 := hT2.set i v
      have hz2 := World.rowIs.lt hT2
      clear cc hT2 HB hv hT hb2
      go_wp2_with fail
      go_roundw
      case rel =>
        refine ⟨i, _, by omega, rfl, (((hb02.setCell (by simp) _).setCell (by simp) _).setCell (by simp) _).setCell (by simp) _, hT3, fun m h1 h2 => ?_⟩
        by_cases e : m = i
        · subst e; rw [up_same]; exact hv'.out
        · rw [up_other e]; exact hIs.out m (by omega) h2
      case measure => simp [intOf]
end Go.Proofs.Ytiffppnaaenalag.V
