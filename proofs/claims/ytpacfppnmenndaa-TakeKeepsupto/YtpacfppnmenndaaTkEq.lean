/- Records are compared word by word. -/
import Derived.Test.YtpacfppnmenndaaTk13
import Derived.DeepKeys
namespace Go.Proofs.Ytpacfppnmenndaa.Tk
open Go.RowKit Go.Maps Go.Sort Go.Proofs.Ytpacfppnmenndaa.Rg
set_option linter.unusedVariables false
set_option linter.unusedSimpArgs false

theorem items_step (d c : Nat) (xs ys : Array Value) (i : Nat) (is : List Nat) (x y : Int) (w : World) (hc : c = 1) (hx : xs[i]? = some (.int .i64 x)) (hy : ys[i]? = some (.int .i64 y)) :
    (Op.eqItems (d + 1) 2 c xs ys (i :: is)).run Try.prog w = if x = y then (Op.eqItems (d + 1) 2 c xs ys is).run Try.prog w else .ok false w := by
  subst hc
  have p1 := run_part_plain (P := Try.prog) w (e := 2) (by kernel_rfl) (xs := xs) (off := i) hx
  have p2 := run_part_plain (P := Try.prog) w (e := 2) (by kernel_rfl) (xs := ys) (off := i) hy
  have p3 := run_equalIn_int (P := Try.prog) w d 2 .i64 .i64 x y Try.underlying2
  simp only [Op.eqItems, Nat.mul_one, Sem.run_bind, p1, p2, p3, Result.andThen_ok]
  by_cases e : x = y
  · simp [e]
  · simp [e]
theorem eq8 (x0 x1 x2 x3 x4 x5 x6 x7 y0 y1 y2 y3 y4 y5 y6 y7 : Int) (B : Bool) (hB : B = true ↔ (x0 = y0 ∧ x1 = y1 ∧ x2 = y2 ∧ x3 = y3 ∧ x4 = y4 ∧ x5 = y5 ∧ x6 = y6 ∧ x7 = y7)) (w : World) :
    (Op.equalIn 10000 80 (.agg #[.int .i64 x0, .int .i64 x1, .int .i64 x2, .int .i64 x3, .int .i64 x4, .int .i64 x5, .int .i64 x6, .int .i64 x7]) (.agg #[.int .i64 y0, .int .i64 y1, .int .i64 y2, .int .i64 y3, .int .i64 y4, .int .i64 y5, .int .i64 y6, .int .i64 y7])).run Try.prog w = .ok B w := by
  obtain ⟨i0, hi0⟩ : ∃ i0, Try.prog.info? 2 = some i0 := info_of_underlying Try.underlying2
  have hc : Try.prog.cellsOf 2 = 1 := by kernel_rfl
  rw [show 10000 = 9999 + 1 from rfl, run_equalIn_array w 9999 _ _ Try.underlying80 hi0, hc]
  show (Op.eqItems (9998 + 1) 2 1 _ _ [0, 1, 2, 3, 4, 5, 6, 7]).run Try.prog w = _
  rw [items_step _ _ _ _ _ _ x0 y0 w rfl rfl rfl, items_step _ _ _ _ _ _ x1 y1 w rfl rfl rfl, items_step _ _ _ _ _ _ x2 y2 w rfl rfl rfl, items_step _ _ _ _ _ _ x3 y3 w rfl rfl rfl, items_step _ _ _ _ _ _ x4 y4 w rfl rfl rfl, items_step _ _ _ _ _ _ x5 y5 w rfl rfl rfl, items_step _ _ _ _ _ _ x6 y6 w rfl rfl rfl, items_step _ _ _ _ _ _ x7 y7 w rfl rfl rfl]
  have h8 : (Op.eqItems (9998 + 1) 2 1 #[.int .i64 x0, .int .i64 x1, .int .i64 x2, .int .i64 x3, .int .i64 x4, .int .i64 x5, .int .i64 x6, .int .i64 x7] #[.int .i64 y0, .int .i64 y1, .int .i64 y2, .int .i64 y3, .int .i64 y4, .int .i64 y5, .int .i64 y6, .int .i64 y7] []).run Try.prog w = .ok true w := by simp [Op.eqItems]
  rw [h8]
  cases B
  · have hn : ¬ (x0 = y0 ∧ x1 = y1 ∧ x2 = y2 ∧ x3 = y3 ∧ x4 = y4 ∧ x5 = y5 ∧ x6 = y6 ∧ x7 = y7) := fun h => absurd (hB.2 h) (by decide)
    by_cases e0 : x0 = y0
    · rw [if_pos e0]
      by_cases e1 : x1 = y1
      · rw [if_pos e1]
        by_cases e2 : x2 = y2
        · rw [if_pos e2]
          by_cases e3 : x3 = y3
          · rw [if_pos e3]
            by_cases e4 : x4 = y4
            · rw [if_pos e4]
              by_cases e5 : x5 = y5
              · rw [if_pos e5]
                by_cases e6 : x6 = y6
                · rw [if_pos e6, if_neg (fun e7 => hn ⟨e0, e1, e2, e3, e4, e5, e6, e7⟩)]
                · rw [if_neg e6]
              · rw [if_neg e5]
            · rw [if_neg e4]
          · rw [if_neg e3]
        · rw [if_neg e2]
      · rw [if_neg e1]
    · rw [if_neg e0]
  · obtain ⟨e0, e1, e2, e3, e4, e5, e6, e7⟩ := hB.1 rfl
    rw [if_pos e0, if_pos e1, if_pos e2, if_pos e3, if_pos e4, if_pos e5, if_pos e6, if_pos e7]
end Go.Proofs.Ytpacfppnmenndaa.Tk
