/- What the program's Write comes to, where something is written. -/
import Derived.Test.YtgcnmmjgdpdmbadR2
import Derived.Test.YtgcnmmjgdpdmbadRMath3
import Derived.LoopTactic
import Derived.Deep.Cut
namespace Go.Proofs.Ytgcnmmjgdpdmbad.F
open Go.RowKit
set_option linter.unusedVariables false
set_option linter.unusedSimpArgs false

theorem w64 {x : Int} (h1 : -9223372036854775808 ≤ x) (h2 : x ≤ 9223372036854775807) : wrap64 x = x := by
  unfold wrap64; omega
theorem wpList_make_run (w : World) {ops : Array Oper} {rest : List Oper} {o : Oper} {a : Act} {Q : Exit → Act → World → Prop}
    (hg : o.guard = none) (l c : Operand) (t : TypeId) (hop : o.op = Op.makeSlice t l c) (v : Value) (w' : World)
    (hrun : (Instr.makeSlice t (a.eval l) (a.eval c)).run Try.prog w = .ok v w')
    (hK : wpList Try.prog ops Q rest (a.put o.dst v) w') : wpList Try.prog ops Q (o :: rest) a w := by
  refine wpList_plain hg fun K hK' => ?_
  unfold Oper.wp
  simp [execOp, hop, hrun, Result.andThen]
  exact hK' _ _ hK
theorem shr1024 (H : Int) (h1 : 1 ≤ H) (hh : H ≤ 10) : 1024 / 2 ^ H.toNat = M.pt H := by
  obtain ⟨h, rfl⟩ : ∃ h : Nat, H = h := ⟨H.toNat, by omega⟩
  unfold M.pt
  rcases (show h = 1 ∨ h = 2 ∨ h = 3 ∨ h = 4 ∨ h = 5 ∨ h = 6 ∨ h = 7 ∨ h = 8 ∨ h = 9 ∨ h = 10 by omega) with rfl | rfl | rfl | rfl | rfl | rfl | rfl | rfl | rfl | rfl <;> rfl
theorem vF_next (q r j : Nat) (H d : Int) (h : ∃ hn dd : Nat, H = hn ∧ d = dd ∧ (M.tl r)[j]? = some (hn, dd)) : rows (vF q r) (q + j) ++ [.int .i64 H, .int .i64 d] = rows (vF q r) (q + j + 1) := by
  obtain ⟨hn, dd, rfl, rfl, h⟩ := h
  show _ = rows (vF q r) (q + j) ++ vF q r (q + j)
  unfold vF
  rw [M.eV_tail q r j _ h]

/-- What comes of Write where something is written. -/
def WriteOk (q r : Nat) (w : World) (e : Ending) (w' : World) : Prop :=
  ∃ v, e = .returned (.tuple #[v, .int .i64 0]) ∧ Below w.heap.size w w' ∧ w'.ownsRow w.heap.size 43 2 v (M.eN q r) (rows (vF q r) (M.eN q r))

set_option maxRecDepth 20000 in
set_option maxHeartbeats 4000000 in
theorem Write_gen (u d T P : Int) (q r : Nat) (w : World) (hk : M.ok u d = true) (h0 : 0 < u) (hu : u ≤ 65536 * d) (hdb : (1024 % d != 0) = false) (hP : 1024 / d = P) (hp1 : 0 ≤ P) (hp2 : P ≤ 1024) (hl : u * P = T) (HT : Hid (T = q * 1024 + r)) (hq : q ≤ 65536) (hr : r < 1024) :
    Calls Try.prog 10 #[.agg #[.int .i64 u, .int .i64 d]] w (WriteOk q r w) := by
  obtain ⟨k1, k2, k3, k4, _⟩ := M.ok_yes _ _ hk
  have hne : d ≠ 0 := by omega
  have hneb : (d == 0) = false := by simpa using hne
  obtain ⟨i0, hi, hz0, hz1, hz2⟩ := info_parts infoV
  have hT1 : 0 ≤ T := by have := HT.out; omega
  have hT2 : T ≤ 67109888 := by have := HT.out; omega
  have HQ : Hid (T / 1024 = q ∧ T % 1024 = r) := ⟨by have := HT.out; omega, by have := HT.out; omega⟩
  obtain ⟨C, hmk, hown0⟩ : ∃ C : Array Value, Hid (∀ W : World, (Instr.makeSlice 39 (.int .i64 (T / 1024)) (.int .i64 (T / 1024))).run Try.prog W = .ok (.slice (some ⟨W.heap.size, 0, none⟩) q q) (W.alloc (.cells C 43))) ∧ Hid (∀ (W : World) (base : Nat), base ≤ W.heap.size → (W.alloc (.cells C 43)).ownsRow base 43 2 (.slice (some ⟨W.heap.size, 0, none⟩) q q) q (rows (vF q r) q)) := by
    refine ⟨madeCells (Value.agg #[.int .i64 0, .int .i64 0]).cells (q * 2), (fun W => ?_ : ∀ W : World, _), fun W base hb => own_made W base q r hb hq⟩
    have := run_make (P := Try.prog) W 39 43 i0 (.agg #[.int .i64 0, .int .i64 0]) Try.underlying39 hi hz0 .i64 .i64 q q (by omega) (Int.le_refl _) (by rw [hz2]; omega) (by omega)
    rw [hz1] at this
    rw [HQ.out.1]
    exact this
  have hx1 : wrap64 P = P := w64 (by omega) (by omega)
  have hx2 : wrap64 T = T := w64 (by omega) (by omega)
  go_enter Try.func10, Try.ntmps10
  go_wp2_with fail
  refine (wrongLength_yes u d _ hk (by omega)).mono ?_
  rintro e w1 ⟨rfl, hb1⟩
  have A0 : w1.cell? ⟨w.heap.size, 0, none⟩ = some (.int .i64 u) := keepC hb1 (by go_size) (by simp [go_sem])
  have A1 : w1.cell? ⟨w.heap.size, 1, none⟩ = some (.int .i64 d) := keepC hb1 (by go_size) (by simp [go_sem])
  have h01 : Below w.heap.size w w1 := Below.trans (by go_grown) (hb1.mono (by go_size))
  have z1 := hb1.size
  simp at z1
  clear hb1
  go_wp2_with fail
  go_region
  go_wp2_with (at_make; refine wpList_make_run _ rfl _ _ 39 rfl _ _ (hmk.out _) ?_)
  have sz1 : w.heap.size < w1.heap.size := by omega
  go_loopw [5, 6, 7] (fun x v h wr => ∃ (X H : Int) (j : Nat), x = .int .i64 X ∧ h = .int .i64 H ∧ 0 ≤ X ∧ X ≤ 1023 ∧ 1 ≤ H ∧ H ≤ 11 ∧ j ≤ 5 ∧ Hid (M.OutI r j X H) ∧ wr.ownsRow w1.heap.size 43 2 v (q + j) (rows (vF q r) (q + j)) ∧ Below w1.heap.size w1 wr)
    (fun _ _ h _ => 11 - (intOf h).toNat)
  case atStart =>
    have hst := M.out_start r hr
    exact ⟨T % 1024, 1, 0, rfl, rfl, by have := HQ.out.2; omega, by have := HQ.out.2; omega, by omega, by omega, by omega, by rw [HQ.out.2]; exact hst, hown0.out _ _ (by simp), by go_grown⟩
  case round =>
    obtain ⟨X, H, j, rfl, rfl, x1, x2, y1, y2, hj, hO, hown, hbr⟩ := hrel
    have zr := hbr.size
    by_cases hX : 0 < X
    · obtain ⟨g1, g2, g3, g4, g5⟩ := M.out_go r j X H hO.out hX
      have hsh := shr1024 H y1 g1
      by_cases hP : X < M.pt H
      · have hN : Hid (M.OutI r j X (H + 1)) := g4 hP
        clear g4 g5
        generalize M.pt H = Pn at *
        go_wp2_with fail
        go_roundw
        case rel => exact ⟨X, H + 1, j, rfl, by go_num, x1, x2, by omega, by omega, hj, hN, hown, hbr⟩
        case measure => simp [intOf]; omega
      · have hI : Hid (M.InI r j H (X - M.pt H) (M.pt H / 2) 0) := g5 (by omega)
        clear g4 g5
        generalize M.pt H = Pn at *
        go_wp2_with fail
        go_loop [5, 8, 9] (fun x p d => ∃ Y p' d' : Int, x = .int .i64 Y ∧ p = .int .i64 p' ∧ d = .int .i64 d' ∧ 0 ≤ Y ∧ Y ≤ 1023 ∧ 0 ≤ p' ∧ p' ≤ 512 ∧ 0 ≤ d' ∧ d' ≤ 3 ∧ Hid (M.InI r j H Y p' d'))
          (fun _ _ d => 3 - (intOf d).toNat)
        case atStart => exact ⟨X - Pn, Pn / 2, 0, by first | rfl | go_num, by first | rfl | go_num, rfl, by omega, by omega, by omega, by omega, by omega, by omega, hI⟩
        case round =>
          obtain ⟨Y, p', d', rfl, rfl, rfl, a1, a2, b1, b2, c1, c2, hII⟩ := hrel
          have HS : Hid (0 < Y → p' ≤ Y → d' < 3 → M.InI r j H (Y - p') (p' / 2) (d' + 1)) := fun e1 e2 e3 => M.in_step r j H Y p' d' hII.out e1 e2 e3
          have HE : Hid (¬ (0 < Y ∧ p' ≤ Y ∧ d' < 3) → M.OutI r (j + 1) Y (H + 1) ∧ ∃ hn dd : Nat, H = hn ∧ d' = dd ∧ (M.tl r)[j]? = some (hn, dd)) := fun e => M.in_end r j H Y p' d' hII.out e
          by_cases hc : 0 < Y ∧ p' ≤ Y ∧ d' < 3
          · obtain ⟨e1, e2, e3⟩ := hc
            have HN := HS.out e1 e2 e3
            replace HN : Hid (M.InI r j H (Y - p') (p' / 2) (d' + 1)) := HN
            clear HS HE hII hI
            go_wp2_with fail
            go_round
            case rel => exact ⟨Y - p', p' / 2, d' + 1, by first | rfl | go_num, by first | rfl | go_num, by first | rfl | go_num, by omega, by omega, by omega, by omega, by omega, by omega, HN⟩
            case measure => simp [intOf]; omega
          · obtain ⟨hO2, hnx⟩ := HE.out hc
            have hrow : Hid (rows (vF q r) (q + j) ++ [.int .i64 H, .int .i64 d'] = rows (vF q r) (q + j + 1)) := vF_next q r j H d' hnx
            have hO3 : Hid (M.OutI r (j + 1) Y (H + 1)) := hO2
            have hj5 := M.out_len r (j + 1) Y (H + 1) hr hO2
            clear hO2 hnx HS HE hII hI hO
            rcases (show Y ≤ 0 ∨ (0 < Y ∧ Y < p') ∨ (0 < Y ∧ p' ≤ Y ∧ 3 ≤ d') by omega) with e | ⟨e1, e2⟩ | ⟨e1, e2, e3⟩
            all_goals
              clear hc
              go_wp2_with (at_builtin; refine wpList_append_own _ rfl (.tmp 68) (.tmp 72) 39 rfl w1.heap.size 43 i0 (.agg #[.int .i64 0, .int .i64 0]) 2 16 Try.underlying39 hi hz0 hz1 hz2 rfl (by decide) _ (q + j) (rows (vF q r) (q + j)) rfl (hown.alloc _) ⟨wr.heap.size, 0, none⟩ 1 1 [.int .i64 H, .int .i64 d'] rfl rfl ?c1 ?c2 ?c3 ?c4 ?c5 ?_)
              case c2 => exact ⟨rfl, rfl⟩
              case c3 => unfold maxLen; omega
              case c4 => omega
              case c5 => omega
              intro v' w3 hown' hgrow _
              rw [hrow.out] at hown'
              have hb13 : Below w1.heap.size w1 w3 := (hbr.alloc hbr.size _).grown hgrow (by simp; omega) (own_block hown)
              clear hgrow hown hrow
              go_wp2_with fail
              go_roundw
              case rel => first | exact ⟨Y, H + 1, j + 1, rfl, by go_num, by omega, by omega, by omega, by omega, hj5, hO3, hown', hb13⟩ | ((repeat apply Exists.intro); exact ⟨⟨Y, H + 1, j + 1, rfl, by go_num, by omega, by omega, by omega, by omega, hj5, hO3, hown', hb13⟩, rfl⟩)
              case measure => simp [intOf]; omega
    · obtain rfl : X = 0 := by omega
      have hn := M.out_end q r j H hO.out
      rw [hn] at hown
      have hN : Hid (q + j = M.eN q r) := hn
      clear hn
      go_wp2_with fail
      go_returns
      exact ⟨_, rfl, h01.trans (hbr.mono (by omega)), own_base hown (by omega)⟩
end Go.Proofs.Ytgcnmmjgdpdmbad.F
