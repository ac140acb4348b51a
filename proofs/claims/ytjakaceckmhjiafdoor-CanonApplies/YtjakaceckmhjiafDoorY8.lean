/- What the program's Apply comes to. -/
import Derived.Test.YtjakaceckmhjiafDoorY7
import Derived.Test.YtjakaceckmhjiafDoorY3
import Derived.Deep.DeepCutAuto
namespace Go.Proofs.YtjakaceckmhjiafDoor.Y
open Go.RowKit Go.Sort
set_option linter.unusedVariables false
set_option linter.unusedSimpArgs false

/-- What comes of Apply. -/
def AppQ (c : Ch) (T : Nat → Tn) (n : Nat) (w : World) (e : Ending) (w' : World) : Prop :=
  Go.RowKit.Below w.heap.size w w' ∧ ((ae c T n ≠ 0 ∧ e = .returned (.tuple #[.slice none 0 0, .int .i64 (ae c T n)])) ∨
    (ae c T n = 0 ∧ ∃ mb U, w.heap.size ≤ mb ∧ e = .returned (.tuple #[.slice (some ⟨mb, 0, none⟩) n n, .int .i64 0]) ∧ Row w' mb n U ∧ (tab U n).Perm (tab (fun j => cx c (en T n) (T j)) n) ∧ Ord (tab U n)))

theorem wpList_make_run (w : World) {ops : Array Oper} {rest : List Oper} {o : Oper} {a : Act} {Q : Exit → Act → World → Prop}
    (hg : o.guard = none) (l c : Operand) (t : TypeId) (hop : o.op = Op.makeSlice t l c) (v : Value) (w' : World)
    (hrun : (Instr.makeSlice t (a.eval l) (a.eval c)).run Tryd.prog w = .ok v w')
    (hK : wpList Tryd.prog ops Q rest (a.put o.dst v) w') : wpList Tryd.prog ops Q (o :: rest) a w := by
  refine wpList_plain hg fun K hK' => ?_
  unfold Oper.wp
  simp [execOp, hop, hrun, Result.andThen]
  exact hK' _ _ hK
theorem infoT : (Tryd.prog.info? 44).map (fun i => (i.zero, i.size, i.bytes)) = some (some (.agg #[.int .i64 0, .int .i64 0, .int .i64 0, .int .i64 0, .int .i64 0]), 5, 40) := by kernel_rfl
theorem info_of {i : Option TypeInfo} {z : Value} {s b : Nat} (h : i.map (fun i => (i.zero, i.size, i.bytes)) = some (some z, s, b)) : ∃ i0, i = some i0 ∧ i0.zero = some z ∧ i0.size = s ∧ i0.bytes = b := by
  cases i with
  | none => cases h
  | some i0 => simp at h; exact ⟨i0, rfl, h.1, h.2.1, h.2.2⟩
theorem make_any (n : Nat) (hn : n ≤ 1024) (W : World) : (Instr.makeSlice 22 (.int .i64 n) (.int .i64 n)).run Tryd.prog W = .ok (.slice (some ⟨W.heap.size, 0, none⟩) n n) (W.alloc (.cells (madeCells #[.int .i64 0, .int .i64 0, .int .i64 0, .int .i64 0, .int .i64 0] (n * 5)) 44)) := by
  obtain ⟨i0, hi, hz0, hz1, hz2⟩ := info_of infoT
  have := run_make (P := Tryd.prog) W 22 44 i0 (.agg #[.int .i64 0, .int .i64 0, .int .i64 0, .int .i64 0, .int .i64 0]) Tryd.underlying22 hi hz0 .i64 .i64 n n (by omega) (Int.le_refl _) (by rw [hz2]; omega) (by omega)
  rw [hz1] at this
  exact this

theorem Row.ext {w : World} {mb n : Nat} {Y Z : Nat → Tn} (h : Row w mb n Y) (e : ∀ j, j < n → Y j = Z j) : Row w mb n Z :=
  ⟨h.lt, fun j i hj hi => by rw [← e j hj]; exact h.c j i hj hi, h.f⟩
/-- The row while it is written. -/
def upto (c : Ch) (E : Int) (T : Nat → Tn) (k j : Nat) : Tn := if j < k then cx c E (T j) else ⟨0, 0, 0, 0, 0⟩

set_option maxRecDepth 20000 in
set_option maxHeartbeats 8000000 in
theorem Apply_any (c : Ch) (ao : Option Addr) (n cap : Nat) (T : Nat → Tn) (w : World) (ht : Tab w) (hp : TL w ao n T) (hc : n ≤ cap) :
    Calls Tryd.prog 11 #[.agg #[.bool c.back, .int .i64 c.slow, .bool c.mir, .int .i64 c.xl, .int .i64 c.xa, .int .i64 c.xo, .int .i64 c.s, .int .i64 c.h, .int .i64 c.d], .slice ao n cap] w (AppQ c T n w) := by
  have HWr : Hid (wr T n ≠ 0 → ae c T n = wr T n) := ae_wr
  have HRn : Hid (wr T n = 0 → rng c = false → ae c T n = 3) := fun h1 h2 => ae_rng h1 h2
  have HFs : Hid (wr T n = 0 → rng c = true → ae c T n = fst (fun j => ce c (en T n) (T j)) n) := fun h1 h2 => ae_fst h1 h2
  go_enter Tryd.func11, Tryd.ntmps11
  go_wp2_with fail
  refine (Wrong_any ao n cap T _ (hp.keep (by go_grown)) hc).mono ?_
  rintro e w1 ⟨rfl, hb1⟩
  have z1 := hb1.size
  simp at z1
  have h01 : Go.RowKit.Below w.heap.size w w1 := Below.trans (by go_grown) (hb1.mono (by simp))
  by_cases hw0 : wr T n = 0
  · have hok := wr_zero hw0
    have hne : (wr T n != 0) = false := by simp [hw0]
    have HRn2 : Hid _ := HRn.out hw0
    have HFs2 : Hid _ := HFs.out hw0
    clear HWr HRn HFs
    generalize wr T n = WR at *
    have b0 : w1.cell? ⟨w.heap.size, 0, none⟩ = some (.bool c.back) := keepC hb1 (by simp) (by simp [go_sem])
    have b1 : w1.cell? ⟨w.heap.size, 1, none⟩ = some (.int .i64 c.slow) := keepC hb1 (by simp) (by simp [go_sem])
    have b2 : w1.cell? ⟨w.heap.size, 2, none⟩ = some (.bool c.mir) := keepC hb1 (by simp) (by simp [go_sem])
    have b3 : w1.cell? ⟨w.heap.size, 3, none⟩ = some (.int .i64 c.xl) := keepC hb1 (by simp) (by simp [go_sem])
    have b4 : w1.cell? ⟨w.heap.size, 4, none⟩ = some (.int .i64 c.xa) := keepC hb1 (by simp) (by simp [go_sem])
    have b5 : w1.cell? ⟨w.heap.size, 5, none⟩ = some (.int .i64 c.xo) := keepC hb1 (by simp) (by simp [go_sem])
    have b6 : w1.cell? ⟨w.heap.size, 6, none⟩ = some (.int .i64 c.s) := keepC hb1 (by simp) (by simp [go_sem])
    have b7 : w1.cell? ⟨w.heap.size, 7, none⟩ = some (.int .i64 c.h) := keepC hb1 (by simp) (by simp [go_sem])
    have b8 : w1.cell? ⟨w.heap.size, 8, none⟩ = some (.int .i64 c.d) := keepC hb1 (by simp) (by simp [go_sem])
    have s1 : w.heap.size < w1.heap.size := by omega
    cases hr : rng c
    · have HA : Hid (ae c T n = 3) := HRn2.out hr
      have hno := rng_no hr
      have fin : AppQ c T n w (.returned (.tuple #[.slice none 0 0, .int .i64 3])) w1 := ⟨h01, .inl ⟨by rw [HA.out]; decide, by rw [HA.out]⟩⟩
      clear HRn2 HFs2 b0 b2 b3 b4 b5 b6 b7
      generalize c.slow = SL at *
      generalize c.d = D at *
      by_cases g1 : SL < 1
      · clear hno
        go_wp2_with fail
        go_returns
        exact fin
      · by_cases g2 : 16 < SL
        · clear hno
          go_wp2_with fail
          go_returns
          exact fin
        · by_cases g3 : D < 0
          · clear hno
            go_wp2_with fail
            go_returns
            exact fin
          · have g4 : 1048576 < D := by omega
            clear hno
            go_wp2_with fail
            go_returns
            exact fin
    · have HA : Hid (ae c T n = fst (fun j => ce c (en T n) (T j)) n) := HFs2.out hr
      obtain ⟨r1, r2, r3, r4⟩ := rng_yes hr
      have g1 : ¬ c.slow < 1 := by omega
      have g2 : ¬ 16 < c.slow := by omega
      have g3 : ¬ c.d < 0 := by omega
      have g4 : ¬ 1048576 < c.d := by omega
      have hlen := hok.len
      have cE : ∀ d os, Calls Tryd.prog 9 #[.slice ao n cap] (grow (redrawn w1 d) os) fun e w'' => e = .returned (.int .i64 (en T n)) ∧ ∃ p : Regrown, w'' = grow (redrawn w1 p.d) p.os := fun d os => Calls.regrown_of (End_any ao n cap T _ ((hp.keep h01).keep (below_regrown w1 d os)) hc hok)
      have u0 := cell_regrown b0
      have u1 := cell_regrown b1
      have u2 := cell_regrown b2
      have u3 := cell_regrown b3
      have u4 := cell_regrown b4
      have u5 := cell_regrown b5
      have u6 := cell_regrown b6
      have u7 := cell_regrown b7
      have u8 := cell_regrown b8
      have hEn := en_bd hok
      have hEg := fun j hj => en_ge T n j hj
      clear HRn2 HFs2
      go_wp2_with fail
      refine U2.wp_region_tail_below 3 (by decide) (by kernel_rfl) (by kernel_rfl) (by kernel_rfl) (by kernel_rfl) ?_
      dsimp only [List.take, List.drop]
      repeat (go_big_quiet_step (exact cE _ _))
      refine wpQuiet_nil ?_
      rintro w2 ⟨⟨dq, osq⟩, hw2⟩
      have hb12 : Go.RowKit.Below w1.heap.size w1 w2 := by rw [hw2]; exact below_regrown w1 dq osq
      clear u0 u1 u2 u3 u4 u5 u6 u7 u8 cE b0 b1 b2 b3 b4 b5 b6 b7 b8 hw2
      have hch := changing_any c (en T n) w2
      have HE : Hid (en T n = en T n) := rfl
      generalize hEE : en T n = E at hch HA hEn hEg ⊢
      replace HE : Hid (en T n = E) := hEE
      clear hEE
      have hmk := make_any n hlen
      go_wp2_with (first
        | (go_at_call 24; refine hch.mono ?_; rintro e w3 ⟨_, rfl, ⟨b1, b2, b3, sv, rfl, hcv⟩, hb3⟩)
        | (at_make; refine wpList_make_run _ rfl _ _ 22 rfl _ _ (hmk _) ?_))
      have hrow := row_made w3 n
      have h03 : Go.RowKit.Below w.heap.size w w3 := (h01.trans (hb12.mono (by omega))).trans (hb3.mono (by have := hb12.size; omega))
      have h3m : Go.RowKit.Below w3.heap.size w3 (w3.alloc (.cells (madeCells #[.int .i64 0, .int .i64 0, .int .i64 0, .int .i64 0, .int .i64 0] (n * 5)) 44)) := by go_grown
      have hz3 := h03.size
      clear hmk hch
      go_loopw [45] (fun i wr => ∃ k : Nat, k ≤ n ∧ i = .int .i64 k ∧ Hid (∀ j, j < k → ce c E (T j) = 0) ∧ Go.RowKit.Below w3.heap.size w3 wr ∧ Row wr w3.heap.size n (upto c E T k)) (fun i _ => n - (intOf i).toNat)
      case atStart => exact ⟨0, by omega, rfl, fun j hj => by omega, h3m, hrow⟩
      case round =>
        obtain ⟨k, hkn, rfl, hz, hbr, hrw⟩ := hrel
        have h0r := h03.trans (hbr.mono hz3)
        have zr := hbr.size
        have rlt := hrw.lt
        by_cases hlt : k < n
        · obtain ⟨b, off, rfl, hbl, q0, q1, q2, q3, q4⟩ := (hp.keep h0r).at' (by omega)
          have p0 := q0 k hlt
          have p1 := q1 k hlt
          have p2 := q2 k hlt
          have p3 := q3 k hlt
          have p4 := q4 k hlt
          obtain ⟨hcb, hl2, he2, hl3, he3, hsv⟩ := hcv
          have hCB := hcb.keep hbr
          have hE2 := keepC hbr hl2 he2
          have hE3 := keepC hbr hl3 he3
          have hSV := hsv.keep hbr
          have hTb := ht.step h0r
          have HS : Hid (ce c E (T k) ≠ 0 → ae c T n = ce c E (T k)) := fun hne => by rw [HA.out]; exact fst_stop (f := fun j => ce c E (T j)) hlt hz.out hne
          have HN : Hid (ce c E (T k) = 0 → ∀ j, j < k + 1 → ce c E (T j) = 0) := fun e j hj => by
            by_cases ej : j = k
            · rw [ej]; exact e
            · exact hz.out j (by omega)
          have hch := fun (W : World) (hg : Go.RowKit.Below wr.heap.size wr W) => chg1_any c E (T k) b1 b2 b3 sv W (hTb.step hg) (hCB.keep hg) (by have := hg.size; omega) (keepC hg (by omega) hE2) (by have := hg.size; omega) (keepC hg (by omega) hE3) (hSV.keep hg) hr (hok.ok k hlt) (hEg k hlt) hEn.2
          clear q0 q1 q2 q3 q4 hCB hE2 hE3 hSV hTb hz HA
          go_wp2_with fail
          refine (hch _ (by go_grown)).mono ?_
          rintro e w4 ⟨⟨y, rfl, hy⟩, hb4⟩
          have z4 := hb4.size
          simp at z4
          have hr4 : Go.RowKit.Below wr.heap.size wr w4 := Below.trans (by go_grown) (hb4.mono (by simp))
          have hw4 := hrw.keep hr4
          have h04 := h0r.trans (hr4.mono (by omega))
          have h34 := hbr.trans (hr4.mono (by omega))
          by_cases hce : ce c E (T k) = 0
          · have hce2 : (ce c E (T k) != 0) = false := by simp [hce]
            have hyk : Hid (y = cx c E (T k)) := hy hce
            have HN2 := HN.out hce
            clear HS HN hy hch p0 p1 p2 p3 p4
            generalize ce c E (T k) = CE at *
            go_upto_region 14 with fail
            generalize hW5 : w4.alloc _ = w5
            have h45 : Go.RowKit.Below w4.heap.size w4 w5 := by rw [← hW5]; go_grown
            have s5 : w4.heap.size < w5.heap.size := by rw [← hW5]; simp
            have v0 : w5.cell? ⟨w4.heap.size, 0, none⟩ = some (.int .i64 y.t) := by rw [← hW5]; simp [go_sem]
            have v1 : w5.cell? ⟨w4.heap.size, 1, none⟩ = some (.int .i64 y.g) := by rw [← hW5]; simp [go_sem]
            have v2 : w5.cell? ⟨w4.heap.size, 2, none⟩ = some (.int .i64 y.l) := by rw [← hW5]; simp [go_sem]
            have v3 : w5.cell? ⟨w4.heap.size, 3, none⟩ = some (.int .i64 y.a) := by rw [← hW5]; simp [go_sem]
            have v4 : w5.cell? ⟨w4.heap.size, 4, none⟩ = some (.int .i64 y.o) := by rw [← hW5]; simp [go_sem]
            have hw5 := hw4.keep h45
            have h35 := h34.trans (h45.mono (by omega))
            have m0 := hw5.c k 0 hlt (by omega)
            rw [Nat.add_zero] at m0
            have m1 := hw5.c k 1 hlt (by omega)
            have m2 := hw5.c k 2 hlt (by omega)
            have m3 := hw5.c k 3 hlt (by omega)
            have m4 := hw5.c k 4 hlt (by omega)
            have n0 := hw5.f k 0 hlt (by omega)
            rw [Nat.add_zero] at n0
            have n1 := hw5.f k 1 hlt (by omega)
            have n2 := hw5.f k 2 hlt (by omega)
            have n3 := hw5.f k 3 hlt (by omega)
            have n4 := hw5.f k 4 hlt (by omega)
            have hput := row_put hw5 k hlt y
            have hrow2 := hput.ext (Z := upto c E T (k + 1)) (fun j hj => by
              unfold upto
              by_cases ej : j = k
              · subst ej; rw [if_pos rfl, if_pos (by omega)]; exact hyk.out
              · rw [if_neg ej]
                by_cases ej2 : j < k
                · rw [if_pos ej2, if_pos (by omega)]
                · rw [if_neg ej2, if_neg (by omega)])
            have hsz3 : w3.heap.size < w5.heap.size := by omega
            have hbel := ((((h35.setCell (p := ⟨w3.heap.size, k * 5, none⟩) (Nat.le_refl _) (.int .i64 y.t)).setCell (p := ⟨w3.heap.size, k * 5 + 1, none⟩) (Nat.le_refl _) (.int .i64 y.g)).setCell (p := ⟨w3.heap.size, k * 5 + 2, none⟩) (Nat.le_refl _) (.int .i64 y.l)).setCell (p := ⟨w3.heap.size, k * 5 + 3, none⟩) (Nat.le_refl _) (.int .i64 y.a)).setCell (p := ⟨w3.heap.size, k * 5 + 4, none⟩) (Nat.le_refl _) (.int .i64 y.o)
            clear hW5 hput hyk hw4 hw5 h45 h34 h35 h04 hr4 hb4 hrw hbr h0r
            generalize fld (upto c E T k k) 0 = F0 at *
            generalize fld (upto c E T k k) 1 = F1 at *
            generalize fld (upto c E T k k) 2 = F2 at *
            generalize fld (upto c E T k k) 3 = F3 at *
            generalize fld (upto c E T k k) 4 = F4 at *
            have HB : Hid (Go.RowKit.Below w3.heap.size w3 _ ∧ Row _ w3.heap.size n (upto c E T (k + 1))) := ⟨hbel, hrow2⟩
            clear hbel hrow2
            go_wp2_with fail
            go_roundw
            case rel => exact ⟨k + 1, by omega, by go_num, HN2, HB.out.1, HB.out.2⟩
            case measure => simp [intOf]; omega
          · have hce2 : (ce c E (T k) != 0) = true := by simp [hce]
            have HA2 : Hid (ae c T n = ce c E (T k)) := HS.out hce
            have HF : Hid (∀ W, Go.RowKit.Below w.heap.size w W → AppQ c T n w (.returned (.tuple #[.slice none 0 0, .int .i64 (ce c E (T k))])) W) := fun W hW => ⟨hW, .inl ⟨by rw [HA2.out]; exact hce, by rw [HA2.out]⟩⟩
            clear HS HN hy hch p0 p1 p2 p3 p4 HA2
            generalize ce c E (T k) = CE at *
            go_wp2_with fail
            go_returns
            exact HF.out _ (h04.alloc h04.size _)
        · obtain rfl : k = n := by omega
          have HA2 : Hid (ae c T k = 0) := by rw [HA.out]; exact fst_all hz.out
          have hso := sort_any w3.heap.size k (upto c E T k) wr hrw hlen
          have htab : tab (upto c E T k) k = tab (fun j => cx c E (T j)) k := tab_ext fun j hj => by unfold upto; rw [if_pos hj]
          rw [htab] at hso
          clear HA hz hrw hrow hcv hp hok
          go_wp2_with fail
          refine hso.mono ?_
          rintro e w5 ⟨rfl, U, hU, hperm, hord, hbelow⟩
          have hb5 := hbelow w3.heap.size (Nat.le_refl _)
          have fin : AppQ c T k w (.returned (.tuple #[.slice (some ⟨w3.heap.size, 0, none⟩) k k, .int .i64 0])) w5 := ⟨h0r.trans (hb5.mono hz3), .inr ⟨HA2.out, w3.heap.size, U, hz3, rfl, hU, by rw [HE.out]; exact hperm, hord⟩⟩
          clear hso hperm hord hbelow htab
          go_wp2_with fail
          go_returns
          exact fin
  · have hne : (wr T n != 0) = true := by simp [hw0]
    have HA : Hid (ae c T n = wr T n) := HWr.out hw0
    have fin : AppQ c T n w (.returned (.tuple #[.slice none 0 0, .int .i64 (wr T n)])) w1 := ⟨h01, .inl ⟨by rw [HA.out]; exact hw0, by rw [HA.out]⟩⟩
    clear HWr HRn HFs
    generalize wr T n = WR at *
    go_wp2_with fail
    go_returns
    exact fin
end Go.Proofs.YtjakaceckmhjiafDoor.Y
