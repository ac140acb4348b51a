/- What the program's Find comes to. -/
import Derived.Test.YtmgkbnlmdhnjnaeUMath4
import Derived.Test.YtmgkbnlmdhnjnaeURow
import Derived.Maps.AppendAt
import Derived.OneCell
namespace Go.Proofs.Ytmgkbnlmdhnjnae.U
open Go.RowKit Go.Maps Go.Sort
set_option linter.unusedVariables false
set_option linter.unusedSimpArgs false

theorem info3 : (Try.prog.info? 3).map (fun i => (i.zero, i.size, i.bytes)) = some (some (.int .i64 0), 1, 8) := by kernel_rfl
/-- A number as cells. -/
def ic (x : Nat → Int) (j : Nat) : List Value := [.int .i64 (x j)]
theorem own_LI {w : World} {base : Nat} {t : TypeId} {v : Value} {n : Nat} {x : Nat → Int} (hn : w.ownsRow base t 1 v n (rows (ic x) n)) :
    ∃ ao c, v = .slice ao n c ∧ n ≤ c ∧ c ≤ 9223372036854775807 ∧ LI w ao n x := by
  by_cases hz : n = 0
  · subst hz
    rcases hn.2 with ⟨rfl, _⟩ | ⟨g, cap, cur, rfl, _, _, _, hm, _⟩
    · exact ⟨none, 0, rfl, by omega, by omega, ⟨fun h => by omega⟩⟩
    · exact ⟨some ⟨g, 0, none⟩, cap, rfl, by omega, by unfold maxLen at hm; omega, ⟨fun h => by omega⟩⟩
  · obtain ⟨g, cap, rfl, h1, h2, h3, h4⟩ := own_cells hn (by omega)
    have hcap : cap ≤ 9223372036854775807 := by
      rcases hn.2 with ⟨h, _⟩ | ⟨g', cap', cur, h, _, _, _, hm, _⟩
      · simp at h
      · simp at h; unfold maxLen at hm; omega
    have hr := fun j i (hj : j < n) (hi : i < 1) => rows_get (F := ic x) (s := 1) (fun j => rfl) n j i hj hi
    refine ⟨some ⟨g, 0, none⟩, cap, rfl, h3, hcap, ⟨fun _ => ⟨g, 0, rfl, h2, fun j hj => ?_⟩⟩⟩
    rw [Nat.zero_add, h4 _ (by omega)]; have := hr j 0 hj (by omega); rw [Nat.mul_one, Nat.add_zero] at this; exact this
theorem rows_ext {x y : Nat → Int} {i : Nat} (h : ∀ j, j < i → x j = y j) : rows (ic x) i = rows (ic y) i := by
  induction i with
  | zero => rfl
  | succ i ih => simp only [rows]; rw [ih (fun j hj => h j (by omega))]; unfold ic; rw [h i (by omega)]

set_option maxRecDepth 100000 in
set_option maxHeartbeats 8000000 in
theorem Find_any (r : M.Ru) (ao : Option Addr) (n c : Nat) (g : Nat → Int) (w : World) (hp : LI w ao n g) (hc : n ≤ c) (hcm : c ≤ 9223372036854775807) :
    Calls Try.prog 23 #[.agg #[.int .i64 r.low, .int .i64 r.high, .bool r.above, .int .i64 r.leap, .int .i64 r.classes], .slice ao n c] w fun e w' => (∃ bo m d x E, e = .returned (.tuple #[.slice bo m d, .int .i64 E]) ∧ m ≤ d ∧ d ≤ 9223372036854775807 ∧ LI w' bo m x ∧ FnR r g n x m E) ∧ Below w.heap.size w w' := by
  have HW := fun w hp => Wrong_any r ao n c g w hp hc hcm
  by_cases hw : M.wr r g n = 0
  rotate_left
  · have hw' : (M.wr r g n != 0) = true := by simp [hw]
    have HR : Hid (FnR r g n (fun _ => 0) 0 (M.wr r g n)) := Or.inl ⟨hw, rfl, rfl⟩
    generalize M.wr r g n = X at *
    go_enter Try.func23, Try.ntmps23
    go_wp2_with fail
    refine (HW _ (hp.step (by go_grown))).mono ?_
    rintro e w1 ⟨rfl, hb1⟩
    go_wp2_with fail
    go_returns
    exact ⟨⟨none, 0, 0, _, _, rfl, by omega, by omega, ⟨fun h => by omega⟩, HR.out⟩, Below.trans (by go_grown) (hb1.mono (by simp))⟩
  obtain ⟨h1, h2, h3, h4⟩ := M.wr_zero hw
  rw [hw] at HW
  have HN := fun w hp => newSearch_any r ao n c g w hp hc hcm h4 h1 h2 h3
  obtain ⟨i0, hi0, hz0, hz1, hz2⟩ := info_parts info3
  have hmk : ∀ w : World, (Instr.makeSlice 39 (.int .i64 0) (.int .i64 (n : Int))).run Try.prog w = .ok (.slice (some ⟨w.heap.size, 0, none⟩) 0 n) (w.alloc (.cells (madeCells #[.int .i64 0] n) 3)) := fun w => by
    have := run_make w 39 3 i0 _ Try.underlying39 hi0 hz0 .i64 .i64 0 n (by omega) (by omega) (by rw [hz2]; omega) (by omega)
    rw [hz1] at this
    simpa [Value.cells] using this
  have HR1 : Hid (M.ct r g n n (-1) false = 0 → FnR r g n (fun _ => 0) 0 6) := fun h => Or.inr (Or.inl ⟨hw, rfl, rfl, h⟩)
  have HR2 : Hid (∀ x, (∀ i, i < n → FQ r g n x i) → FnR r g n x n 0) := fun x h => Or.inr (Or.inr ⟨hw, rfl, rfl, h⟩)
  clear hw
  go_enter Try.func23, Try.ntmps23
  go_wp2_with fail
  obtain ⟨W, hW⟩ : ∃ x, x = w.alloc (.cells #[.int .i64 r.low, .int .i64 r.high, .bool r.above, .int .i64 r.leap, .int .i64 r.classes] 38) := ⟨_, rfl⟩
  rw [← hW]
  have hbW : Below w.heap.size w W := by rw [hW]; go_grown
  have sW : w.heap.size < W.heap.size := by rw [hW]; simp
  have q0 : W.cell? ⟨w.heap.size, 0, none⟩ = some (.int .i64 r.low) := by rw [hW]; simp [go_sem]
  have q1 : W.cell? ⟨w.heap.size, 1, none⟩ = some (.int .i64 r.high) := by rw [hW]; simp [go_sem]
  have q2 : W.cell? ⟨w.heap.size, 2, none⟩ = some (.bool r.above) := by rw [hW]; simp [go_sem]
  have q3 : W.cell? ⟨w.heap.size, 3, none⟩ = some (.int .i64 r.leap) := by rw [hW]; simp [go_sem]
  have q4 : W.cell? ⟨w.heap.size, 4, none⟩ = some (.int .i64 r.classes) := by rw [hW]; simp [go_sem]
  clear hW
  refine (HW _ (hp.step hbW)).mono ?_
  rintro e w1 ⟨rfl, hb1⟩
  have p0 := keepC hb1 sW q0
  have p1 := keepC hb1 sW q1
  have p2 := keepC hb1 sW q2
  have p3 := keepC hb1 sW q3
  have p4 := keepC hb1 sW q4
  have s1 : w.heap.size < w1.heap.size := by have := hb1.size; omega
  have k1 : Below w.heap.size w w1 := hbW.trans (hb1.mono (by omega))
  clear q0 q1 q2 q3 q4 hb1 hbW sW HW
  go_wp2_with fail
  refine (HN _ (hp.step k1)).mono ?_
  rintro e w2 ⟨⟨sb, wb, rfl, hs2, hm2⟩, hb2⟩
  have k2 : Below w.heap.size w w2 := k1.trans (hb2.mono k1.size)
  have z2 := k2.size
  clear p0 p1 p2 p3 p4 s1 k1 hb2 HN
  go_wp2_with fail
  refine (begun_any _).mono ?_
  rintro e w3 ⟨rfl, hb3⟩
  have k3 : Below w2.heap.size w2 w3 := Below.trans (by go_grown) (hb3.mono (by simp))
  have hown3 : w3.ownsRow w2.heap.size 3 1 (.slice (some ⟨w2.heap.size, 0, none⟩) 0 n) 0 [] := own_step (World.ownsRow_made w2 _ n (Nat.le_refl _) (by unfold maxLen; omega) (by rw [size_madeCells]; omega)) hb3
  have s3 : w2.heap.size < w3.heap.size := by have := hb3.size; simp at this; omega
  clear hb3 hmk
  go_wp2_with fail
  go_loopw [8, 28] (fun v s wr => ∃ (i : Nat) (x : Nat → Int), i ≤ n ∧ s = .int .i64 (i : Int) ∧ Below w2.heap.size w2 wr ∧ wr.ownsRow w2.heap.size 3 1 v i (rows (ic x) i) ∧ v.ownBlock ≠ some w3.heap.size ∧ Hid (∀ j, j < i → FQ r g n x j) ∧ Hid (i = 0 ∨ 0 < M.ct r g n (n - i) (M.stk x i) (M.sta x i)) ∧ Hid (∀ j, j < i → 0 ≤ x j ∧ x j ≤ 127) ∧
      w3.heap.size < wr.heap.size ∧ wr.cell? ⟨w3.heap.size, 0, none⟩ = some (.int .i64 (M.stk x i)) ∧ wr.cell? ⟨w3.heap.size, 1, none⟩ = some (.bool (M.sta x i)) ∧ wr.frozen? ⟨w3.heap.size, 0, none⟩ = false ∧ wr.frozen? ⟨w3.heap.size, 1, none⟩ = false) (fun _ s _ => n - (intOf s).toNat)
  case atStart =>
    exact ⟨0, fun _ => 0, by omega, rfl, k3.trans (by go_grown), hown3.alloc _, by simp [Value.ownBlock]; omega, fun j hj => by omega, Or.inl rfl, fun j hj => by omega, by simp, by simp [go_sem, M.stk], by simp [go_sem, M.sta], by simp [go_sem], by simp [go_sem]⟩
  case round =>
    obtain ⟨i, x, hin, rfl, hbr, hown, hne, hF, hpos, hrange, sz, y0, y1, f0, f1⟩ := hrel
    have zr := hbr.size
    have hbw : Below w.heap.size w wr := k2.trans (hbr.mono z2)
    by_cases hi : i < n
    rotate_left
    · have hie : i = n := by omega
      have HV : Hid (FnR r g n x n 0) := HR2.out x (fun j hj => hF.out j (by omega))
      clear HR1 HR2 hF hpos
      subst hie
      obtain ⟨bo, d, hv, hd1, hd2, hli⟩ := own_LI hown
      subst hv
      go_wp2_with fail
      go_returns
      exact ⟨⟨_, _, _, _, _, rfl, hd1, hd2, hli, HV.out⟩, hbw⟩
    have k2r : Below w2.heap.size w2 wr := hbr
    obtain ⟨mb, hcell, hmap⟩ := (hm2.step k2r).at' i (by omega) hi
    have hlt := (hm2.step k2r).lt
    have hsk : -1 ≤ M.stk x i ∧ M.stk x i ≤ 127 := by
      cases i with
      | zero => simp [M.stk]
      | succ i => have := hrange.out i (by omega); simp only [M.stk]; omega
    have HL := least_at r ao n c i g sb wb (M.stk x i) (M.sta x i) wr (hs2.step k2r) hc hcm hsk.1 hsk.2 hi h2 h3 mb 256 _ hlt hcell hmap (M.vs_bd h4)
    have hct0 : Hid (∀ K A, LB (M.vs r g n i (M.ct r g n (n - (i + 1)))) (M.fo r g i (M.stk x i) (M.sta x i)) K A false → M.ct r g n n (-1) false = 0) := fun K A h => by
      have h5 := FQ.none hi h
      rcases hpos.out with h6 | h6
      · subst h6; exact h5
      · rw [h5] at h6; exact absurd h6 (by omega)
    have htake : Hid (∀ K A, LB (M.vs r g n i (M.ct r g n (n - (i + 1)))) (M.fo r g i (M.stk x i) (M.sta x i)) K A true → FQ r g n (ex x i K) i ∧ A = (K == M.stk x i) ∧ 0 ≤ K ∧ K ≤ 127) := fun K A h => by
      obtain ⟨h5, h6⟩ := FQ.take h
      have h7 := M.ba_keys h4 h5.1
      rw [ex_same] at h7
      have h8 := h4.l0
      have h9 := h4.hm
      exact ⟨h5, h6, by omega, by omega⟩
    have e1 : ∀ K, M.stk (ex x i K) (i + 1) = K := fun K => ex_same
    have e2 : ∀ K, M.sta (ex x i K) (i + 1) = (K == M.stk x i) := fun K => by simp only [M.sta]; rw [ex_same, M.stk_ext (fun j hj => ex_less hj)]
    have e3 : ∀ K, rows (ic x) i ++ [.int .i64 K] = rows (ic (ex x i K)) (i + 1) := fun K => by
      show _ = rows (ic (ex x i K)) i ++ ic (ex x i K) i
      rw [rows_ext (x := ex x i K) (y := x) (fun j hj => ex_less hj)]; unfold ic; rw [ex_same]
    have e4 : ∀ K, FQ r g n (ex x i K) i → ∀ j, j < i + 1 → FQ r g n (ex x i K) j := fun K hK j hj => by
      rcases Nat.lt_succ_iff_lt_or_eq.1 hj with h | rfl
      · exact FQ.ext (fun m hm => (ex_less (by omega)).symm) (hF.out j h)
      · exact hK
    have e5 : ∀ K, 0 ≤ K → K ≤ 127 → ∀ j, j < i + 1 → 0 ≤ ex x i K j ∧ ex x i K j ≤ 127 := fun K hK0 hK1 j hj => by
      rcases Nat.lt_succ_iff_lt_or_eq.1 hj with h | rfl
      · rw [ex_less h]; exact hrange.out j h
      · rw [ex_same]; exact ⟨hK0, hK1⟩
    have E1 : Hid (∀ K, M.stk (ex x i K) (i + 1) = K) := e1
    have E2 : Hid (∀ K, M.sta (ex x i K) (i + 1) = (K == M.stk x i)) := e2
    have E3 : Hid (∀ K, rows (ic x) i ++ [.int .i64 K] = rows (ic (ex x i K)) (i + 1)) := e3
    have E4 : Hid (∀ K, FQ r g n (ex x i K) i → ∀ j, j < i + 1 → FQ r g n (ex x i K) j) := e4
    have E5 : Hid (∀ K, 0 ≤ K → K ≤ 127 → ∀ j, j < i + 1 → 0 ≤ ex x i K j ∧ ex x i K j ≤ 127) := e5
    have wi1 : IntKind.i64.wrap ((i : Int) + 1) = (i : Int) + 1 := wid (by omega) (by omega)
    clear e1 e2 e3 e4 e5 hF hpos hrange hcell hmap hlt
    go_wp2_with fail
    refine HL.mono ?_
    rintro e w4 ⟨⟨K, A, O, rfl, hLB⟩, hb4⟩
    have s4 := hb4.size
    have v0 := keepC hb4 sz y0
    have v1 := keepC hb4 sz y1
    have i0' := keepF hb4 sz f0
    have i1' := keepF hb4 sz f1
    have hown4 := own_step hown hb4
    have hb24 : Below w2.heap.size w2 w4 := hbr.trans (hb4.mono zr)
    have s34 : w3.heap.size < w4.heap.size := by omega
    clear y0 y1 f0 f1 hown HL
    cases O
    · have hV : Hid (FnR r g n (fun _ => 0) 0 6) := HR1.out (hct0.out K A hLB)
      clear hct0 htake HR1 HR2 E1 E2 E3 E4 E5 hLB
      go_wp2_with fail
      go_returns
      exact ⟨⟨none, 0, 0, _, _, rfl, by omega, by omega, ⟨fun h => by omega⟩, hV.out⟩, (hbw.trans (hb4.mono (by omega))).alloc (by have := hbw.size; omega) _⟩
    · obtain ⟨hFQ, hA, hK0, hK1⟩ := htake.out K A hLB
      have E4K : Hid (∀ j, j < i + 1 → FQ r g n (ex x i K) j) := E4.out K hFQ
      have EPK : Hid (0 < M.ct r g n (n - (i + 1)) (M.stk (ex x i K) (i + 1)) (M.sta (ex x i K) (i + 1))) := by
        show 0 < _
        have := hFQ.2.2.1
        rw [E1.out]; rw [ex_same] at this; exact this
      have E5K : Hid (∀ j, j < i + 1 → 0 ≤ ex x i K j ∧ ex x i K j ≤ 127) := E5.out K hK0 hK1
      have E1K : Hid (M.stk (ex x i K) (i + 1) = K) := E1.out K
      have E2K : Hid (M.sta (ex x i K) (i + 1) = A) := by show _ = _; rw [E2.out K, hA]
      have E3K : Hid (rows (ic x) i ++ [.int .i64 K] = rows (ic (ex x i K)) (i + 1)) := E3.out K
      clear hct0 htake HR1 HR2 E1 E2 E3 E4 E5 hLB hFQ hA
      go_wp2_with (at_builtin; refine wpList_append_own_at _ rfl (.tmp 40) (.tmp 43) 39 rfl w2.heap.size 3 i0 (.int .i64 0) 1 8 Try.underlying39 hi0 hz0 hz1 hz2 rfl (by decide) _ i (rows (ic x) i) rfl ((hown4.alloc _).alloc _) ⟨w4.heap.size + 1, 0, none⟩ 1 1 [.int .i64 K] rfl rfl ?c1 ?c2 ?c3 ?c4 ?c5 ?_)
      case c1 =>
        intro j u hj
        match j, hj with
        | 0, hj => simp at hj; subst hj; simp [Addr.add, go_sem]
      case c2 => intro u hu; simp at hu; subst hu; rfl
      case c3 => unfold maxLen; omega
      case c4 => omega
      case c5 => have := hb24.size; simp; omega
      intro v5 w5 hown5 hgrow _ hloc
      rw [E3K.out] at hown5
      have hlo := hown4.lt
      have hne5 : v5.ownBlock ≠ some w3.heap.size := by
        rcases hloc with h | h
        · rw [h]; exact hne
        · rw [h]; intro h2; have := Option.some.inj h2; omega
      have hneB : some w3.heap.size ≠ u8.ownBlock := fun h => hne h.symm
      have hneL : some w4.heap.size ≠ u8.ownBlock := fun h => by have := (hlo _ h.symm).2; omega
      have t0 := gcell hgrow (b := w3.heap.size) (o := 0) (v := .int .i64 (M.stk x i)) (by simp; omega) hneB (by simp [go_sem, v0, s34])
      have t1 := gcell hgrow (b := w3.heap.size) (o := 1) (v := .bool (M.sta x i)) (by simp; omega) hneB (by simp [go_sem, v1, s34])
      have t2 := gfroz hgrow (b := w3.heap.size) (o := 0) (v := false) (by simp; omega) hneB (by simp [go_sem, i0', s34])
      have t3 := gfroz hgrow (b := w3.heap.size) (o := 1) (v := false) (by simp; omega) hneB (by simp [go_sem, i1', s34])
      have l0 := gcell hgrow (b := w4.heap.size) (o := 0) (v := .int .i64 K) (by simp; omega) hneL (by simp [go_sem])
      have l1 := gcell hgrow (b := w4.heap.size) (o := 1) (v := .bool A) (by simp; omega) hneL (by simp [go_sem])
      have z5 : w4.heap.size < w5.heap.size := by have := hgrow.size; simp at this; omega
      have z5' : w3.heap.size < w5.heap.size := by omega
      have z24 := hb24.size
      have hb25 : Below w2.heap.size w2 w5 := ((hb24.alloc hb24.size _).alloc (by simp; omega) _).grown hgrow (by simp; omega) (fun k hk => (hlo k hk).1)
      clear hgrow hloc hlo v0 v1 i0' i1' hown4 hneB hneL
      obtain ⟨o0, o1, o2, o3, o4⟩ := set2 (x := .int .i64 K) (y := .bool A) t0 t1
      go_wp2_with fail
      go_roundw
      case rel => exact ⟨i + 1, ex x i K, by omega, by push_cast; rfl, (hb25.setCell (by simp; omega) _).setCell (by simp; omega) _, ownsRow_setCell_other (ownsRow_setCell_other hown5 hne5 _) hne5 _, hne5, E4K, Or.inr EPK, E5K, by rw [o4]; exact z5', by rw [E1K.out]; exact o0, by rw [E2K.out]; exact o1, (o3 _).trans t2, (o3 _).trans t3⟩
      case measure => simp [intOf]; omega
end Go.Proofs.Ytmgkbnlmdhnjnae.U
