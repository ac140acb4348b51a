/- What the document's Read comes to, at every text. -/
import Derived.Test.YtmccbokjigjpnaaDoorQD12
import Derived.Test.YtmccbokjigjpnaaDoorQD8
import Derived.Test.YtmccbokjigjpnaaDoorQR1
import Derived.Test.YtmccbokjigjpnaaDoorQT14
import Derived.LoopTactic
namespace Go.Proofs.YtmccbokjigjpnaaDoor
open Go.RowKit
set_option linter.unusedVariables false
set_option linter.unusedSimpArgs false

/-- What Read answers: letter, signs, octave; errno, place. -/
def M.rd (s : ByteArray) : Int × Int × Int × Int × Int :=
  if M.ix s < 0 then (0, 0, 0, 2, 0) else if (M.sg (M.r1 s)).2.2 ≠ 0 then (0, 0, 0, (M.sg (M.r1 s)).2.2, 1 + (M.sg (M.r1 s)).2.1) else if M.isN (M.r2 s) = false then (0, 0, 0, 2, 1 + (M.sg (M.r1 s)).2.1) else if M.wi (M.valN (M.r2 s)) 12 = false then (0, 0, 0, 3, 1 + (M.sg (M.r1 s)).2.1) else (M.ix s, (M.sg (M.r1 s)).1, M.valN (M.r2 s), 0, 0)
theorem M.rd_letter (s : ByteArray) (h : M.ix s < 0) : M.rd s = (0, 0, 0, 2, 0) := if_pos h
theorem M.rd_signs (s : ByteArray) (h : ¬ M.ix s < 0) (ga gk ge : Int) (hG : M.sg (M.r1 s) = (ga, gk, ge)) (he : ge ≠ 0) : M.rd s = (0, 0, 0, ge, 1 + gk) := by unfold M.rd; rw [if_neg h, hG, if_pos he]
theorem M.rd_number (s : ByteArray) (h : ¬ M.ix s < 0) (ga gk : Int) (hG : M.sg (M.r1 s) = (ga, gk, 0)) (hn : M.isN (M.r2 s) = false) : M.rd s = (0, 0, 0, 2, 1 + gk) := by unfold M.rd; rw [if_neg h, hG, if_neg (by simp), if_pos hn]
theorem M.rd_octave (s : ByteArray) (h : ¬ M.ix s < 0) (ga gk : Int) (hG : M.sg (M.r1 s) = (ga, gk, 0)) (hn : M.isN (M.r2 s) = true) (ho : M.wi (M.valN (M.r2 s)) 12 = false) : M.rd s = (0, 0, 0, 3, 1 + gk) := by unfold M.rd; rw [if_neg h, hG, if_neg (by simp), if_neg (by simp [hn]), if_pos ho]
theorem M.rd_yes (s : ByteArray) (h : ¬ M.ix s < 0) (ga gk : Int) (hG : M.sg (M.r1 s) = (ga, gk, 0)) (hn : M.isN (M.r2 s) = true) (ho : M.wi (M.valN (M.r2 s)) 12 = true) : M.rd s = (M.ix s, ga, M.valN (M.r2 s), 0, 0) := by unfold M.rd; rw [if_neg h, hG, if_neg (by simp), if_neg (by simp [hn]), if_neg (by simp [ho])]
def RdQ (r : Int × Int × Int × Int × Int) (w : World) (e : Ending) (w' : World) : Prop := e = .returned (.tuple #[.agg #[.int .i64 r.1, .int .i64 r.2.1, .int .i64 r.2.2.1], .agg #[.int .i64 r.2.2.2.1, .int .i64 r.2.2.2.2]]) ∧ Below w.heap.size w w'

set_option maxHeartbeats 2000000 in
theorem Read_any (s : ByteArray) (w : World) (hs : s.size ≤ 140737488355328) : Calls Tryd.prog 21 #[.string s] w fun e w' => RdQ (M.rd s) w e w' := by
  rcases Nat.eq_zero_or_pos s.size with h0 | h0
  · have hx : M.ix s < 0 := by
      by_cases h : 0 ≤ M.ix s
      · have := M.ix_pos s h; omega
      · omega
    rw [M.rd_letter s hx]; exact (Read_none s w h0).mono fun e w' h => ⟨h.1, h.2⟩
  · by_cases hx : M.ix s < 0
    · rw [M.rd_letter s hx]; exact (Read_letter s w h0 hx).mono fun e w' h => ⟨h.1, h.2⟩
    · cases hG : M.sg (M.r1 s) with
      | mk ga r =>
        obtain ⟨gk, ge⟩ := r
        by_cases he : ge = 0
        · subst he
          cases hn : M.isN (M.r2 s)
          · rw [M.rd_number s hx ga gk hG hn]; exact (Read_number s w h0 hs (by omega) ga gk hG hn).mono fun e w' h => ⟨h.1, h.2⟩
          · cases ho : M.wi (M.valN (M.r2 s)) 12
            · rw [M.rd_octave s hx ga gk hG hn ho]; exact (Read_octave s w h0 hs (by omega) ga gk hG hn ho).mono fun e w' h => ⟨h.1, h.2⟩
            · have hR := Read_yes s w h0 hs (by omega) ga gk hG hn ho
              rw [M.rd_yes s hx ga gk hG hn ho]
              generalize M.ix s = X at hR ⊢
              generalize M.valN (M.r2 s) = N at hR ⊢
              exact hR.mono fun e w' h => ⟨h.1, h.2⟩
        · rw [M.rd_signs s hx ga gk ge hG he]; exact (Read_signs s w h0 hs (by omega) ga gk ge hG he).mono fun e w' h => ⟨h.1, h.2⟩

/-- Read's own variables. -/
structure RdI (w : World) (l a : Int) (wr : World) : Prop where
  b : Below w.heap.size w wr
  r0 : wr.cell? ⟨w.heap.size, 0, none⟩ = some (.int .i64 0)
  r1 : wr.cell? ⟨w.heap.size, 1, none⟩ = some (.int .i64 0)
  r2 : wr.cell? ⟨w.heap.size, 2, none⟩ = some (.int .i64 0)
  q0 : wr.cell? ⟨w.heap.size + 1, 0, none⟩ = some (.int .i64 0)
  q1 : wr.cell? ⟨w.heap.size + 1, 1, none⟩ = some (.int .i64 0)
  f0 : wr.frozen? ⟨w.heap.size, 0, none⟩ = false
  f1 : wr.frozen? ⟨w.heap.size, 1, none⟩ = false
  f2 : wr.frozen? ⟨w.heap.size, 2, none⟩ = false
  g0 : wr.frozen? ⟨w.heap.size + 1, 0, none⟩ = false
  g1 : wr.frozen? ⟨w.heap.size + 1, 1, none⟩ = false
  p0 : wr.cell? ⟨w.heap.size + 2, 0, none⟩ = some (.int .i64 l)
  p1 : wr.cell? ⟨w.heap.size + 2, 1, none⟩ = some (.int .i64 a)
  p2 : wr.cell? ⟨w.heap.size + 2, 2, none⟩ = some (.int .i64 0)
  h0 : wr.frozen? ⟨w.heap.size + 2, 0, none⟩ = false
  h1 : wr.frozen? ⟨w.heap.size + 2, 1, none⟩ = false
  h2 : wr.frozen? ⟨w.heap.size + 2, 2, none⟩ = false
  lz : w.heap.size + 2 < wr.heap.size
theorem RdI.below {w wr W : World} {l a : Int} (h : RdI w l a wr) (hb : Below wr.heap.size wr W) : RdI w l a W := by
  have z := h.lz; have z' := hb.size
  exact ⟨h.b.trans (hb.mono (by omega)), keepC hb (by omega) h.r0, keepC hb (by omega) h.r1, keepC hb (by omega) h.r2, keepC hb (by omega) h.q0, keepC hb (by omega) h.q1, keepF hb (by omega) h.f0, keepF hb (by omega) h.f1, keepF hb (by omega) h.f2, keepF hb (by omega) h.g0, keepF hb (by omega) h.g1, keepC hb z h.p0, keepC hb z h.p1, keepC hb z h.p2, keepF hb z h.h0, keepF hb z h.h1, keepF hb z h.h2, by omega⟩
theorem RdI.put0 {w W : World} {l l' a : Int} (h : RdI w l a W) : RdI w l' a (W.setCell ⟨w.heap.size + 2, 0, none⟩ (.int .i64 l')) :=
  ⟨h.b.setCell (p := ⟨w.heap.size + 2, 0, none⟩) (by show w.heap.size ≤ w.heap.size + 2; omega) _, by simp [go_sem, h.r0], by simp [go_sem, h.r1], by simp [go_sem, h.r2], by simp [go_sem, h.q0], by simp [go_sem, h.q1], by simp [go_sem, h.f0], by simp [go_sem, h.f1], by simp [go_sem, h.f2], by simp [go_sem, h.g0], by simp [go_sem, h.g1], by simp [go_sem, h.p0], by simp [go_sem, h.p1], by simp [go_sem, h.p2], by simp [go_sem, h.h0], by simp [go_sem, h.h1], by simp [go_sem, h.h2], by simpa using h.lz⟩
theorem RdI.put1 {w W : World} {l a a' : Int} (h : RdI w l a W) : RdI w l a' (W.setCell ⟨w.heap.size + 2, 1, none⟩ (.int .i64 a')) :=
  ⟨h.b.setCell (p := ⟨w.heap.size + 2, 1, none⟩) (by show w.heap.size ≤ w.heap.size + 2; omega) _, by simp [go_sem, h.r0], by simp [go_sem, h.r1], by simp [go_sem, h.r2], by simp [go_sem, h.q0], by simp [go_sem, h.q1], by simp [go_sem, h.f0], by simp [go_sem, h.f1], by simp [go_sem, h.f2], by simp [go_sem, h.g0], by simp [go_sem, h.g1], by simp [go_sem, h.p0], by simp [go_sem, h.p1], by simp [go_sem, h.p2], by simp [go_sem, h.h0], by simp [go_sem, h.h1], by simp [go_sem, h.h2], by simpa using h.lz⟩

/-- The letter that has been found among the first k. -/
def M.lk (x : Int) (k : Nat) : Int := if 0 ≤ x ∧ x < k then x else -1
theorem M.lk_hit (x : Int) (k : Nat) (h : x = k) : M.lk x (k + 1) = k := by unfold M.lk; rw [if_pos (by omega)]; exact h
theorem M.lk_miss (x : Int) (k : Nat) (h : x ≠ k) : M.lk x (k + 1) = M.lk x k := by
  unfold M.lk
  by_cases c : 0 ≤ x ∧ x < k
  · rw [if_pos (by omega), if_pos c]
  · rw [if_neg (by omega), if_neg c]
theorem M.lk_end (x : Int) (h1 : -1 ≤ x) (h2 : x ≤ 6) : M.lk x 7 = x := by
  unfold M.lk
  by_cases c : 0 ≤ x
  · rw [if_pos (by omega)]
  · rw [if_neg (by omega)]; omega
theorem lt_size (l : Int) : (⟨(M.lt' l).toArray⟩ : ByteArray).size ≤ 1 := by
  show (M.lt' l).toArray.size ≤ 1
  rw [List.size_toArray]
  unfold M.lt'
  split; decide; split; decide; split; decide; split; decide; split; decide; split; decide; split; decide; decide
theorem rt_wi (l a n : Int) (h1 : 0 ≤ l) (h2 : l ≤ 6) (h3 : -3 ≤ a) (h4 : a ≤ 3) : M.rt l a n = M.wi n 12 := by
  unfold M.rt M.wi
  exact decide_eq_decide.2 ⟨fun h => by omega, fun h => by omega⟩

set_option maxRecDepth 100000 in
set_option maxHeartbeats 8000000 in
theorem refRead_letter (s : ByteArray) (w : World) (hs : s.size ≤ 140737488355328) (hx : M.ix s < 0) : Calls Tryd.prog 22 #[.string s] w fun e w' => RdQ (M.rd s) w e w' := by
  have HL : Hid (∀ k : Nat, k < 7 → M.sts s 0 ⟨(M.lt' k).toArray⟩ = decide (M.ix s = k)) := M.lt_sts s
  have hxb := M.ix_bd s
  have Hpos : Hid (0 ≤ M.ix s → 1 ≤ s.size) := M.ix_pos s
  have HX : Hid (M.lk (M.ix s) 0 = -1 ∧ M.lk (M.ix s) 7 = M.ix s) := ⟨by unfold M.lk; rw [if_neg (by omega)], M.lk_end _ hxb.1 hxb.2⟩
  have I0 : RdI w (M.lk (M.ix s) 0) 0 (((w.alloc (Obj.cells #[.int .i64 0, .int .i64 0, .int .i64 0] 23)).alloc (Obj.cells #[.int .i64 0, .int .i64 0] 41)).alloc (Obj.cells #[.int .i64 (-1), .int .i64 0, .int .i64 0] 23)) := by
    rw [HX.out.1]
    exact ⟨by go_grown, by simp [go_sem], by simp [go_sem], by simp [go_sem], by simp [go_sem], by simp [go_sem], by simp [go_sem], by simp [go_sem], by simp [go_sem], by simp [go_sem], by simp [go_sem], by simp [go_sem], by simp [go_sem], by simp [go_sem], by simp [go_sem], by simp [go_sem], by simp [go_sem], by simp⟩
  generalize hlx : M.ix s = lx at *
  go_enter Tryd.func22, Tryd.ntmps22
  go_wp2_with fail
  go_loopw [5] (fun i wr => ∃ k : Nat, i = .int .i64 k ∧ k ≤ 7 ∧ RdI w (M.lk lx k) 0 wr) (fun i _ => 7 - (intOf i).toNat)
  case atStart => exact ⟨0, rfl, by omega, I0⟩
  case round =>
    obtain ⟨k, rfl, hk, hI⟩ := hrel
    have lz := hI.lz
    by_cases hlt : k < 7
    · obtain ⟨LT, hLT, hLz, hLs⟩ : ∃ LT : ByteArray, (∀ X, Calls Tryd.prog 36 #[.int .i64 k] X fun e w' => e = .returned (.string LT) ∧ Below X.heap.size X w') ∧ LT.size ≤ 1 ∧ M.sts s 0 LT = decide (lx = k) := ⟨_, fun X => Letter_any k X (by omega) (by omega), lt_size k, HL.out k hlt⟩
      have hst : ∀ X, Calls Tryd.prog 47 #[.string s, .int .i64 0, .string LT] X fun e w' => e = .returned (.bool (M.sts s 0 LT)) ∧ w' = X := fun X => starts_any s LT 0 X hs (by omega) (by omega)
      rw [hLs] at hst
      by_cases c : lx = k
      · exact absurd c (by omega)
      · have hm := M.lk_miss lx k c
        rw [decide_eq_false c] at hst
        have HM : Hid (M.lk lx (k + 1) = M.lk lx k) := hm
        clear hm hLs HL
        go_wp2_with fail
        refine (hLT _).mono ?_
        rintro e w2 ⟨rfl, hb2⟩
        have hI2 := hI.below hb2
        go_wp2_with (go_at_call 47; refine (hst _).mono ?_; rintro e w' ⟨rfl, hw⟩; rw [hw])
        go_roundw
        case rel => exact ⟨k + 1, by go_num, by omega, by rw [HM.out]; exact hI2⟩
        case measure => simp [intOf]; omega
    · obtain rfl : k = 7 := by omega
      rw [HX.out.2] at hI
      have p0 := hI.p0
      have HE : Hid (M.rd s = (0, 0, 0, 2, 0)) := M.rd_letter s (by rw [hlx]; exact hx)
      have hx' : lx < 0 := by rw [← hlx]; rw [hlx]; exact hx
      have r0 := hI.r0
      have r1 := hI.r1
      have r2 := hI.r2
      have q0 := hI.q0
      have q1 := hI.q1
      have f0 := hI.f0
      have f1 := hI.f1
      have f2 := hI.f2
      have g0 := hI.g0
      have g1 := hI.g1
      have p0 := hI.p0
      have p1 := hI.p1
      have p2 := hI.p2
      have h0 := hI.h0
      have h1 := hI.h1
      have h2 := hI.h2
      have lz := hI.lz
      have lz0 := Nat.lt_of_succ_lt (Nat.lt_of_succ_lt lz)
      have lz1 := Nat.lt_of_succ_lt lz
      have lz2 := Nat.lt_of_succ_le (Nat.succ_le_of_lt lz)
      clear HL Hpos HX
      go_wp2_with fail
      refine bodyPost_ret (v := .tuple #[.agg #[.int .i64 0, .int .i64 0, .int .i64 0], .agg #[.int .i64 2, .int .i64 0]]) (by simp [results, Tryd.results22, go_sem, r0, r1, r2, q0, q1]) rfl ?_
      rw [HE.out]
      exact ⟨rfl, ((((hI.b.setCell (by simp) _).setCell (by simp) _).setCell (by simp) _).setCell (by simp) _).setCell (by simp) _⟩

set_option maxRecDepth 100000 in
set_option maxHeartbeats 8000000 in
theorem refRead_nat (s : ByteArray) (w : World) (hs : s.size ≤ 140737488355328) (hx : ¬ M.ix s < 0) (hp : Lib.hasPrefix (M.r1 s).data.toList [226, 153, 174] = true) : Calls Tryd.prog 22 #[.string s] w fun e w' => RdQ (M.rd s) w e w' := by
  have HL : Hid (∀ k : Nat, k < 7 → M.sts s 0 ⟨(M.lt' k).toArray⟩ = decide (M.ix s = k)) := M.lt_sts s
  have hxb := M.ix_bd s
  have Hpos : Hid (0 ≤ M.ix s → 1 ≤ s.size) := M.ix_pos s
  have HX : Hid (M.lk (M.ix s) 0 = -1 ∧ M.lk (M.ix s) 7 = M.ix s) := ⟨by unfold M.lk; rw [if_neg (by omega)], M.lk_end _ hxb.1 hxb.2⟩
  have I0 : RdI w (M.lk (M.ix s) 0) 0 (((w.alloc (Obj.cells #[.int .i64 0, .int .i64 0, .int .i64 0] 23)).alloc (Obj.cells #[.int .i64 0, .int .i64 0] 41)).alloc (Obj.cells #[.int .i64 (-1), .int .i64 0, .int .i64 0] 23)) := by
    rw [HX.out.1]
    exact ⟨by go_grown, by simp [go_sem], by simp [go_sem], by simp [go_sem], by simp [go_sem], by simp [go_sem], by simp [go_sem], by simp [go_sem], by simp [go_sem], by simp [go_sem], by simp [go_sem], by simp [go_sem], by simp [go_sem], by simp [go_sem], by simp [go_sem], by simp [go_sem], by simp [go_sem], by simp⟩
  generalize hlx : M.ix s = lx at *
  go_enter Tryd.func22, Tryd.ntmps22
  go_wp2_with fail
  go_loopw [5] (fun i wr => ∃ k : Nat, i = .int .i64 k ∧ k ≤ 7 ∧ RdI w (M.lk lx k) 0 wr) (fun i _ => 7 - (intOf i).toNat)
  case atStart => exact ⟨0, rfl, by omega, I0⟩
  case round =>
    obtain ⟨k, rfl, hk, hI⟩ := hrel
    have lz := hI.lz
    by_cases hlt : k < 7
    · obtain ⟨LT, hLT, hLz, hLs⟩ : ∃ LT : ByteArray, (∀ X, Calls Tryd.prog 36 #[.int .i64 k] X fun e w' => e = .returned (.string LT) ∧ Below X.heap.size X w') ∧ LT.size ≤ 1 ∧ M.sts s 0 LT = decide (lx = k) := ⟨_, fun X => Letter_any k X (by omega) (by omega), lt_size k, HL.out k hlt⟩
      have hst : ∀ X, Calls Tryd.prog 47 #[.string s, .int .i64 0, .string LT] X fun e w' => e = .returned (.bool (M.sts s 0 LT)) ∧ w' = X := fun X => starts_any s LT 0 X hs (by omega) (by omega)
      rw [hLs] at hst
      by_cases c : lx = k
      · have hm := M.lk_hit lx k c
        rw [decide_eq_true c] at hst
        have HM : Hid (M.lk lx (k + 1) = k) := hm
        clear hm hLs HL
        go_wp2_with fail
        refine (hLT _).mono ?_
        rintro e w2 ⟨rfl, hb2⟩
        have hI2 := hI.below hb2
        have p0 := hI2.p0
        have h0 := hI2.h0
        have l2 := hI2.lz
        go_wp2_with (go_at_call 47; refine (hst _).mono ?_; rintro e w' ⟨rfl, hw⟩; rw [hw])
        go_roundw
        case rel => exact ⟨k + 1, by go_num, by omega, by rw [HM.out]; exact hI2.put0⟩
        case measure => simp [intOf]; omega
      · have hm := M.lk_miss lx k c
        rw [decide_eq_false c] at hst
        have HM : Hid (M.lk lx (k + 1) = M.lk lx k) := hm
        clear hm hLs HL
        go_wp2_with fail
        refine (hLT _).mono ?_
        rintro e w2 ⟨rfl, hb2⟩
        have hI2 := hI.below hb2
        go_wp2_with (go_at_call 47; refine (hst _).mono ?_; rintro e w' ⟨rfl, hw⟩; rw [hw])
        go_roundw
        case rel => exact ⟨k + 1, by go_num, by omega, by rw [HM.out]; exact hI2⟩
        case measure => simp [intOf]; omega
    · obtain rfl : k = 7 := by omega
      rw [HX.out.2] at hI
      have p0 := hI.p0
      have hst : ∀ X, Calls Tryd.prog 47 #[.string s, .int .i64 1, .string ⟨#[226, 153, 174]⟩] X fun e w' => e = .returned (.bool (M.sts s 1 ⟨#[226, 153, 174]⟩)) ∧ w' = X := fun X => starts_any s ⟨#[226, 153, 174]⟩ 1 X hs (by decide) (by omega)
      have hs1 := Hpos.out (by omega)
      rw [M.nat_is s hs1, hp] at hst
      have hG : Hid (M.sg (M.r1 s) = (0, 3, 0)) := by show _ = _; unfold M.sg; rw [if_pos hp]
      have h4 : 4 ≤ s.size := by have := M.sg_bd (M.r1 s); rw [hG.out] at this; have := M.r1_size s; simp only at *; omega
      have hxn : ¬ lx < 0 := by omega
      have Hx : Hid (0 ≤ M.ix s) := by show 0 ≤ _; rw [hlx]; omega
      have Hlx : Hid (M.ix s = lx) := hlx
      clear HL Hpos HX hp hx hlx
      have hat : Hid (s.extract 4 s.size = M.r2 s) := by
        show _ = _
        unfold M.r2 M.at'; rw [hG.out]; (first | (congr 1; done) | (congr 1; have := hAT.out; simp only; omega))
      have hNum := fun X => Number_any (M.r2 s) X (by have := (show (M.r2 s).size ≤ s.size by unfold M.r2; rw [ByteArray.size_extract]; omega); omega)
      have k0 : (0 : Int) ≤ (4 : Nat) := by omega
      have k1 : ((4 : Nat) : Int) ≤ s.size := by omega
      have hatN := hat.out
      cases hn : M.isN (M.r2 s)
      · have HE : Hid (M.rd s = (0, 0, 0, 2, 4)) := M.rd_number s (Int.not_lt.2 Hx.out) 0 3 hG.out hn
        rw [hn] at hNum
        replace hNum : ∀ X, Calls Tryd.prog 48 #[.string (M.r2 s)] X fun e w' => e = .returned (.tuple #[.int .i64 0, .bool false]) ∧ w' = X := hNum
        clear hn hG hat
        generalize M.r2 s = R2 at *
        have r0 := hI.r0
        have r1 := hI.r1
        have r2 := hI.r2
        have q0 := hI.q0
        have q1 := hI.q1
        have f0 := hI.f0
        have f1 := hI.f1
        have f2 := hI.f2
        have g0 := hI.g0
        have g1 := hI.g1
        have p0 := hI.p0
        have p1 := hI.p1
        have p2 := hI.p2
        have h0 := hI.h0
        have h1 := hI.h1
        have h2 := hI.h2
        have lz := hI.lz
        have lz0 := Nat.lt_of_succ_lt (Nat.lt_of_succ_lt lz)
        have lz1 := Nat.lt_of_succ_lt lz
        have lz2 := Nat.lt_of_succ_le (Nat.succ_le_of_lt lz)
        go_wp2_with (first | (go_at_call 47; refine (hst _).mono ?_; rintro e w' ⟨rfl, hw⟩; rw [hw]) | (go_at_call 48; (try rw [hatN]); refine (hNum _).mono ?_; rintro e w' ⟨rfl, hw⟩; rw [hw]))
        refine bodyPost_ret (v := .tuple #[.agg #[.int .i64 0, .int .i64 0, .int .i64 0], .agg #[.int .i64 2, .int .i64 4]]) (by simp [results, Tryd.results22, go_sem, r0, r1, r2, q0, q1]) rfl ?_
        rw [HE.out]
        exact ⟨rfl, ((((hI.b.setCell (by simp) _).setCell (by simp) _).setCell (by simp) _).setCell (by simp) _).setCell (by simp) _⟩
      · cases ho : M.wi (M.valN (M.r2 s)) 12
        · have HE : Hid (M.rd s = (0, 0, 0, 3, 4)) := M.rd_octave s (Int.not_lt.2 Hx.out) 0 3 hG.out hn ho
          have hRt := fun X => refRight_any lx 0 (M.valN (M.r2 s)) X (by omega) (by omega)
          rw [rt_wi lx 0 (M.valN (M.r2 s)) (by omega) (by omega) (by omega) (by omega), ho] at hRt
          rw [hn] at hNum
          replace hNum : ∀ X, Calls Tryd.prog 48 #[.string (M.r2 s)] X fun e w' => e = .returned (.tuple #[.int .i64 (M.valN (M.r2 s)), .bool true]) ∧ w' = X := hNum
          clear hn hG ho hat
          generalize M.valN (M.r2 s) = N at *
          generalize M.r2 s = R2 at *
          have r0 := hI.r0
          have r1 := hI.r1
          have r2 := hI.r2
          have q0 := hI.q0
          have q1 := hI.q1
          have f0 := hI.f0
          have f1 := hI.f1
          have f2 := hI.f2
          have g0 := hI.g0
          have g1 := hI.g1
          have p0 := hI.p0
          have p1 := hI.p1
          have p2 := hI.p2
          have h0 := hI.h0
          have h1 := hI.h1
          have h2 := hI.h2
          have lz := hI.lz
          have lz0 := Nat.lt_of_succ_lt (Nat.lt_of_succ_lt lz)
          have lz1 := Nat.lt_of_succ_lt lz
          have lz2 := Nat.lt_of_succ_le (Nat.succ_le_of_lt lz)
          go_wp2_with (first | (go_at_call 47; refine (hst _).mono ?_; rintro e w' ⟨rfl, hw⟩; rw [hw]) | (go_at_call 48; (try rw [hatN]); refine (hNum _).mono ?_; rintro e w' ⟨rfl, hw⟩; rw [hw]))
          refine (hRt _).mono ?_
          rintro e w9 ⟨rfl, hb9⟩
          have z9 := hb9.size
          simp at z9
          have b09 : Below w.heap.size w w9 := (hI.b.setCell (p := ⟨w.heap.size + 2, 2, none⟩) (by show w.heap.size ≤ w.heap.size + 2; omega) _).trans (hb9.mono (by simp; omega))
          replace r0 : w9.cell? ⟨w.heap.size, 0, none⟩ = some (.int .i64 0) := keepC hb9 (by simp; omega) (by simp [go_sem, r0])
          replace r1 : w9.cell? ⟨w.heap.size, 1, none⟩ = some (.int .i64 0) := keepC hb9 (by simp; omega) (by simp [go_sem, r1])
          replace r2 : w9.cell? ⟨w.heap.size, 2, none⟩ = some (.int .i64 0) := keepC hb9 (by simp; omega) (by simp [go_sem, r2])
          replace q0 : w9.cell? ⟨w.heap.size + 1, 0, none⟩ = some (.int .i64 0) := keepC hb9 (by simp; omega) (by simp [go_sem, q0])
          replace q1 : w9.cell? ⟨w.heap.size + 1, 1, none⟩ = some (.int .i64 0) := keepC hb9 (by simp; omega) (by simp [go_sem, q1])
          replace f0 : w9.frozen? ⟨w.heap.size, 0, none⟩ = false := keepF hb9 (by simp; omega) (by simp [go_sem, f0])
          replace f1 : w9.frozen? ⟨w.heap.size, 1, none⟩ = false := keepF hb9 (by simp; omega) (by simp [go_sem, f1])
          replace f2 : w9.frozen? ⟨w.heap.size, 2, none⟩ = false := keepF hb9 (by simp; omega) (by simp [go_sem, f2])
          replace g0 : w9.frozen? ⟨w.heap.size + 1, 0, none⟩ = false := keepF hb9 (by simp; omega) (by simp [go_sem, g0])
          replace g1 : w9.frozen? ⟨w.heap.size + 1, 1, none⟩ = false := keepF hb9 (by simp; omega) (by simp [go_sem, g1])
          have t9 : w.heap.size + 1 < w9.heap.size := by omega
          clear hb9 p0 p1 p2 h0 h1 h2
          go_wp2_with fail
          refine bodyPost_ret (v := .tuple #[.agg #[.int .i64 0, .int .i64 0, .int .i64 0], .agg #[.int .i64 3, .int .i64 4]]) (by simp [results, Tryd.results22, go_sem, r0, r1, r2, q0, q1]) rfl ?_
          rw [HE.out]
          exact ⟨rfl, ((((b09.setCell (by simp) _).setCell (by simp) _).setCell (by simp) _).setCell (by simp) _).setCell (by simp) _⟩
        · have HE : Hid (M.rd s = (lx, 0, M.valN (M.r2 s), 0, 0)) := by have hq := M.rd_yes s (Int.not_lt.2 Hx.out) 0 3 hG.out hn ho; rw [Hlx.out] at hq; exact hq
          have hRt := fun X => refRight_any lx 0 (M.valN (M.r2 s)) X (by omega) (by omega)
          rw [rt_wi lx 0 (M.valN (M.r2 s)) (by omega) (by omega) (by omega) (by omega), ho] at hRt
          rw [hn] at hNum
          replace hNum : ∀ X, Calls Tryd.prog 48 #[.string (M.r2 s)] X fun e w' => e = .returned (.tuple #[.int .i64 (M.valN (M.r2 s)), .bool true]) ∧ w' = X := hNum
          clear hn hG ho hat
          generalize M.valN (M.r2 s) = N at *
          generalize M.r2 s = R2 at *
          have r0 := hI.r0
          have r1 := hI.r1
          have r2 := hI.r2
          have q0 := hI.q0
          have q1 := hI.q1
          have f0 := hI.f0
          have f1 := hI.f1
          have f2 := hI.f2
          have g0 := hI.g0
          have g1 := hI.g1
          have p0 := hI.p0
          have p1 := hI.p1
          have p2 := hI.p2
          have h0 := hI.h0
          have h1 := hI.h1
          have h2 := hI.h2
          have lz := hI.lz
          have lz0 := Nat.lt_of_succ_lt (Nat.lt_of_succ_lt lz)
          have lz1 := Nat.lt_of_succ_lt lz
          have lz2 := Nat.lt_of_succ_le (Nat.succ_le_of_lt lz)
          go_wp2_with (first | (go_at_call 47; refine (hst _).mono ?_; rintro e w' ⟨rfl, hw⟩; rw [hw]) | (go_at_call 48; (try rw [hatN]); refine (hNum _).mono ?_; rintro e w' ⟨rfl, hw⟩; rw [hw]))
          refine (hRt _).mono ?_
          rintro e w9 ⟨rfl, hb9⟩
          have z9 := hb9.size
          simp at z9
          have b09 : Below w.heap.size w w9 := (hI.b.setCell (p := ⟨w.heap.size + 2, 2, none⟩) (by show w.heap.size ≤ w.heap.size + 2; omega) _).trans (hb9.mono (by simp; omega))
          replace r0 : w9.cell? ⟨w.heap.size, 0, none⟩ = some (.int .i64 0) := keepC hb9 (by simp; omega) (by simp [go_sem, r0])
          replace r1 : w9.cell? ⟨w.heap.size, 1, none⟩ = some (.int .i64 0) := keepC hb9 (by simp; omega) (by simp [go_sem, r1])
          replace r2 : w9.cell? ⟨w.heap.size, 2, none⟩ = some (.int .i64 0) := keepC hb9 (by simp; omega) (by simp [go_sem, r2])
          replace q0 : w9.cell? ⟨w.heap.size + 1, 0, none⟩ = some (.int .i64 0) := keepC hb9 (by simp; omega) (by simp [go_sem, q0])
          replace q1 : w9.cell? ⟨w.heap.size + 1, 1, none⟩ = some (.int .i64 0) := keepC hb9 (by simp; omega) (by simp [go_sem, q1])
          replace f0 : w9.frozen? ⟨w.heap.size, 0, none⟩ = false := keepF hb9 (by simp; omega) (by simp [go_sem, f0])
          replace f1 : w9.frozen? ⟨w.heap.size, 1, none⟩ = false := keepF hb9 (by simp; omega) (by simp [go_sem, f1])
          replace f2 : w9.frozen? ⟨w.heap.size, 2, none⟩ = false := keepF hb9 (by simp; omega) (by simp [go_sem, f2])
          replace g0 : w9.frozen? ⟨w.heap.size + 1, 0, none⟩ = false := keepF hb9 (by simp; omega) (by simp [go_sem, g0])
          replace g1 : w9.frozen? ⟨w.heap.size + 1, 1, none⟩ = false := keepF hb9 (by simp; omega) (by simp [go_sem, g1])
          replace p0 : w9.cell? ⟨w.heap.size + 2, 0, none⟩ = some (.int .i64 lx) := keepC hb9 (by simp; omega) (by simp [go_sem, p0])
          replace p1 : w9.cell? ⟨w.heap.size + 2, 1, none⟩ = some (.int .i64 0) := keepC hb9 (by simp; omega) (by simp [go_sem, p1])
          replace p2 : w9.cell? ⟨w.heap.size + 2, 2, none⟩ = some (.int .i64 N) := keepC hb9 (by simp; omega) (by simp [go_sem, p2])
          have t9 : w.heap.size + 1 < w9.heap.size := by omega
          have t8 : w.heap.size + 2 < w9.heap.size := by omega
          clear hb9 h0 h1 h2
          go_wp2_with fail
          refine bodyPost_ret (v := .tuple #[.agg #[.int .i64 lx, .int .i64 0, .int .i64 N], .agg #[.int .i64 0, .int .i64 0]]) (by simp [results, Tryd.results22, go_sem, r0, r1, r2, q0, q1]) rfl ?_
          rw [HE.out]
          exact ⟨rfl, ((((b09.setCell (by simp) _).setCell (by simp) _).setCell (by simp) _).setCell (by simp) _).setCell (by simp) _⟩
end Go.Proofs.YtmccbokjigjpnaaDoor
