/- What the program's isChord comes to. -/
import Derived.Test.YtgcnmmjgdpdmbacDoorC2
import Derived.Test.YtgcnmmjgdpdmbacDoorS1
import Derived.Laws.StructEq
import Derived.Laws.Cover2
import Derived.KernelRfl
namespace Go.Proofs.YtgcnmmjgdpdmbacDoor
open Go.RowKit
attribute [local go_sem ↓] Go.wp_at_zero Go.wp_at_succ
set_option linter.unusedSimpArgs false

/-- Two classes' sets are the same. -/
def M.ceq (h : Nat → Bool) (t : Nat → Int) (h' : Nat → Bool) (t' : Nat → Int) : Bool := (((h 0 == h' 0) && (h 1 == h' 1) && (h 2 == h' 2) && (h 3 == h' 3) && (h 4 == h' 4) && (h 5 == h' 5) && (h 6 == h' 6)) && ((t 0 == t' 0) && (t 1 == t' 1) && (t 2 == t' 2) && (t 3 == t' 3) && (t 4 == t' 4) && (t 5 == t' 5) && (t 6 == t' 6)))
theorem M.ceq_iff {h h' : Nat → Bool} {t t' : Nat → Int} : M.ceq h t h' t' = true ↔ ∀ y, y < 7 → h y = h' y ∧ t y = t' y := by
  unfold M.ceq
  simp only [Bool.and_eq_true, beq_iff_eq]
  constructor
  · rintro ⟨⟨⟨⟨⟨⟨⟨a0, a1⟩, a2⟩, a3⟩, a4⟩, a5⟩, a6⟩, ⟨⟨⟨⟨⟨⟨b0, b1⟩, b2⟩, b3⟩, b4⟩, b5⟩, b6⟩⟩ y hy
    rcases (show y = 0 ∨ y = 1 ∨ y = 2 ∨ y = 3 ∨ y = 4 ∨ y = 5 ∨ y = 6 by omega) with rfl | rfl | rfl | rfl | rfl | rfl | rfl
    all_goals first | exact ⟨a0, b0⟩ | exact ⟨a1, b1⟩ | exact ⟨a2, b2⟩ | exact ⟨a3, b3⟩ | exact ⟨a4, b4⟩ | exact ⟨a5, b5⟩ | exact ⟨a6, b6⟩
  · intro H
    exact ⟨⟨⟨⟨⟨⟨⟨(H 0 (by omega)).1, (H 1 (by omega)).1⟩, (H 2 (by omega)).1⟩, (H 3 (by omega)).1⟩, (H 4 (by omega)).1⟩, (H 5 (by omega)).1⟩, (H 6 (by omega)).1⟩, ⟨⟨⟨⟨⟨⟨(H 0 (by omega)).2, (H 1 (by omega)).2⟩, (H 2 (by omega)).2⟩, (H 3 (by omega)).2⟩, (H 4 (by omega)).2⟩, (H 5 (by omega)).2⟩, (H 6 (by omega)).2⟩⟩
/-- The classes of a chord. -/
def M.ch (r a k : Int) : Nat → Bool := M.gh (M.nl r a 0 k) (M.cnt k + 1)
def M.ca (r a k : Int) : Nat → Int := M.ga (M.nl r a 0 k) (M.na r a 0 k) (M.cnt k + 1)
def M.isC (h : Nat → Bool) (t : Nat → Int) (r a k : Int) : Bool := M.nk r a 0 k && M.ceq (M.ch r a k) (M.ca r a k) h t

/-- A chord's letters are thirds, one above the other. -/
theorem M.nl_at {l a o k : Int} (hr : M.rt l a o = true) (hn : M.nk l a o k = true) {j : Nat} (hj : j ≤ M.cnt k) : M.nl l a o k j = (l + 2 * (j : Int)) % 7 := by
  have h7 := M.rt_yes hr
  cases j with
  | zero => rw [(M.n_zero hr).1]; simp; omega
  | succ j =>
    have hm := M.nko_yes hn j (by omega)
    unfold M.nl
    rw [show (2 * ((j + 1 : Nat) : Int)) = 2 * ((j : Int) + 1) by omega, M.ml_yes hm, M.pl_yes (M.mk_yes hm).2.2]
    unfold M.st; omega
theorem M.gh_no {L : Nat → Int} {k y : Nat} (h : ∀ j, j < k → L j ≠ y) : M.gh L k y = false := by
  induction k with
  | zero => rfl
  | succ k ih => simp only [M.gh]; rw [if_neg (fun e => h k (by omega) e.symm)]; exact ih fun j hj => h j (by omega)
theorem M.gk_far {L A : Nat → Int} {n : Nat} (h0 : ∀ j, j < n → 0 ≤ L j) (h : ∀ i j, i < j → j < n → L i ≠ L j) : M.gk L A n = true := by
  induction n with
  | zero => rfl
  | succ n ih =>
    simp only [M.gk]
    rw [ih (fun j hj => h0 j (by omega)) (fun i j hij hj => h i j hij (by omega)), M.gh_no (fun j hj => by have := h j n hj (by omega); have := h0 n (by omega); omega)]
    rfl
theorem M.gk_notes {l a o k : Int} (hr : M.rt l a o = true) (hn : M.nk l a o k = true) : M.gk (M.nl l a o k) (M.na l a o k) (M.cnt k + 1) = true := by
  have hc := M.cnt_bd k
  refine M.gk_far (fun j hj => ?_) (fun i j hij hj => ?_)
  · have := M.rt_yes (M.n_rt hr hn (show j ≤ M.cnt k by omega)); omega
  · rw [M.nl_at hr hn (show i ≤ M.cnt k by omega), M.nl_at hr hn (show j ≤ M.cnt k by omega)]
    omega

set_option maxHeartbeats 4000000 in
theorem eqB (a b : Nat → Bool) (w : World) : (Op.equalIn 9999 61 (.agg #[.bool (a 0), .bool (a 1), .bool (a 2), .bool (a 3), .bool (a 4), .bool (a 5), .bool (a 6)]) (.agg #[.bool (b 0), .bool (b 1), .bool (b 2), .bool (b 3), .bool (b 4), .bool (b 5), .bool (b 6)])).run Tryd.prog w = .ok ((a 0 == b 0) && (a 1 == b 1) && (a 2 == b 2) && (a 3 == b 3) && (a 4 == b 4) && (a 5 == b 5) && (a 6 == b 6)) w := by
  have u3 := Tryd.underlying4
  have a3 := Tryd.isAgg4
  have z3 := Tryd.sizeOf4
  rw [show (9999 : Nat) = 9998 + 1 from rfl, Op.equalIn]
  simp only [Sem.run_bind, run_underlying Tryd.underlying61, Result.andThen_ok]
  simp only [Std.Legacy.Range.forIn_eq_forIn_range', Std.Legacy.Range.size, Nat.sub_zero, Nat.add_sub_cancel, Nat.div_one, List.range'_succ, List.range'_zero, List.forIn_cons, List.forIn_nil]
  go_simp
  refine (Decidable.em (a 0 = b 0)).elim (fun h0 => ?_) (fun h0 => by simp [h0])
  refine (Decidable.em (a 1 = b 1)).elim (fun h1 => ?_) (fun h1 => by simp [h1, h0])
  refine (Decidable.em (a 2 = b 2)).elim (fun h2 => ?_) (fun h2 => by simp [h2, h0, h1])
  refine (Decidable.em (a 3 = b 3)).elim (fun h3 => ?_) (fun h3 => by simp [h3, h0, h1, h2])
  refine (Decidable.em (a 4 = b 4)).elim (fun h4 => ?_) (fun h4 => by simp [h4, h0, h1, h2, h3])
  refine (Decidable.em (a 5 = b 5)).elim (fun h5 => ?_) (fun h5 => by simp [h5, h0, h1, h2, h3, h4])
  refine (Decidable.em (a 6 = b 6)).elim (fun h6 => ?_) (fun h6 => by simp [h6, h0, h1, h2, h3, h4, h5])
  simp [h0, h1, h2, h3, h4, h5, h6]
set_option maxHeartbeats 4000000 in
theorem eqI (a b : Nat → Int) (w : World) : (Op.equalIn 9999 62 (.agg #[.int .i64 (a 0), .int .i64 (a 1), .int .i64 (a 2), .int .i64 (a 3), .int .i64 (a 4), .int .i64 (a 5), .int .i64 (a 6)]) (.agg #[.int .i64 (b 0), .int .i64 (b 1), .int .i64 (b 2), .int .i64 (b 3), .int .i64 (b 4), .int .i64 (b 5), .int .i64 (b 6)])).run Tryd.prog w = .ok ((a 0 == b 0) && (a 1 == b 1) && (a 2 == b 2) && (a 3 == b 3) && (a 4 == b 4) && (a 5 == b 5) && (a 6 == b 6)) w := by
  have u3 := Tryd.underlying3
  have a3 := Tryd.isAgg3
  have z3 := Tryd.sizeOf3
  rw [show (9999 : Nat) = 9998 + 1 from rfl, Op.equalIn]
  simp only [Sem.run_bind, run_underlying Tryd.underlying62, Result.andThen_ok]
  simp only [Std.Legacy.Range.forIn_eq_forIn_range', Std.Legacy.Range.size, Nat.sub_zero, Nat.add_sub_cancel, Nat.div_one, List.range'_succ, List.range'_zero, List.forIn_cons, List.forIn_nil]
  go_simp
  refine (Decidable.em (a 0 = b 0)).elim (fun h0 => ?_) (fun h0 => by simp [h0])
  refine (Decidable.em (a 1 = b 1)).elim (fun h1 => ?_) (fun h1 => by simp [h1, h0])
  refine (Decidable.em (a 2 = b 2)).elim (fun h2 => ?_) (fun h2 => by simp [h2, h0, h1])
  refine (Decidable.em (a 3 = b 3)).elim (fun h3 => ?_) (fun h3 => by simp [h3, h0, h1, h2])
  refine (Decidable.em (a 4 = b 4)).elim (fun h4 => ?_) (fun h4 => by simp [h4, h0, h1, h2, h3])
  refine (Decidable.em (a 5 = b 5)).elim (fun h5 => ?_) (fun h5 => by simp [h5, h0, h1, h2, h3, h4])
  refine (Decidable.em (a 6 = b 6)).elim (fun h6 => ?_) (fun h6 => by simp [h6, h0, h1, h2, h3, h4, h5])
  simp [h0, h1, h2, h3, h4, h5, h6]

set_option maxRecDepth 20000 in
set_option maxHeartbeats 4000000 in
theorem isChord_any (h : Nat → Bool) (t : Nat → Int) (r k : Nat) (a : Int) (w : World) (ht : Tab w) (hO : Over w) (hr : M.rt r a 0 = true) (hk : M.kok k = true) :
    Calls Tryd.prog 24 #[clsV h t, .agg #[.int .i64 r, .int .i64 a], .int .i64 k] w fun e w' => e = .returned (.bool (M.isC h t r a k)) ∧ Below w.heap.size w w' := by
  unfold M.isC
  have hc := M.cnt_bd k
  go_enter Tryd.func24, Tryd.ntmps24
  unfold clsV
  go_wp2_with fail
  refine (inOctave_any r a 0 _).mono ?_
  rintro e w1 ⟨rfl, hb1⟩
  have z1 := hb1.size
  simp at z1
  have h01 : Below w.heap.size w w1 := Below.trans (by go_grown) (hb1.mono (by simp; omega))
  have xc0 : w1.cell? ⟨w.heap.size, 0, none⟩ = some (.bool (h 0)) := keepC hb1 (by simp; omega) (by simp [go_sem])
  have xc1 : w1.cell? ⟨w.heap.size, 1, none⟩ = some (.bool (h 1)) := keepC hb1 (by simp; omega) (by simp [go_sem])
  have xc2 : w1.cell? ⟨w.heap.size, 2, none⟩ = some (.bool (h 2)) := keepC hb1 (by simp; omega) (by simp [go_sem])
  have xc3 : w1.cell? ⟨w.heap.size, 3, none⟩ = some (.bool (h 3)) := keepC hb1 (by simp; omega) (by simp [go_sem])
  have xc4 : w1.cell? ⟨w.heap.size, 4, none⟩ = some (.bool (h 4)) := keepC hb1 (by simp; omega) (by simp [go_sem])
  have xc5 : w1.cell? ⟨w.heap.size, 5, none⟩ = some (.bool (h 5)) := keepC hb1 (by simp; omega) (by simp [go_sem])
  have xc6 : w1.cell? ⟨w.heap.size, 6, none⟩ = some (.bool (h 6)) := keepC hb1 (by simp; omega) (by simp [go_sem])
  have xd0 : w1.cell? ⟨w.heap.size, 7, none⟩ = some (.int .i64 (t 0)) := keepC hb1 (by simp; omega) (by simp [go_sem])
  have xd1 : w1.cell? ⟨w.heap.size, 8, none⟩ = some (.int .i64 (t 1)) := keepC hb1 (by simp; omega) (by simp [go_sem])
  have xd2 : w1.cell? ⟨w.heap.size, 9, none⟩ = some (.int .i64 (t 2)) := keepC hb1 (by simp; omega) (by simp [go_sem])
  have xd3 : w1.cell? ⟨w.heap.size, 10, none⟩ = some (.int .i64 (t 3)) := keepC hb1 (by simp; omega) (by simp [go_sem])
  have xd4 : w1.cell? ⟨w.heap.size, 11, none⟩ = some (.int .i64 (t 4)) := keepC hb1 (by simp; omega) (by simp [go_sem])
  have xd5 : w1.cell? ⟨w.heap.size, 12, none⟩ = some (.int .i64 (t 5)) := keepC hb1 (by simp; omega) (by simp [go_sem])
  have xd6 : w1.cell? ⟨w.heap.size, 13, none⟩ = some (.int .i64 (t 6)) := keepC hb1 (by simp; omega) (by simp [go_sem])
  have s0 : w.heap.size < w1.heap.size := by omega
  go_wp2_with fail
  refine (Notes_in r a 0 k _ (ht.step h01) (hO.step h01) hk hr).mono ?_
  rintro e w2 ⟨hb2, ⟨hn, rfl⟩ | ⟨hn, b, cap, hbb, hcap, hcm, rfl, hbl, hcells⟩⟩
  · have h02 := h01.trans (hb2.mono h01.size)
    go_wp2_with fail
    go_ret
    exact ⟨by rw [hn]; rfl, h02⟩
  · have ek : (M.nk r a 0 k && M.ceq (M.ch r a k) (M.ca r a k) h t) = M.ceq (M.ch r a k) (M.ca r a k) h t := by rw [hn]; rfl
    have z2 := hb2.size
    have h02 := h01.trans (hb2.mono h01.size)
    have hpl : PL w2 (some ⟨b, 0, none⟩) (M.cnt k + 1) (M.nl r a 0 k) (M.na r a 0 k) (M.no r a 0 k) := ⟨fun _ => ⟨b, 0, rfl, hbl, fun j hj => by rw [Nat.zero_add]; exact hcells j 0 (by omega) (by omega), fun j hj => by rw [Nat.zero_add]; exact hcells j 1 (by omega) (by omega), fun j hj => by rw [Nat.zero_add]; exact hcells j 2 (by omega) (by omega)⟩⟩
    have hLb : ∀ j, j < M.cnt k + 1 → 0 ≤ M.nl r a 0 k j ∧ M.nl r a 0 k j ≤ 6 := fun j hj => by have := M.rt_yes (M.n_rt hr hn (show j ≤ M.cnt k by omega)); omega
    have hgk := M.gk_notes hr hn
    have hG := gather_any (some ⟨b, 0, none⟩) (M.cnt k + 1) cap _ _ _ w2 hpl hLb (by omega)
    replace xc0 := keepC hb2 (by omega) xc0
    replace xc1 := keepC hb2 (by omega) xc1
    replace xc2 := keepC hb2 (by omega) xc2
    replace xc3 := keepC hb2 (by omega) xc3
    replace xc4 := keepC hb2 (by omega) xc4
    replace xc5 := keepC hb2 (by omega) xc5
    replace xc6 := keepC hb2 (by omega) xc6
    replace xd0 := keepC hb2 (by omega) xd0
    replace xd1 := keepC hb2 (by omega) xd1
    replace xd2 := keepC hb2 (by omega) xd2
    replace xd3 := keepC hb2 (by omega) xd3
    replace xd4 := keepC hb2 (by omega) xd4
    replace xd5 := keepC hb2 (by omega) xd5
    replace xd6 := keepC hb2 (by omega) xd6
    have s2 : w.heap.size < w2.heap.size := by omega
    clear hcells hLb
    go_wp2_with fail
    refine hG.mono ?_
    rintro e w3 ⟨hb3, hyes, _⟩
    obtain rfl := hyes hgk
    have z3 := hb3.size
    have h03 := h02.trans (hb3.mono h02.size)
    replace xc0 := keepC hb3 (by omega) xc0
    replace xd0 := keepC hb3 (by omega) xd0
    replace xc1 := keepC hb3 (by omega) xc1
    replace xd1 := keepC hb3 (by omega) xd1
    replace xc2 := keepC hb3 (by omega) xc2
    replace xd2 := keepC hb3 (by omega) xd2
    replace xc3 := keepC hb3 (by omega) xc3
    replace xd3 := keepC hb3 (by omega) xd3
    replace xc4 := keepC hb3 (by omega) xc4
    replace xd4 := keepC hb3 (by omega) xd4
    replace xc5 := keepC hb3 (by omega) xc5
    replace xd5 := keepC hb3 (by omega) xd5
    replace xc6 := keepC hb3 (by omega) xc6
    replace xd6 := keepC hb3 (by omega) xd6
    have s3 : w.heap.size < w3.heap.size := by omega
    obtain ⟨h', eh⟩ : ∃ h', M.gh (M.nl r a 0 k) (M.cnt k + 1) = h' := ⟨_, rfl⟩
    obtain ⟨t', et⟩ : ∃ t', M.ga (M.nl r a 0 k) (M.na r a 0 k) (M.cnt k + 1) = t' := ⟨_, rfl⟩
    have HE : Hid ((M.nk r a 0 k && M.ceq (M.ch r a k) (M.ca r a k) h t) = M.ceq h' t' h t) := by rw [← eh, ← et]; exact ek
    rw [eh, et]
    clear ek hyes hG hgk hpl eh et
    have e1 := fun w => eqB h' h w
    have e2 := fun w => eqI t' t w
    unfold clsV
    go_wp2_with fail
    all_goals
      go_ret
      refine ⟨ret_bool ?_, h03.alloc h03.size _⟩
      rw [HE.out]
      unfold M.ceq
      simp_all

end Go.Proofs.YtgcnmmjgdpdmbacDoor
