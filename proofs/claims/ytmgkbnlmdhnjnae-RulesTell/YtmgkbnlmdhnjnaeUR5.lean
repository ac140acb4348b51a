/- The document's Ways: what is kept; how it begins. -/
import Derived.Test.YtmgkbnlmdhnjnaeUR4
import Derived.Deep.DeepCutAuto
namespace Go.Proofs.Ytmgkbnlmdhnjnae.U
open Go.RowKit Go.Maps Go.Sort
set_option linter.unusedVariables false
set_option linter.unusedSimpArgs false

/-- What Ways keeps: its own copy of the rules, and all that was there. -/
structure WK (w wr : World) (r : M.Ru) : Prop where
  bel : Below w.heap.size w wr
  rs : w.heap.size < wr.heap.size
  r0 : wr.cell? ⟨w.heap.size, 0, none⟩ = some (.int .i64 r.low)
  r1 : wr.cell? ⟨w.heap.size, 1, none⟩ = some (.int .i64 r.high)
  r2 : wr.cell? ⟨w.heap.size, 2, none⟩ = some (.bool r.above)
  r3 : wr.cell? ⟨w.heap.size, 3, none⟩ = some (.int .i64 r.leap)
  r4 : wr.cell? ⟨w.heap.size, 4, none⟩ = some (.int .i64 r.classes)
theorem WK.step {w wr wx : World} {r : M.Ru} (h : WK w wr r) (hb : Below wr.heap.size wr wx) : WK w wx r :=
  ⟨h.bel.trans (hb.mono (Nat.le_of_lt h.rs)), Nat.lt_of_lt_of_le h.rs hb.size, keepC hb h.rs h.r0, keepC hb h.rs h.r1, keepC hb h.rs h.r2, keepC hb h.rs h.r3, keepC hb h.rs h.r4⟩
theorem WK.set {w wr : World} {r : M.Ru} (h : WK w wr r) {b o : Nat} {v : Value} (hb : w.heap.size < b) : WK w (wr.setCell ⟨b, o, none⟩ v) r := by
  have k : ∀ {j : Nat} {u : Value}, wr.cell? ⟨w.heap.size, j, none⟩ = some u → (wr.setCell ⟨b, o, none⟩ v).cell? ⟨w.heap.size, j, none⟩ = some u := fun h => (World.cell?_setCell_other _ _ _ _ (by intro e; cases e; omega)).trans h
  exact ⟨h.bel.setCell (by simp; omega) _, by simpa using h.rs, k h.r0, k h.r1, k h.r2, k h.r3, k h.r4⟩

/-- How Ways begins: the first place that is left, and the matrix there. -/
structure WS (r : M.Ru) (g : Nat → Int) (n l : Nat) (x : Nat → Int) (p0 : Nat) (F : Nat → Int) : Prop where
  p1 : 1 ≤ p0
  pn : p0 ≤ n
  fz : ∀ j, 0 ≤ F j
  f1 : ∀ j, F j ≤ 1
  odd : p0 = 1 → ∀ k, F (2 * k + 1) = 0
  res : min (M.sm (fun j => M.fs r g n p0 F (n - p0) j) 256) M.top = M.ct r g n (n - l) (M.stk x l) (M.sta x l)
theorem WS.first (r : M.Ru) (g : Nat → Int) (n : Nat) (x : Nat → Int) (hn : 1 ≤ n) : WS r g n 0 x 1 (M.f0 r g n) := by
  refine ⟨by omega, hn, fun j => by unfold M.f0; split <;> simp, fun j => by unfold M.f0; split <;> simp, fun _ k => ?_, ?_⟩
  · unfold M.f0
    rw [if_neg]
    rw [(M.code_k k 1 (by omega)).2]
    simp
  · rw [M.fs_end r g n 1 _ (fun j => by unfold M.f0; split <;> simp) hn, Nat.sub_zero]
    exact (M.ct_first r g n hn).symm
theorem WS.behind (r : M.Ru) (g : Nat → Int) (n l k : Nat) (x : Nat → Int) (a : Nat) (hl : 1 ≤ l) (hn : l < n) (hk : k < 128) (ha : a < 2) (hx : x (l - 1) = k) (hx0 : ∀ j, j < l → 0 ≤ x j) (hxa : a = 1 ↔ (1 < l ∧ x (l - 1) = x (l - 2))) : WS r g n l x l (M.fu (2 * k + a)) := by
  have hc := M.code_k k a ha
  refine ⟨hl, by omega, fun j => by unfold M.fu; split <;> simp, fun j => by unfold M.fu; split <;> simp, fun h1 k' => ?_, ?_⟩
  · unfold M.fu
    rw [if_neg]
    intro e
    have : a = 1 := by omega
    have := (hxa.1 this).1
    omega
  · rw [M.fs_end r g n l _ (fun j => by unfold M.fu; split <;> simp) (by omega), M.fu_sum r g n (n - l) _ (by omega), ← M.ct_tt, hc.1, hc.2]
    obtain ⟨l', rfl⟩ : ∃ l', l = l' + 1 := ⟨l - 1, by omega⟩
    have e1 : M.stk x (l' + 1) = k := hx
    have e2 : M.sta x (l' + 1) = (a == 1) := by
      simp only [M.sta]
      cases l' with
      | zero =>
        have h0 := hx0 0 (by omega)
        have ha0 : ¬ a = 1 := fun h => by have := (hxa.1 h).1; omega
        have h1 : (x 0 == M.stk x 0) = false := by simp [M.stk]; omega
        rw [h1]; simp [ha0]
      | succ m =>
        show (x (m + 1) == x m) = (a == 1)
        by_cases e : x (m + 1) = x m
        · have : a = 1 := hxa.2 ⟨by omega, e⟩
          have h1 : (x (m + 1) == x m) = true := by rw [e]; exact beq_self_eq_true _
          rw [h1, this]; rfl
        · have h2 : ¬ a = 1 := fun h => e (hxa.1 h).2
          have h1 : (x (m + 1) == x m) = false := beq_eq_false_iff_ne.2 e
          have h3 : (a == 1) = false := beq_eq_false_iff_ne.2 h2
          rw [h1, h3]
    rw [e1, e2]

theorem fs_zero {r : M.Ru} {g : Nat → Int} {n l : Nat} {x : Nat → Int} {p0 : Nat} {F : Nat → Int} (h : WS r g n l x p0 F) (j : Nat) : M.fs r g n p0 F 0 j = F j := by
  have h1 := h.fz j
  have h2 := h.f1 j
  show min (F j) M.top = F j
  unfold M.top; omega
/-- The first keys so far: those below k. -/
def M.f0k (r : M.Ru) (g : Nat → Int) (n : Nat) (k : Int) (j : Nat) : Int := if M.ck j < k then M.f0 r g n j else 0
theorem M.f0_put {r : M.Ru} {g : Nat → Int} {n : Nat} (k : Nat) (hb : M.ba r g n 0 (k : Int) = 0) : (fun j => if j = 2 * k + 0 then (1 : Int) else M.f0k r g n (k : Int) j) = M.f0k r g n ((k : Int) + 1) := by
  funext j
  have hc := M.code_k k 0 (by omega)
  unfold M.f0k
  by_cases e : j = 2 * k + 0
  · rw [if_pos e, e, hc.1, if_pos (by omega)]
    unfold M.f0
    rw [hc.1, hc.2, if_pos ⟨rfl, hb⟩]
  · rw [if_neg e]
    by_cases e1 : M.ck j < (k : Int)
    · rw [if_pos e1, if_pos (by omega)]
    · rw [if_neg e1]
      by_cases e2 : M.ck j < (k : Int) + 1
      · have e3 : M.ca j = true := by
          unfold M.ck at e1 e2
          unfold M.ca
          have : j % 2 = 1 := by omega
          rw [this]; rfl
        rw [if_pos e2]
        unfold M.f0
        rw [if_neg (fun x => by rw [e3] at x; cases x.1)]
      · rw [if_neg e2]
theorem M.f0_skip {r : M.Ru} {g : Nat → Int} {n : Nat} (k : Nat) (hb : M.ba r g n 0 (k : Int) ≠ 0) : M.f0k r g n (k : Int) = M.f0k r g n ((k : Int) + 1) := by
  funext j
  unfold M.f0k
  by_cases e1 : M.ck j < (k : Int)
  · rw [if_pos e1, if_pos (by omega)]
  · rw [if_neg e1]
    by_cases e2 : M.ck j < (k : Int) + 1
    · have e3 : M.ck j = k := by omega
      rw [if_pos e2]
      unfold M.f0
      rw [if_neg (fun x => hb (by rw [← e3]; exact x.2))]
    · rw [if_neg e2]
theorem M.f0_none {r : M.Ru} {g : Nat → Int} {n : Nat} (j : Nat) : M.f0k r g n 0 j = 0 := by
  unfold M.f0k; rw [if_neg (by unfold M.ck; omega)]
theorem M.f0_all {r : M.Ru} {g : Nat → Int} {n : Nat} (j : Nat) (hj : j < 256) : M.f0k r g n 128 j = M.f0 r g n j := by
  unfold M.f0k; rw [if_pos (by unfold M.ck; omega)]
theorem bq_first {r : M.Ru} {g : Nat → Int} {n : Nat} {k pk : Int} {pa : Bool} : M.bq r g n 0 k pk pa = M.ba r g n 0 k := by
  by_cases e : M.ba r g n 0 k = 0
  · rw [M.bq_bb e, M.bb_first rfl, e]
  · rw [M.bq_ba e]
end Go.Proofs.Ytmgkbnlmdhnjnae.U
