/- Ways counted from the beginning on are the ways counted from the end: the plain part. -/
import Derived.Test.YtmgkbnlmdhnjnaeUMath7
import Derived.Test.YtmgkbnlmdhnjnaeUR3
namespace Go.Proofs.Ytmgkbnlmdhnjnae.U.M
set_option linter.unusedVariables false

/-- May one go from state i to state j at place p? -/
def tr (r : Ru) (g : Nat → Int) (n p i j : Nat) : Int := if fo r g p (ck i) (ca i) (ck j) (ca j) = true ∧ ba r g n p (ck j) = 0 then 1 else 0
theorem tr_01 (r : Ru) (g : Nat → Int) (n p i j : Nat) : tr r g n p i j = 0 ∨ tr r g n p i j = 1 := by unfold tr; split <;> simp
/-- All ways to the end, d keys being left. -/
def tt (r : Ru) (g : Nat → Int) (n : Nat) : Nat → Nat → Int
  | 0 => fun _ => 1
  | d + 1 => fun i => sm (fun j => tr r g n (n - (d + 1)) i j * tt r g n d j) 256
theorem tt_pos (r : Ru) (g : Nat → Int) (n d i : Nat) : 0 ≤ tt r g n d i := by
  induction d generalizing i with
  | zero => simp [tt]
  | succ d ih =>
    simp only [tt]
    exact sm_pos (fun j hj => by rcases tr_01 r g n (n - (d + 1)) i j with h | h <;> rw [h] <;> have := ih j <;> omega)
/-- Sums that stop at T. -/
theorem sm_sat {b t : Nat → Int} {N : Nat} {T : Int} (hT : 0 ≤ T) (hb : ∀ j, j < N → b j = 0 ∨ b j = 1) (ht : ∀ j, j < N → 0 ≤ t j) :
    min (sm (fun j => b j * min (t j) T) N) T = min (sm (fun j => b j * t j) N) T ∧ 0 ≤ sm (fun j => b j * min (t j) T) N ∧ 0 ≤ sm (fun j => b j * t j) N := by
  induction N with
  | zero => exact ⟨rfl, Int.le_refl _, Int.le_refl _⟩
  | succ N ih =>
    simp only [sm]
    obtain ⟨h1, h2, h3⟩ := ih (fun j hj => hb j (by omega)) (fun j hj => ht j (by omega))
    have h4 := ht N (by omega)
    rcases hb N (by omega) with h | h <;> rw [h] <;> omega
theorem sm_sat' {b t : Nat → Int} {N : Nat} {T : Int} (hT : 0 ≤ T) (hb : ∀ j, j < N → b j = 0 ∨ b j = 1) (ht : ∀ j, j < N → 0 ≤ t j) :
    min (sm (fun j => min (t j) T * b j) N) T = min (sm (fun j => t j * b j) N) T := by
  have := (sm_sat (b := b) (t := t) hT hb ht).1
  rw [sm_congr (f := fun j => min (t j) T * b j) (f' := fun j => b j * min (t j) T) (fun j _ => Int.mul_comm _ _), sm_congr (f := fun j => t j * b j) (f' := fun j => b j * t j) (fun j _ => Int.mul_comm _ _)]
  exact this
theorem vs_get (r : Ru) (g : Nat → Int) (n p : Nat) (W : Int → Bool → Int) (hW : ∀ k a, 0 ≤ W k a) (k : Int) (a : Bool) : (vs r g n p W k a).getD 0 = if ba r g n p k = 0 then W k a else 0 := by
  unfold vs
  by_cases h : ba r g n p k = 0
  · by_cases h2 : 0 < W k a
    · rw [if_pos ⟨h, h2⟩, if_pos h]; rfl
    · rw [if_neg (fun x => h2 x.2), if_pos h]; have := hW k a; simp; omega
  · rw [if_neg (fun x => h x.1), if_neg h]; rfl
theorem ct_tt (r : Ru) (g : Nat → Int) (n d i : Nat) : ct r g n d (ck i) (ca i) = min (tt r g n d i) top := by
  induction d generalizing i with
  | zero => simp only [ct, tt]; decide
  | succ d ih =>
    simp only [ct, tt, wy]
    rw [← (sm_sat (b := fun j => tr r g n (n - (d + 1)) i j) (t := fun j => tt r g n d j) (by decide) (fun j _ => tr_01 _ _ _ _ _ _) (fun j _ => tt_pos _ _ _ _ _)).1]
    have e := sm_congr (f := fun j => if fo r g (n - (d + 1)) (ck i) (ca i) (ck j) (ca j) = true then (vs r g n (n - (d + 1)) (ct r g n d) (ck j) (ca j)).getD 0 else 0) (f' := fun j => tr r g n (n - (d + 1)) i j * min (tt r g n d j) top) (n := 256) (fun j hj => ?_)
    · rw [e]
    show (if fo r g (n - (d + 1)) (ck i) (ca i) (ck j) (ca j) = true then (vs r g n (n - (d + 1)) (ct r g n d) (ck j) (ca j)).getD 0 else 0) = tr r g n (n - (d + 1)) i j * min (tt r g n d j) top
    rw [vs_get r g n _ _ (fun k a => (ct_bd r g n d k a).1), ih j]
    unfold tr
    by_cases h : fo r g (n - (d + 1)) (ck i) (ca i) (ck j) (ca j) = true
    · by_cases h2 : ba r g n (n - (d + 1)) (ck j) = 0
      · rw [if_pos h, if_pos h2, if_pos ⟨h, h2⟩]; omega
      · rw [if_pos h, if_neg h2, if_neg (fun x => h2 x.2)]; omega
    · rw [if_neg h, if_neg (fun x => h x.1)]; omega
/-- The first keys. -/
def f0 (r : Ru) (g : Nat → Int) (n j : Nat) : Int := if ca j = false ∧ ba r g n 0 (ck j) = 0 then 1 else 0
theorem ct_first (r : Ru) (g : Nat → Int) (n : Nat) (hn : 1 ≤ n) : ct r g n n (-1) false = min (sm (fun j => f0 r g n j * tt r g n (n - 1) j) 256) top := by
  have e := ct_step r g n 0 (by omega) (-1) false
  rw [Nat.sub_zero] at e
  rw [e]
  simp only [wy]
  rw [← (sm_sat (b := fun j => f0 r g n j) (t := fun j => tt r g n (n - 1) j) (by decide) (fun j _ => by unfold f0; split <;> simp) (fun j _ => tt_pos _ _ _ _ _)).1]
  have e2 := sm_congr (f := fun j => if fo r g 0 (-1) false (ck j) (ca j) = true then (vs r g n 0 (ct r g n (n - (0 + 1))) (ck j) (ca j)).getD 0 else 0) (f' := fun j => f0 r g n j * min (tt r g n (n - 1) j) top) (n := 256) (fun j hj => ?_)
  · rw [e2]
  show (if fo r g 0 (-1) false (ck j) (ca j) = true then (vs r g n 0 (ct r g n (n - (0 + 1))) (ck j) (ca j)).getD 0 else 0) = f0 r g n j * min (tt r g n (n - 1) j) top
  rw [vs_get r g n _ _ (fun k a => (ct_bd r g n _ k a).1), Nat.zero_add, ct_tt]
  have hk : (ck j == -1) = false := by unfold ck; simp; omega
  have hfo : fo r g 0 (-1) false (ck j) (ca j) = true ↔ ca j = false := by
    rw [fo_iff, hk]
    exact ⟨fun h => h.1, fun h => ⟨h, bb_first rfl⟩⟩
  unfold f0
  by_cases h : ca j = false
  · by_cases h2 : ba r g n 0 (ck j) = 0
    · rw [if_pos (hfo.2 h), if_pos h2, if_pos ⟨h, h2⟩]; omega
    · rw [if_pos (hfo.2 h), if_neg h2, if_neg (fun x => h2 x.2)]; omega
  · rw [if_neg (fun x => h (hfo.1 x)), if_neg (fun x => h x.1)]; omega
/-- Sums of products in either order. -/
theorem sm_add (f g : Nat → Int) (N : Nat) : sm (fun i => f i + g i) N = sm f N + sm g N := by
  induction N with
  | zero => rfl
  | succ N ih => simp only [sm]; rw [ih]; omega
theorem sm_mul (c : Int) (f : Nat → Int) (N : Nat) : sm (fun i => c * f i) N = c * sm f N := by
  induction N with
  | zero => simp [sm]
  | succ N ih => simp only [sm]; rw [ih, Int.mul_add]
theorem sm_swap (f t : Nat → Int) (a : Nat → Nat → Int) (N K : Nat) : sm (fun j => sm (fun i => f i * a i j) N * t j) K = sm (fun i => f i * sm (fun j => a i j * t j) K) N := by
  induction N with
  | zero => simp only [sm]; exact sm_zero (fun j _ => by simp)
  | succ N ih =>
    simp only [sm]
    rw [← ih, ← sm_mul, ← sm_add]
    refine sm_congr (fun j _ => ?_)
    rw [Int.add_mul, Int.mul_assoc]
/-- What the document's matrix comes to from place p0 on. -/
def fw (r : Ru) (g : Nat → Int) (n p0 : Nat) (F : Nat → Int) : Nat → Nat → Int
  | 0 => F
  | m + 1 => fun j => sm (fun i => fw r g n p0 F m i * tr r g n (p0 + m) i j) 256
theorem fw_pos (r : Ru) (g : Nat → Int) (n p0 : Nat) (F : Nat → Int) (hF : ∀ j, 0 ≤ F j) (m j : Nat) : 0 ≤ fw r g n p0 F m j := by
  induction m generalizing j with
  | zero => exact hF j
  | succ m ih =>
    simp only [fw]
    exact sm_pos (fun i _ => by rcases tr_01 r g n (p0 + m) i j with h | h <;> rw [h] <;> have := ih i <;> omega)
theorem fw_all (r : Ru) (g : Nat → Int) (n p0 : Nat) (F : Nat → Int) (m : Nat) (hm : p0 + m ≤ n) : sm (fun i => fw r g n p0 F m i * tt r g n (n - (p0 + m)) i) 256 = sm (fun i => F i * tt r g n (n - p0) i) 256 := by
  induction m with
  | zero => rfl
  | succ m ih =>
    rw [← ih (by omega)]
    simp only [fw]
    rw [sm_swap (fun i => fw r g n p0 F m i) (fun j => tt r g n (n - (p0 + (m + 1))) j) (fun i j => tr r g n (p0 + m) i j) 256 256]
    refine sm_congr (fun i _ => ?_)
    have e : n - (p0 + m) = (n - (p0 + (m + 1))) + 1 := by omega
    rw [e]
    simp only [tt]
    have e2 : n - (n - (p0 + (m + 1)) + 1) = p0 + m := by omega
    rw [e2]
/-- The matrix as the document keeps it: at most 'top'. -/
def fs (r : Ru) (g : Nat → Int) (n p0 : Nat) (F : Nat → Int) (m j : Nat) : Int := min (fw r g n p0 F m j) top
theorem fs_step (r : Ru) (g : Nat → Int) (n p0 : Nat) (F : Nat → Int) (hF : ∀ j, 0 ≤ F j) (m j : Nat) : fs r g n p0 F (m + 1) j = min (sm (fun i => fs r g n p0 F m i * tr r g n (p0 + m) i j) 256) top := by
  unfold fs
  simp only [fw]
  rw [sm_sat' (b := fun i => tr r g n (p0 + m) i j) (t := fun i => fw r g n p0 F m i) (by decide) (fun i _ => tr_01 _ _ _ _ _ _) (fun i _ => fw_pos r g n p0 F hF m i)]
theorem fs_bd (r : Ru) (g : Nat → Int) (n p0 : Nat) (F : Nat → Int) (hF : ∀ j, 0 ≤ F j) (m j : Nat) : 0 ≤ fs r g n p0 F m j ∧ fs r g n p0 F m j ≤ 1000000000 := by
  have := fw_pos r g n p0 F hF m j
  unfold fs top; omega
theorem fs_end (r : Ru) (g : Nat → Int) (n p0 : Nat) (F : Nat → Int) (hF : ∀ j, 0 ≤ F j) (hp : p0 ≤ n) : min (sm (fun j => fs r g n p0 F (n - p0) j) 256) top = min (sm (fun i => F i * tt r g n (n - p0) i) 256) top := by
  rw [← fw_all r g n p0 F (n - p0) (by omega)]
  have h := sm_sat' (b := fun _ => 1) (t := fun i => fw r g n p0 F (n - p0) i) (N := 256) (T := top) (by decide) (fun i _ => Or.inr rfl) (fun i _ => fw_pos r g n p0 F hF _ i)
  have e1 : sm (fun j => fs r g n p0 F (n - p0) j) 256 = sm (fun j => min (fw r g n p0 F (n - p0) j) top * 1) 256 := sm_congr (fun j _ => by unfold fs; omega)
  have e2 : sm (fun i => fw r g n p0 F (n - p0) i * tt r g n (n - (p0 + (n - p0))) i) 256 = sm (fun j => fw r g n p0 F (n - p0) j * 1) 256 := sm_congr (fun j _ => by
    rw [show n - (p0 + (n - p0)) = 0 by omega]; rfl)
  rw [e1, e2]; exact h
/-- A line so far: one state. -/
def fu (c : Nat) (j : Nat) : Int := if j = c then 1 else 0
theorem fu_sum (r : Ru) (g : Nat → Int) (n d c : Nat) (hc : c < 256) : sm (fun i => fu c i * tt r g n d i) 256 = tt r g n d c := by
  have := sm_upd (f := fun _ => 0) (f' := fun i => fu c i * tt r g n d i) (v := tt r g n d c) hc rfl (by unfold fu; simp) (fun j _ h => by unfold fu; simp [h])
  rw [this, sm_zero (fun _ _ => rfl)]; omega
/-- The next matrix while it is made: all of the states ahead of i, and of i the keys below kk. -/
def nx (U : Nat → Int) (a : Nat → Nat → Int) (i : Nat) (kk : Int) (j : Nat) : Int := min (sm (fun i' => U i' * a i' j) i + (if ck j < kk then U i * a i j else 0)) top
end Go.Proofs.Ytmgkbnlmdhnjnae.U.M
