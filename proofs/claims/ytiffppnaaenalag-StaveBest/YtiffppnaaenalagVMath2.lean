/- The best way as both texts reckon it: from the end with the first line's end, and from the beginning with whole lists; what lines cost that end so. -/
import Derived.Test.YtiffppnaaenalagVMath
namespace Go.Proofs.Ytiffppnaaenalag.V.M
set_option linter.unusedVariables false
set_option linter.unusedSimpArgs false

/-- How the boxes behind a place are broken best, if they can be. -/
structure Wy where
  ex : Bool
  cost : Int
  lines : Int
  fin : Int
/-- That is so of v. -/
def Is (b : Bx) (n a : Nat) (v : Wy) : Prop :=
  (v.ex = true ∧ ∃ l, Bst b n n a l ∧ v.cost = co b n a l ∧ v.lines = l.length ∧ v.fin = ((l.headD n : Nat) : Int)) ∨ (v.ex = false ∧ ∀ l, ¬ wy b n n a l)
/-- The same of ways whose first line ends at i or ahead of it. -/
def Iu (b : Bx) (n a i : Nat) (v : Wy) : Prop :=
  (v.ex = true ∧ ∃ e t, e ≤ i ∧ wy b n n a (e :: t) ∧ v.cost = co b n a (e :: t) ∧ v.lines = t.length + 1 ∧ v.fin = (e : Int) ∧ ∀ e' t', e' ≤ i → wy b n n a (e' :: t') → bt (co b n a (e' :: t')) (e' :: t') (co b n a (e :: t)) (e :: t) = false) ∨
  (v.ex = false ∧ ∀ e t, e ≤ i → ¬ wy b n n a (e :: t))
theorem is_end (b : Bx) (n : Nat) : Is b n n ⟨true, 0, 0, n⟩ := by
  refine Or.inl ⟨rfl, [], ⟨rfl, fun m hm => ?_⟩, rfl, rfl, rfl⟩
  rw [wy_end hm]; exact bt_irr _ _
theorem iu_start (b : Bx) (n a : Nat) : Iu b n a a ⟨false, 0, 0, 0⟩ := Or.inr ⟨rfl, fun e t h1 h2 => by have := h2.1; omega⟩
theorem iu_all {b : Bx} {n a i : Nat} {v : Wy} (ha : a < n) (h : Iu b n a i v) (hall : ∀ e t, wy b n n a (e :: t) → e ≤ i) : Is b n a v := by
  rcases h with ⟨h1, e, t, h2, h3, h4, h5, h6, h7⟩ | ⟨h1, h2⟩
  · refine Or.inl ⟨h1, e :: t, ⟨h3, fun m hm => ?_⟩, h4, by simp [h5], by simp [h6]⟩
    cases m with
    | nil => simp only [wy] at hm; omega
    | cons e' t' => exact h7 e' t' (hall e' t' hm) hm
  · refine Or.inr ⟨h1, fun m hm => ?_⟩
    cases m with
    | nil => simp only [wy] at hm; omega
    | cons e' t' => exact h2 e' t' (hall e' t' hm) hm
theorem iu_end {b : Bx} {n a : Nat} {v : Wy} (ha : a < n) (h : Iu b n a n v) : Is b n a v := iu_all ha h (fun e t hw => hw.2.1)
theorem iu_stop {b : Bx} {n a i : Nat} {v : Wy} (hr : rt b n) (ha : a ≤ i) (hi : i < n) (h : Iu b n a i v) (hf : ft b a (i + 1) = false) : Is b n a v := by
  refine iu_all (by omega) h (fun e t hw => ?_)
  apply Nat.le_of_not_lt
  intro hlt
  obtain ⟨h1, h2, h3, _⟩ := hw
  unfold ft at hf h3
  simp at hf h3
  have := nd_mono hr a (i + 1 - a) (e - (i + 1)) (by omega)
  rw [show i + 1 - a + (e - (i + 1)) = e - a by omega] at this
  omega
theorem iu_more {b : Bx} {n a i : Nat} {v : Wy} (h : Iu b n a i v) (hno : ∀ t, ¬ wy b n n a ((i + 1) :: t)) : Iu b n a (i + 1) v := by
  rcases h with ⟨h1, e, t, h2, h3, h4, h5, h6, h7⟩ | ⟨h1, h2⟩
  · refine Or.inl ⟨h1, e, t, by omega, h3, h4, h5, h6, fun e' t' he hw => ?_⟩
    by_cases hc : e' = i + 1
    · subst hc; exact absurd hw (hno t')
    · exact h7 e' t' (by omega) hw
  · refine Or.inr ⟨h1, fun e' t' he hw => ?_⟩
    by_cases hc : e' = i + 1
    · subst hc; exact absurd hw (hno t')
    · exact h2 e' t' (by omega) hw
theorem iu_skip {b : Bx} {n a i : Nat} {v u : Wy} (h : Iu b n a i v) (hu : Is b n (i + 1) u) (hx : u.ex = false) : Iu b n a (i + 1) v := by
  refine iu_more h (fun t hw => ?_)
  rcases hu with ⟨h1, _⟩ | ⟨_, h2⟩
  · rw [hx] at h1; exact absurd h1 (by decide)
  · exact h2 t hw.2.2.2
/-- The elder way is better than one whose first line is longer. -/
def be (v f : Wy) : Bool := if v.ex = false then false else if v.cost = f.cost then decide (v.lines < f.lines) else decide (v.cost < f.cost)
theorem iu_take {b : Bx} {n a i : Nat} {v u : Wy} (ha : a ≤ i) (hi : i < n) (h : Iu b n a i v) (hu : Is b n (i + 1) u) (hx : u.ex = true) (hf : ft b a (i + 1) = true) :
    Iu b n a (i + 1) (if be v ⟨true, cs b n a (i + 1) + u.cost, 1 + u.lines, (i + 1 : Nat)⟩ = true then v else ⟨true, cs b n a (i + 1) + u.cost, 1 + u.lines, (i + 1 : Nat)⟩) := by
  rcases hu with ⟨_, l, hl, u2, u3, u4⟩ | ⟨h1, _⟩
  rotate_left
  · rw [hx] at h1; exact absurd h1 (by decide)
  have hwl : wy b n n a ((i + 1) :: l) := ⟨by omega, by omega, hf, hl.1⟩
  have hbl : ∀ t', wy b n n a ((i + 1) :: t') → bt (co b n a ((i + 1) :: t')) ((i + 1) :: t') (co b n a ((i + 1) :: l)) ((i + 1) :: l) = false := fun t' hw => by
    simp only [co]; rw [bt_cons]; exact hl.2 t' hw.2.2.2
  have hc : cs b n a (i + 1) + u.cost = co b n a ((i + 1) :: l) := by simp only [co, u2]
  have hn : 1 + u.lines = (l.length : Int) + 1 := by omega
  rcases h with ⟨h1, e, t, h2, h3, h4, h5, h6, h7⟩ | ⟨h1, h2⟩
  · have hbe : be v ⟨true, cs b n a (i + 1) + u.cost, 1 + u.lines, (i + 1 : Nat)⟩ = !(bt (co b n a ((i + 1) :: l)) ((i + 1) :: l) (co b n a (e :: t)) (e :: t)) := by
      unfold be bt
      simp only [h1, hc, hn, h4, h5]
      rw [if_neg (by decide)]
      by_cases c1 : co b n a (e :: t) = co b n a ((i + 1) :: l)
      · rw [if_pos c1, if_pos c1.symm]
        simp only [List.length_cons]
        by_cases c2 : l.length = t.length
        · rw [if_pos (by omega)]
          simp only [lx]
          rw [if_neg (by omega), decide_eq_false (by omega), decide_eq_true (by omega)]; rfl
        · rw [if_neg (by omega), ← decide_not]
          exact decide_eq_decide.2 (by omega)
      · rw [if_neg c1, if_neg (fun x => c1 x.symm), ← decide_not]
        exact decide_eq_decide.2 (by omega)
    rw [hbe]
    cases hb : bt (co b n a ((i + 1) :: l)) ((i + 1) :: l) (co b n a (e :: t)) (e :: t)
    · rw [if_pos (by rfl)]
      refine Or.inl ⟨h1, e, t, by omega, h3, h4, h5, h6, fun e' t' he hw => ?_⟩
      by_cases hcc : e' = i + 1
      · subst hcc
        cases hq : bt (co b n a ((i + 1) :: t')) ((i + 1) :: t') (co b n a (e :: t)) (e :: t)
        · rfl
        · rcases bt_neg (d := co b n a ((i + 1) :: l)) (m := (i + 1) :: l) hq with hh | hh
          · rw [hbl t' hw] at hh; exact absurd hh (by decide)
          · rw [hb] at hh; exact absurd hh (by decide)
      · exact h7 e' t' (by omega) hw
    · rw [if_neg (by decide)]
      refine Or.inl ⟨rfl, i + 1, l, by omega, hwl, hc, hn, rfl, fun e' t' he hw => ?_⟩
      by_cases hcc : e' = i + 1
      · subst hcc; exact hbl t' hw
      · cases hq : bt (co b n a (e' :: t')) (e' :: t') (co b n a ((i + 1) :: l)) ((i + 1) :: l)
        · rfl
        · have := bt_trans hq hb
          rw [h7 e' t' (by omega) hw] at this; exact absurd this (by decide)
  · have hbe : be v ⟨true, cs b n a (i + 1) + u.cost, 1 + u.lines, (i + 1 : Nat)⟩ = false := by unfold be; rw [if_pos h1]
    rw [hbe, if_neg (by decide)]
    refine Or.inl ⟨rfl, i + 1, l, by omega, hwl, hc, hn, rfl, fun e' t' he hw => ?_⟩
    by_cases hcc : e' = i + 1
    · subst hcc; exact hbl t' hw
    · exact absurd hw (h2 e' t' (by omega))
theorem is_cost {b : Bx} {n a : Nat} {v : Wy} (hr : rt b n) (hn : n ≤ 1024) (w1 : 1 ≤ b.wide) (w2 : b.wide ≤ 10000) (h : Is b n a v) (hx : v.ex = true) : 0 ≤ v.cost ∧ v.cost ≤ 429496729600000000 ∧ 0 ≤ v.lines ∧ v.lines ≤ 1024 ∧ (a : Int) ≤ v.fin ∧ v.fin ≤ n ∧ (a < n → (a : Int) < v.fin) := by
  rcases h with ⟨_, l, hl, h2, h3, h4⟩ | ⟨h1, _⟩
  · have c1 := co_bd hr hn w1 w2 hl.1
    have c2 := wy_len hl.1
    have c3 : (l.length : Int) ≤ 1024 := by omega
    refine ⟨by omega, by omega, by omega, by omega, ?_⟩
    cases l with
    | nil =>
      have := hl.1
      simp only [wy] at this
      simp only [List.headD_nil] at h4
      rw [h4]; omega
    | cons e t =>
      obtain ⟨e1, e2, _⟩ := hl.1
      simp only [List.headD_cons] at h4
      rw [h4]; omega
  · rw [hx] at h1; exact absurd h1 (by decide)

/-- Numbers as a list. -/
def ls (x : Nat → Int) (a : Nat) : Nat → List Nat
  | 0 => []
  | k + 1 => (x a).toNat :: ls x (a + 1) k
theorem ls_len (x : Nat → Int) (k : Nat) : ∀ a, (ls x a k).length = k := by
  induction k with
  | zero => intro a; rfl
  | succ k ih => intro a; simp [ls, ih]
theorem ls_snoc (x : Nat → Int) (k : Nat) : ∀ a, ls x a (k + 1) = ls x a k ++ [(x (a + k)).toNat] := by
  induction k with
  | zero => intro a; simp [ls]
  | succ k ih => intro a; rw [ls, ih (a + 1), ls]; simp [Nat.add_assoc, Nat.add_comm 1 k]
theorem ls_ext {x y : Nat → Int} {k : Nat} : ∀ {a}, (∀ j, a ≤ j → j < a + k → x j = y j) → ls x a k = ls y a k := by
  induction k with
  | zero => intro a _; rfl
  | succ k ih => intro a h; simp only [ls]; rw [h a (by omega) (by omega), ih (fun j h1 h2 => h j (by omega) (by omega))]
theorem ls_inj {x y : Nat → Int} {k m : Nat} : ∀ {a}, (∀ j, a ≤ j → j < a + k → 0 ≤ x j) → (∀ j, a ≤ j → j < a + m → 0 ≤ y j) → ls x a k = ls y a m → k = m ∧ ∀ j, a ≤ j → j < a + k → x j = y j := by
  induction k generalizing m with
  | zero =>
    intro a hx hy h
    cases m with
    | zero => exact ⟨rfl, fun j h1 h2 => by omega⟩
    | succ m => simp [ls] at h
  | succ k ih =>
    intro a hx hy h
    cases m with
    | zero => simp [ls] at h
    | succ m =>
      simp only [ls, List.cons.injEq] at h
      obtain ⟨e1, e2⟩ := ih (m := m) (a := a + 1) (fun j h1 h2 => hx j (by omega) (by omega)) (fun j h1 h2 => hy j (by omega) (by omega)) h.2
      refine ⟨by omega, fun j h1 h2 => ?_⟩
      by_cases hj : j = a
      · subst hj
        have c1 := hx j (by omega) (by omega)
        have c2 := hy j (by omega) (by omega)
        have := h.1
        omega
      · exact e2 j (by omega) (by omega)
theorem lx_part {x y : Nat → Int} {m : Nat} {i : Nat} : ∀ {a}, (∀ j, a ≤ j → j < a + m → 0 ≤ x j ∧ 0 ≤ y j) → a ≤ i → i < a + m → (∀ j, a ≤ j → j < i → x j = y j) → x i ≠ y i → lx (ls x a m) (ls y a m) = decide (y i < x i) := by
  induction m with
  | zero => intro a _ h1 h2; omega
  | succ m ih =>
    intro a hp h1 h2 he hne
    simp only [ls, lx]
    by_cases ha : a = i
    · subst ha
      have := hp a (by omega) (by omega)
      rw [if_neg (by omega)]
      simp; omega
    · have e1 := he a (by omega) (by omega)
      rw [e1, if_pos rfl]
      exact ih (fun j h1 h2 => hp j (by omega) (by omega)) (by omega) (by omega) (fun j h1 h2 => he j (by omega) h2) hne
theorem lx_same {x y : Nat → Int} {m : Nat} {a : Nat} (h : ∀ j, a ≤ j → j < a + m → x j = y j) : lx (ls x a m) (ls y a m) = false := by
  rw [ls_ext h]; exact lx_irr _

/-- Lines that end so, one behind the other: what is wrong with them, where the last one ends, what they cost. -/
def cl (b : Bx) (n : Nat) (g : Nat → Int) : Nat → Int × Nat × Int
  | 0 => (0, 0, 0)
  | k + 1 =>
    if (cl b n g k).1 = 0 then
      (if g k ≤ ((cl b n g k).2.1 : Int) ∨ (n : Int) < g k then (8, (cl b n g k).2.1, (cl b n g k).2.2)
       else if ft b (cl b n g k).2.1 (g k).toNat = true then (0, (g k).toNat, (cl b n g k).2.2 + cs b n (cl b n g k).2.1 (g k).toNat)
       else (6, (cl b n g k).2.1, (cl b n g k).2.2))
    else cl b n g k
theorem cl_stay {b : Bx} {n : Nat} {g : Nat → Int} {k : Nat} (h : (cl b n g k).1 ≠ 0) (m : Nat) : cl b n g (k + m) = cl b n g k := by
  induction m with
  | zero => rfl
  | succ m ih => rw [← Nat.add_assoc, cl, ih, if_neg h]
theorem cl_fit {b : Bx} {n : Nat} {g : Nat → Int} {k : Nat} (h : (cl b n g k).1 = 0) (h2 : g k ≤ ((cl b n g k).2.1 : Int) ∨ (n : Int) < g k) : (cl b n g (k + 1)).1 = 8 := by
  rw [cl, if_pos h, if_pos h2]
theorem cl_none {b : Bx} {n : Nat} {g : Nat → Int} {k : Nat} (h : (cl b n g k).1 = 0) (h2 : ¬ (g k ≤ ((cl b n g k).2.1 : Int) ∨ (n : Int) < g k)) (h3 : ft b (cl b n g k).2.1 (g k).toNat = false) : (cl b n g (k + 1)).1 = 6 := by
  rw [cl, if_pos h, if_neg h2, if_neg (by rw [h3]; decide)]
theorem cl_step {b : Bx} {n : Nat} {g : Nat → Int} {k : Nat} (h : (cl b n g k).1 = 0) (h2 : ¬ (g k ≤ ((cl b n g k).2.1 : Int) ∨ (n : Int) < g k)) (h3 : ft b (cl b n g k).2.1 (g k).toNat = true) : cl b n g (k + 1) = (0, (g k).toNat, (cl b n g k).2.2 + cs b n (cl b n g k).2.1 (g k).toNat) := by
  rw [cl, if_pos h, if_neg h2, if_pos h3]
theorem cl_wy {b : Bx} {n : Nat} {g : Nat → Int} {k : Nat} (h : (cl b n g k).1 = 0) : wy b n (cl b n g k).2.1 0 (ls g 0 k) ∧ (cl b n g k).2.2 = co b n 0 (ls g 0 k) ∧ (cl b n g k).2.1 ≤ n ∧ ∀ j, j < k → 0 ≤ g j ∧ g j ≤ n := by
  induction k with
  | zero => exact ⟨rfl, rfl, by simp [cl], fun j hj => by omega⟩
  | succ k ih =>
    by_cases h0 : (cl b n g k).1 = 0
    · obtain ⟨i1, i2, i3, i4⟩ := ih h0
      by_cases h2 : g k ≤ ((cl b n g k).2.1 : Int) ∨ (n : Int) < g k
      · rw [cl_fit h0 h2] at h; exact absurd h (by decide)
      · cases h3 : ft b (cl b n g k).2.1 (g k).toNat
        · rw [cl_none h0 h2 h3] at h; exact absurd h (by decide)
        · rw [cl_step h0 h2 h3, ls_snoc, Nat.zero_add]
          refine ⟨wy_snoc (by omega) (by omega) h3 i1, ?_, by simp; omega, fun j hj => ?_⟩
          · rw [co_snoc i1, ← i2]
          · rcases Nat.lt_succ_iff_lt_or_eq.1 hj with hh | rfl
            · exact i4 j hh
            · omega
    · rw [cl, if_neg h0] at h; exact absurd h h0
theorem wy_cl {b : Bx} {n : Nat} {g : Nat → Int} {k : Nat} (hg : ∀ j, j < k → 0 ≤ g j) : ∀ {z}, wy b n z 0 (ls g 0 k) → cl b n g k = (0, z, co b n 0 (ls g 0 k)) := by
  induction k with
  | zero => intro z h; have h' : 0 = z := h; subst h'; rfl
  | succ k ih =>
    intro z h
    have hl := ls_snoc g k 0
    rw [Nat.zero_add] at hl
    rw [hl] at h
    obtain ⟨e1, e2, y, e3, e4, e5⟩ := wy_unsnoc h
    have i1 := ih (fun j hj => hg j (by omega)) e3
    have c1 := hg k (by omega)
    rw [cl_step (by rw [i1]) (by rw [i1]; simp; omega) (by rw [i1]; simp only; rw [e1]; exact e5)]
    rw [i1, hl, co_snoc e3, e1]
/-- What Cost answers of boxes and a width that are right. -/
def cq (b : Bx) (n : Nat) (g : Nat → Int) (m : Nat) : Int × Int :=
  if (cl b n g m).1 = 0 then (if (cl b n g m).2.1 < n then (0, 8) else ((cl b n g m).2.2, 0)) else (0, (cl b n g m).1)
theorem cq_ok {b : Bx} {n : Nat} {g : Nat → Int} {m : Nat} (h : (cq b n g m).2 = 0) : wy b n n 0 (ls g 0 m) ∧ (cq b n g m).1 = co b n 0 (ls g 0 m) ∧ ∀ j, j < m → 0 ≤ g j ∧ g j ≤ n := by
  unfold cq at h ⊢
  by_cases h0 : (cl b n g m).1 = 0
  · rw [if_pos h0] at h ⊢
    obtain ⟨i1, i2, i3, i4⟩ := cl_wy h0
    by_cases h1 : (cl b n g m).2.1 < n
    · rw [if_pos h1] at h; exact absurd h (by decide)
    · rw [if_neg h1]
      rw [show (cl b n g m).2.1 = n by omega] at i1
      exact ⟨i1, i2, i4⟩
  · rw [if_neg h0] at h; exact absurd h h0
theorem cq_wy {b : Bx} {n : Nat} {g : Nat → Int} {m : Nat} (hg : ∀ j, j < m → 0 ≤ g j) (h : wy b n n 0 (ls g 0 m)) : cq b n g m = (co b n 0 (ls g 0 m), 0) := by
  unfold cq
  rw [wy_cl hg h, if_pos rfl, if_neg (by simp)]
/-- What is wrong with boxes and a width. -/
def rb (b : Bx) : Nat → Bool
  | 0 => true
  | k + 1 => rb b k && decide (1 ≤ b.W k ∧ b.W k ≤ 10000 ∧ 0 ≤ b.G k ∧ b.G k ≤ b.W k)
theorem rb_iff {b : Bx} {n : Nat} : rb b n = true ↔ rt b n := by
  induction n with
  | zero => simp [rb, rt]
  | succ n ih =>
    simp only [rb, Bool.and_eq_true, decide_eq_true_eq, ih]
    constructor
    · intro h j hj
      rcases Nat.lt_succ_iff_lt_or_eq.1 hj with h1 | rfl
      · exact h.1 j h1
      · exact h.2
    · intro h; exact ⟨fun j hj => h j (by omega), h n (by omega)⟩
theorem rb_no {b : Bx} {n j : Nat} (hj : j < n) (h : ¬ (1 ≤ b.W j ∧ b.W j ≤ 10000 ∧ 0 ≤ b.G j ∧ b.G j ≤ b.W j)) : rb b n = false := by
  cases hb : rb b n
  · rfl
  · exact absurd (rb_iff.1 hb j hj) h
def wr (b : Bx) (n : Nat) : Int := if 1024 < n then 5 else if b.wide < 1 ∨ 10000 < b.wide then 3 else if rb b n = true then 0 else 3
theorem wr_zero {b : Bx} {n : Nat} (h : wr b n = 0) : n ≤ 1024 ∧ 1 ≤ b.wide ∧ b.wide ≤ 10000 ∧ rt b n := by
  unfold wr at h
  by_cases h1 : 1024 < n
  · rw [if_pos h1] at h; exact absurd h (by decide)
  · rw [if_neg h1] at h
    by_cases h2 : b.wide < 1 ∨ 10000 < b.wide
    · rw [if_pos h2] at h; exact absurd h (by decide)
    · rw [if_neg h2] at h
      by_cases h3 : rb b n = true
      · exact ⟨by omega, by omega, by omega, rb_iff.1 h3⟩
      · rw [if_neg h3] at h; exact absurd h (by decide)
theorem wr_ok {b : Bx} {n : Nat} (h1 : n ≤ 1024) (h2 : 1 ≤ b.wide) (h3 : b.wide ≤ 10000) (h : rt b n) : wr b n = 0 := by
  unfold wr; rw [if_neg (by omega), if_neg (by omega), if_pos (rb_iff.2 h)]
theorem wr_many {b : Bx} {n : Nat} (h : 1024 < n) : wr b n = 5 := by unfold wr; rw [if_pos h]
theorem wr_wide {b : Bx} {n : Nat} (h : ¬ 1024 < n) (h2 : b.wide < 1 ∨ 10000 < b.wide) : wr b n = 3 := by unfold wr; rw [if_neg h, if_pos h2]
theorem wr_box {b : Bx} {n j : Nat} (h : ¬ 1024 < n) (hj : j < n) (h3 : ¬ (1 ≤ b.W j ∧ b.W j ≤ 10000 ∧ 0 ≤ b.G j ∧ b.G j ≤ b.W j)) : wr b n = 3 := by
  unfold wr; rw [if_neg h, rb_no hj h3]
  by_cases h2 : b.wide < 1 ∨ 10000 < b.wide
  · rw [if_pos h2]
  · rw [if_neg h2]; rfl
/-- What Break answers. -/
def BrR (b : Bx) (n : Nat) (x : Nat → Int) (m : Nat) (C E : Int) : Prop :=
  (wr b n ≠ 0 ∧ m = 0 ∧ C = 0 ∧ E = wr b n) ∨ (wr b n = 0 ∧ m = 0 ∧ C = 0 ∧ E = 6 ∧ ∀ l, ¬ wy b n n 0 l) ∨
  (wr b n = 0 ∧ E = 0 ∧ (∀ j, j < m → 0 ≤ x j ∧ x j ≤ n) ∧ C = co b n 0 (ls x 0 m) ∧ Bst b n n 0 (ls x 0 m))
theorem BrR.one {b : Bx} {n : Nat} {x y : Nat → Int} {m k : Nat} {C D E F : Int} (h1 : BrR b n x m C E) (h2 : BrR b n y k D F) : C = D ∧ E = F ∧ m = k ∧ ∀ j, j < m → x j = y j := by
  rcases h1 with ⟨a1, rfl, rfl, rfl⟩ | ⟨a1, rfl, rfl, rfl, a2⟩ | ⟨a1, rfl, a2, rfl, a3⟩ <;> rcases h2 with ⟨b1, rfl, rfl, rfl⟩ | ⟨b1, rfl, rfl, rfl, b2⟩ | ⟨b1, rfl, b2, rfl, b3⟩
  · exact ⟨rfl, rfl, rfl, fun j hj => by omega⟩
  · exact absurd b1 a1
  · exact absurd b1 a1
  · exact absurd a1 b1
  · exact ⟨rfl, rfl, rfl, fun j hj => by omega⟩
  · exact absurd b3.1 (a2 _)
  · exact absurd a1 b1
  · exact absurd a3.1 (b2 _)
  · have e := a3.one b3
    obtain ⟨e1, e2⟩ := ls_inj (fun j _ hj => (a2 j (by omega)).1) (fun j _ hj => (b2 j (by omega)).1) e
    exact ⟨by rw [e], rfl, e1, fun j hj => e2 j (by omega) (by omega)⟩
end Go.Proofs.Ytiffppnaaenalag.V.M
