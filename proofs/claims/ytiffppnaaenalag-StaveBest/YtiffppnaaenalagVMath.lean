/- Lines of boxes as plain functions: what a line needs and costs, ways to break, which of two is better, and the best one. -/
import Derived.Test.YtiffppnaaenalagRows
namespace Go.Proofs.Ytiffppnaaenalag.V.M
set_option linter.unusedVariables false
set_option linter.unusedSimpArgs false

/-- All of f over k places from a on. -/
def sm (f : Nat → Int) (a : Nat) : Nat → Int
  | 0 => 0
  | k + 1 => sm f a k + f (a + k)
/-- A width, and what each box has and gives. -/
structure Bx where
  wide : Int
  W : Nat → Int
  G : Nat → Int
/-- The first n boxes are right. -/
def rt (b : Bx) (n : Nat) : Prop := ∀ j, j < n → 1 ≤ b.W j ∧ b.W j ≤ 10000 ∧ 0 ≤ b.G j ∧ b.G j ≤ b.W j
theorem sm_cons (f : Nat → Int) (a k : Nat) : sm f a (k + 1) = f a + sm f (a + 1) k := by
  induction k with
  | zero => simp [sm]
  | succ k ih => rw [sm, ih, sm]; rw [show a + (k + 1) = a + 1 + k by omega]; omega
theorem sm_shift (f : Nat → Int) (c a k : Nat) : sm (fun j => f (c + j)) a k = sm f (c + a) k := by
  induction k with
  | zero => rfl
  | succ k ih => simp only [sm, ih]; rw [Nat.add_assoc]
theorem sm_bd {f : Nat → Int} {n : Nat} {lo hi : Int} (h : ∀ j, j < n → lo ≤ f j ∧ f j ≤ hi) (a k : Nat) (hk : a + k ≤ n) : lo * (k : Int) ≤ sm f a k ∧ sm f a k ≤ hi * (k : Int) := by
  induction k with
  | zero => simp [sm]
  | succ k ih =>
    have h1 := ih (by omega)
    have h2 := h (a + k) (by omega)
    simp only [sm]; push_cast; rw [Int.mul_add, Int.mul_add, Int.mul_one, Int.mul_one]; omega
/-- What a line needs at least. -/
def nd (b : Bx) (a k : Nat) : Int := sm b.W a k - sm b.G a k
theorem nd_succ (b : Bx) (a k : Nat) : nd b a (k + 1) = nd b a k + (b.W (a + k) - b.G (a + k)) := by unfold nd; simp only [sm]; omega
theorem nd_mono {b : Bx} {n : Nat} (h : rt b n) (a k m : Nat) (hm : a + k + m ≤ n) : nd b a k ≤ nd b a (k + m) := by
  induction m with
  | zero => simp
  | succ m ih =>
    have h1 := ih (by omega)
    have h2 := h (a + (k + m)) (by omega)
    rw [← Nat.add_assoc, nd_succ]; omega
theorem nd_part {b : Bx} {n : Nat} (h : rt b n) (a k j : Nat) (hj : j < k) (hk : a + k ≤ n) : b.W (a + j) - b.G (a + j) ≤ nd b a k := by
  have h1 := nd_mono h a (j + 1) (k - (j + 1)) (by omega)
  rw [show j + 1 + (k - (j + 1)) = k by omega, nd_succ] at h1
  have h2 := nd_mono h a 0 j (by omega)
  rw [Nat.zero_add] at h2
  have h3 : nd b a 0 = 0 := by simp [nd, sm]
  omega
/-- It fits. -/
def ft (b : Bx) (a e : Nat) : Bool := decide (nd b a (e - a) ≤ b.wide)
/-- What a line as wide as this costs. -/
def cz (x wd : Int) (last : Bool) : Int := if 0 < x - wd then 4 * (x - wd) * (x - wd) else if last = true then 0 else (x - wd) * (x - wd)
def cs (b : Bx) (n a e : Nat) : Int := cz (sm b.W a (e - a)) b.wide (decide (e = n))
theorem sq_bd {x m : Int} (h1 : -m ≤ x) (h2 : x ≤ m) : 0 ≤ x * x ∧ x * x ≤ m * m := by
  by_cases h : 0 ≤ x
  · exact ⟨Int.mul_nonneg h h, Int.mul_le_mul h2 h2 h (by omega)⟩
  · have h3 : 0 ≤ -x := by omega
    have e : x * x = (-x) * (-x) := by grind
    rw [e]
    exact ⟨Int.mul_nonneg h3 h3, Int.mul_le_mul (by omega) (by omega) h3 (by omega)⟩
theorem cz_bd {x wd : Int} {last : Bool} (h1 : 0 ≤ x) (h2 : x ≤ 10240000) (h3 : 1 ≤ wd) (h4 : wd ≤ 10000) : 0 ≤ cz x wd last ∧ cz x wd last ≤ 419430400000000 := by
  have h5 := sq_bd (x := x - wd) (m := 10240000) (by omega) (by omega)
  have e : 4 * (x - wd) * (x - wd) = 4 * ((x - wd) * (x - wd)) := Int.mul_assoc ..
  unfold cz
  split
  · rw [e]; omega
  · split
    · omega
    · omega
theorem cs_bd {b : Bx} {n : Nat} (h : rt b n) (hn : n ≤ 1024) (w1 : 1 ≤ b.wide) (w2 : b.wide ≤ 10000) {a e : Nat} (hae : a ≤ e) (he : e ≤ n) : 0 ≤ cs b n a e ∧ cs b n a e ≤ 419430400000000 := by
  have h1 := sm_bd (f := b.W) (n := n) (lo := 0) (hi := 10000) (fun j hj => by have := h j hj; omega) a (e - a) (by omega)
  exact cz_bd (by omega) (by omega) w1 w2

/-- A way to break from a up to z, by the lines' ends. -/
def wy (b : Bx) (n z : Nat) : Nat → List Nat → Prop
  | a, [] => a = z
  | a, e :: t => a < e ∧ e ≤ n ∧ ft b a e = true ∧ wy b n z e t
/-- What it costs. -/
def co (b : Bx) (n : Nat) : Nat → List Nat → Int
  | _, [] => 0
  | a, e :: t => cs b n a e + co b n e t
theorem wy_len {b : Bx} {n z : Nat} {l : List Nat} : ∀ {a : Nat}, wy b n z a l → a + l.length ≤ z := by
  induction l with
  | nil => intro a h; simp [wy] at h; simp; omega
  | cons e t ih =>
    intro a h
    obtain ⟨h1, h2, h3, h4⟩ := h
    have := ih h4
    simp; omega
theorem co_bd {b : Bx} {n : Nat} (h : rt b n) (hn : n ≤ 1024) (w1 : 1 ≤ b.wide) (w2 : b.wide ≤ 10000) {z : Nat} {l : List Nat} : ∀ {a : Nat}, wy b n z a l → 0 ≤ co b n a l ∧ co b n a l ≤ 419430400000000 * (l.length : Int) := by
  induction l with
  | nil => intro a h; simp [co]
  | cons e t ih =>
    intro a hw
    obtain ⟨h1, h2, h3, h4⟩ := hw
    have h5 := ih h4
    have h6 := cs_bd h hn w1 w2 (a := a) (e := e) (by omega) h2
    simp only [co, List.length_cons]; push_cast; omega
theorem wy_snoc {b : Bx} {n y z : Nat} (hyz : y < z) (hz : z ≤ n) (hf : ft b y z = true) {l : List Nat} : ∀ {a : Nat}, wy b n y a l → wy b n z a (l ++ [z]) := by
  induction l with
  | nil => intro a h; simp only [wy] at h; subst h; exact ⟨hyz, hz, hf, rfl⟩
  | cons e t ih =>
    intro a h
    obtain ⟨h1, h2, h3, h4⟩ := h
    exact ⟨h1, h2, h3, ih h4⟩
theorem wy_unsnoc {b : Bx} {n z e : Nat} {l : List Nat} : ∀ {a : Nat}, wy b n z a (l ++ [e]) → e = z ∧ z ≤ n ∧ ∃ y, wy b n y a l ∧ y < z ∧ ft b y z = true := by
  induction l with
  | nil =>
    intro a h
    obtain ⟨h1, h2, h3, h4⟩ := h
    simp only [wy] at h4
    subst h4
    exact ⟨rfl, h2, a, rfl, h1, h3⟩
  | cons x t ih =>
    intro a h
    obtain ⟨h1, h2, h3, h4⟩ := h
    obtain ⟨e1, e2, y, e3, e4⟩ := ih h4
    exact ⟨e1, e2, y, ⟨h1, h2, h3, e3⟩, e4⟩
theorem co_snoc {b : Bx} {n y e : Nat} {l : List Nat} : ∀ {a : Nat}, wy b n y a l → co b n a (l ++ [e]) = co b n a l + cs b n y e := by
  induction l with
  | nil => intro a h; simp only [wy] at h; subst h; simp [co]
  | cons x t ih =>
    intro a h
    obtain ⟨h1, h2, h3, h4⟩ := h
    simp only [List.cons_append, co, ih h4]; omega
theorem wy_end {b : Bx} {n : Nat} {l : List Nat} (h : wy b n n n l) : l = [] := by
  cases l with
  | nil => rfl
  | cons e t => obtain ⟨h1, h2, _⟩ := h; omega

/-- Of two lists as long: the first one has the longer line where they first part. -/
def lx : List Nat → List Nat → Bool
  | x :: s, y :: t => if x = y then lx s t else decide (y < x)
  | _, _ => false
/-- The first one is better. -/
def bt (c : Int) (l : List Nat) (d : Int) (m : List Nat) : Bool :=
  if c = d then (if l.length = m.length then lx l m else decide (l.length < m.length)) else decide (c < d)
theorem lx_irr (l : List Nat) : lx l l = false := by
  induction l with
  | nil => rfl
  | cons x s ih => simp [lx, ih]
theorem lx_asym : ∀ {l m : List Nat}, lx l m = true → lx m l = false
  | [], [], h => by simp [lx] at h
  | [], _ :: _, h => by simp [lx] at h
  | _ :: _, [], h => by simp [lx] at h
  | x :: s, y :: t, h => by
    simp only [lx] at h ⊢
    by_cases e : x = y
    · subst e; rw [if_pos rfl] at h ⊢; exact lx_asym h
    · rw [if_neg e] at h; rw [if_neg (fun h2 => e h2.symm)]; simp at h ⊢; omega
theorem lx_neg : ∀ {l m k : List Nat}, l.length = m.length → m.length = k.length → lx l k = true → lx l m = true ∨ lx m k = true
  | [], m, k, _, _, h => by simp [lx] at h
  | x :: s, [], k, h1, _, h => by simp at h1
  | x :: s, y :: t, [], _, h2, h => by simp at h2
  | x :: s, y :: t, u :: v, h1, h2, h => by
    simp only [lx] at h ⊢
    by_cases e : x = y
    · subst e
      rw [if_pos rfl]
      by_cases e2 : x = u
      · subst e2
        rw [if_pos rfl] at h ⊢
        exact lx_neg (by simpa using h1) (by simpa using h2) h
      · rw [if_neg e2] at h ⊢; exact Or.inr h
    · rw [if_neg e]
      by_cases e2 : y = u
      · subst e2; rw [if_neg e] at h; exact Or.inl h
      · rw [if_neg e2]
        by_cases e3 : x = u
        · subst e3; simp; omega
        · rw [if_neg e3] at h; simp at h ⊢; omega
theorem lx_eq : ∀ {l m : List Nat}, l.length = m.length → lx l m = false → lx m l = false → l = m
  | [], [], _, _, _ => rfl
  | [], _ :: _, h, _, _ => by simp at h
  | _ :: _, [], h, _, _ => by simp at h
  | x :: s, y :: t, h, h1, h2 => by
    simp only [lx] at h1 h2
    by_cases e : x = y
    · subst e; rw [if_pos rfl] at h1 h2; rw [lx_eq (by simpa using h) h1 h2]
    · rw [if_neg e] at h1; rw [if_neg (fun h3 => e h3.symm)] at h2; simp at h1 h2; omega
theorem lx_snoc : ∀ {l m : List Nat} {e : Nat}, l.length = m.length → lx (l ++ [e]) (m ++ [e]) = lx l m
  | [], [], e, _ => by simp [lx]
  | [], _ :: _, e, h => by simp at h
  | _ :: _, [], e, h => by simp at h
  | x :: s, y :: t, e, h => by
    simp only [List.cons_append, lx]
    rw [lx_snoc (by simpa using h)]
theorem lx_map {c : Nat} : ∀ {l m : List Nat}, lx (l.map (c + ·)) (m.map (c + ·)) = lx l m
  | [], _ => by simp [lx]
  | _ :: _, [] => by simp [lx]
  | x :: s, y :: t => by
    simp only [List.map_cons, lx]
    rw [lx_map]
    by_cases e : x = y
    · subst e; simp
    · rw [if_neg e, if_neg (by omega)]; simp
theorem bt_irr (c : Int) (l : List Nat) : bt c l c l = false := by unfold bt; rw [if_pos rfl, if_pos rfl, lx_irr]
theorem bt_asym {c d : Int} {l m : List Nat} (h : bt c l d m = true) : bt d m c l = false := by
  unfold bt at h ⊢
  by_cases e : c = d
  · subst e
    rw [if_pos rfl] at h ⊢
    by_cases e2 : l.length = m.length
    · rw [if_pos e2] at h; rw [if_pos e2.symm]; exact lx_asym h
    · rw [if_neg e2] at h; rw [if_neg (fun x => e2 x.symm)]; simp at h ⊢; omega
  · rw [if_neg e] at h; rw [if_neg (fun x => e x.symm)]; simp at h ⊢; omega
theorem bt_neg {c d f : Int} {l m k : List Nat} (h : bt c l f k = true) : bt c l d m = true ∨ bt d m f k = true := by
  unfold bt at h ⊢
  by_cases e : c = d
  · subst e
    rw [if_pos rfl]
    by_cases e1 : c = f
    · subst e1
      rw [if_pos rfl] at h ⊢
      by_cases e2 : l.length = m.length
      · rw [if_pos e2]
        by_cases e3 : m.length = k.length
        · rw [if_pos (by omega)] at h; rw [if_pos e3]; exact lx_neg e2 e3 h
        · rw [if_neg (by omega)] at h; rw [if_neg e3]; right; simp at h ⊢; omega
      · rw [if_neg e2]
        by_cases e3 : m.length = k.length
        · rw [if_neg (by omega)] at h; left; simp at h ⊢; omega
        · rw [if_neg e3]
          by_cases e4 : l.length = k.length
          · simp; omega
          · rw [if_neg e4] at h; simp at h ⊢; omega
    · rw [if_neg e1] at h ⊢; exact Or.inr h
  · rw [if_neg e]
    by_cases e1 : d = f
    · subst e1; rw [if_neg e] at h; exact Or.inl h
    · rw [if_neg e1]
      by_cases e2 : c = f
      · subst e2; simp; omega
      · rw [if_neg e2] at h; simp at h ⊢; omega
theorem bt_trans {c d f : Int} {l m k : List Nat} (h1 : bt c l d m = true) (h2 : bt d m f k = true) : bt c l f k = true := by
  rcases bt_neg (d := f) (m := k) h1 with h | h
  · exact h
  · rw [bt_asym h2] at h; exact absurd h (by decide)
theorem bt_eq {c d : Int} {l m : List Nat} (h1 : bt c l d m = false) (h2 : bt d m c l = false) : c = d ∧ l = m := by
  unfold bt at h1 h2
  by_cases e : c = d
  · subst e
    rw [if_pos rfl] at h1 h2
    by_cases e2 : l.length = m.length
    · rw [if_pos e2] at h1; rw [if_pos e2.symm] at h2; exact ⟨rfl, lx_eq e2 h1 h2⟩
    · rw [if_neg e2] at h1; rw [if_neg (fun x => e2 x.symm)] at h2; simp at h1 h2; omega
  · rw [if_neg e] at h1; rw [if_neg (fun x => e x.symm)] at h2; simp at h1 h2; omega
theorem bt_cons (k c d : Int) (e : Nat) (l m : List Nat) : bt (k + c) (e :: l) (k + d) (e :: m) = bt c l d m := by
  unfold bt
  by_cases e1 : c = d
  · subst e1
    rw [if_pos rfl, if_pos rfl]
    by_cases e2 : l.length = m.length
    · rw [if_pos e2, if_pos (by simp [e2])]; simp [lx]
    · rw [if_neg e2, if_neg (by simpa using e2)]; simp
  · rw [if_neg e1, if_neg (by omega)]; simp
theorem bt_snoc (k c d : Int) (e : Nat) (l m : List Nat) : bt (c + k) (l ++ [e]) (d + k) (m ++ [e]) = bt c l d m := by
  unfold bt
  by_cases e1 : c = d
  · subst e1
    rw [if_pos rfl, if_pos rfl]
    by_cases e2 : l.length = m.length
    · rw [if_pos e2, if_pos (by simp [e2]), lx_snoc e2]
    · rw [if_neg e2, if_neg (by simpa using e2)]; simp
  · rw [if_neg e1, if_neg (by omega)]; simp
theorem bt_map (c d : Int) (k : Nat) (l m : List Nat) : bt c (l.map (k + ·)) d (m.map (k + ·)) = bt c l d m := by
  unfold bt
  rw [List.length_map, List.length_map, lx_map]

/-- The best way from a up to z. -/
def Bst (b : Bx) (n z a : Nat) (l : List Nat) : Prop := wy b n z a l ∧ ∀ m, wy b n z a m → bt (co b n a m) m (co b n a l) l = false
theorem Bst.one {b : Bx} {n z a : Nat} {l m : List Nat} (h1 : Bst b n z a l) (h2 : Bst b n z a m) : l = m :=
  (bt_eq (h2.2 l h1.1) (h1.2 m h2.1)).2
theorem Bst.tail {b : Bx} {n z a e : Nat} {t : List Nat} (h : Bst b n z a (e :: t)) : Bst b n z e t := by
  obtain ⟨⟨h1, h2, h3, h4⟩, h5⟩ := h
  refine ⟨h4, fun m hm => ?_⟩
  have := h5 (e :: m) ⟨h1, h2, h3, hm⟩
  simp only [co] at this
  rw [bt_cons] at this
  exact this
end Go.Proofs.Ytiffppnaaenalag.V.M
