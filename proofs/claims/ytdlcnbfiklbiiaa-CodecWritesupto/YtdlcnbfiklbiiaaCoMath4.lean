/- The codec in plain words: the document's reading is the program's. -/
import Derived.Test.YtdlcnbfiklbiiaaCo24
namespace Go.Proofs.Ytdlcnbfiklbiiaa.Co
set_option linter.unusedVariables false
set_option linter.unusedSimpArgs false

/-- take. -/
def tk (l : List Nat) (at' n : Nat) : Nat × Nat × Bool := if at' + n ≤ l.length then (va ((l.drop at').take n), at' + n, true) else (0, at', false)
theorem tk_yes {l : List Nat} {a n : Nat} (h : a + n ≤ l.length) : tk l a n = (va ((l.drop a).take n), a + n, true) := if_pos h
theorem tk_no {l : List Nat} {a n : Nat} (h : ¬ a + n ≤ l.length) : tk l a n = (0, a, false) := if_neg h
theorem tk_rn (l : List Nat) (a n : Nat) (ha : a ≤ l.length) : (tk l a n).2.2 = (rn n (l.drop a)).1 ∧ (tk l a n).1 = (rn n (l.drop a)).2.1 ∧ ((tk l a n).2.2 = true → l.drop (tk l a n).2.1 = (rn n (l.drop a)).2.2) := by
  by_cases c : a + n ≤ l.length
  · rw [tk_yes c, rn_yes (by rw [List.length_drop]; omega)]
    exact ⟨rfl, rfl, fun _ => by rw [List.drop_drop]⟩
  · rw [tk_no c, rn_no (by rw [List.length_drop]; omega)]
    exact ⟨rfl, rfl, fun h => by cases h⟩
theorem tk_le (l : List Nat) (a n : Nat) (ha : a ≤ l.length) : (tk l a n).2.1 ≤ l.length ∧ a ≤ (tk l a n).2.1 := by
  by_cases c : a + n ≤ l.length
  · rw [tk_yes c]; exact ⟨c, by show a ≤ a + n; omega⟩
  · rw [tk_no c]; exact ⟨ha, Nat.le_refl _⟩
theorem tk_lt (l : List Nat) (a n : Nat) (hb : bits2 l) : (tk l a n).1 < 2 ^ n := by
  by_cases c : a + n ≤ l.length
  · rw [tk_yes c]
    have := va_lt _ ((hb.drop a).take n)
    rw [List.length_take, List.length_drop, Nat.min_eq_left (by omega)] at this
    exact this
  · rw [tk_no c]; exact Nat.two_pow_pos n
/-- Bits 1 from a place on. -/
structure On (l : List Nat) (a u : Nat) : Prop where
  le : a + u ≤ l.length
  one : ∀ i, i < u → l.getD (a + i) 0 = 1
theorem On.drop {l : List Nat} {a u : Nat} (h : On l a u) : l.drop a = List.replicate u 1 ++ l.drop (a + u) := by
  induction u with
  | zero => rfl
  | succ u ih =>
    have h2 : On l a u := ⟨by have := h.le; omega, fun i hi => h.one i (by omega)⟩
    have h1 := h.one u (by omega)
    have hl := h.le
    rw [ih h2, List.replicate_succ', List.append_assoc]
    congr 1
    rw [List.drop_eq_getElem_cons (show a + u < l.length by omega)]
    rw [List.getD_eq_getElem?_getD, List.getElem?_eq_getElem (show a + u < l.length by omega)] at h1
    have h3 : l[a + u] = 1 := h1
    rw [h3]; rfl
theorem rf_long (k : Nat) (r : List Nat) : ∀ (g u hi : Nat), g ≤ u → (rf k g hi (List.replicate u 1 ++ r)).1 = false := by
  intro g
  induction g with
  | zero => intro u hi h; rfl
  | succ g ih =>
    intro u hi h
    obtain ⟨v, rfl⟩ : ∃ v, u = v + 1 := ⟨u - 1, by omega⟩
    show (rf k (g + 1) hi (1 :: (List.replicate v 1 ++ r))).1 = false
    unfold rf
    rw [if_neg (by decide)]
    exact ih v (hi + 1) (by omega)
theorem rf_end (k : Nat) : ∀ (g u hi : Nat), (rf k g hi (List.replicate u 1)).1 = false := by
  intro g
  induction g with
  | zero => intro u hi; rfl
  | succ g ih =>
    intro u hi
    cases u with
    | zero => rfl
    | succ v =>
      show (rf k (g + 1) hi (1 :: List.replicate v 1)).1 = false
      unfold rf
      rw [if_neg (by decide)]
      exact ih v (hi + 1)
theorem rf_short (k : Nat) (t : List Nat) : ∀ (g u hi : Nat), u < g → rf k g hi (List.replicate u 1 ++ 0 :: t) = ((rn k t).1, (hi + u) * 2 ^ k + (rn k t).2.1, (rn k t).2.2) := by
  intro g
  induction g with
  | zero => intro u hi h; omega
  | succ g ih =>
    intro u hi h
    cases u with
    | zero =>
      show rf k (g + 1) hi (0 :: t) = _
      unfold rf
      rw [if_pos rfl]; rfl
    | succ v =>
      show rf k (g + 1) hi (1 :: (List.replicate v 1 ++ 0 :: t)) = _
      unfold rf
      rw [if_neg (by decide), ih v (hi + 1) (by omega), show hi + 1 + v = hi + (v + 1) by omega]
/-- rice, when so many bits 1 come first. -/
def ri (l : List Nat) (a k u : Nat) : Nat × Nat × Bool := if a + u = l.length then (0, a + u, false) else (u * 2 ^ k + (tk l (a + u + 1) k).1, (tk l (a + u + 1) k).2.1, (tk l (a + u + 1) k).2.2)
/-- So many and no more. -/
structure Ones (l : List Nat) (a u : Nat) : Prop where
  on : On l a u
  no : a + u < l.length → l.getD (a + u) 0 ≠ 1
theorem Ones.drop {l : List Nat} {a u : Nat} (h : Ones l a u) (hb : bits2 l) (hl : a + u ≠ l.length) : l.drop a = List.replicate u 1 ++ 0 :: l.drop (a + u + 1) := by
  rw [h.on.drop]
  congr 1
  have hle := h.on.le
  have hlt : a + u < l.length := by omega
  have h1 := h.no hlt
  have h2 := getD_lt2 l hb (a + u)
  rw [List.drop_eq_getElem_cons hlt]
  rw [List.getD_eq_getElem?_getD, List.getElem?_eq_getElem hlt] at h1 h2
  have h3 : l[a + u] = 0 := by
    have e1 : l[a + u] ≠ 1 := h1
    have e2 : l[a + u] < 2 := h2
    omega
  rw [h3]
theorem g15 (k : Nat) (hk : k ≤ 15) : 524288 / 2 ^ k * 2 ^ k = 524288 := by
  have : k = 0 ∨ k = 1 ∨ k = 2 ∨ k = 3 ∨ k = 4 ∨ k = 5 ∨ k = 6 ∨ k = 7 ∨ k = 8 ∨ k = 9 ∨ k = 10 ∨ k = 11 ∨ k = 12 ∨ k = 13 ∨ k = 14 ∨ k = 15 := by omega
  rcases this with h | h | h | h | h | h | h | h | h | h | h | h | h | h | h | h <;> subst h <;> decide
theorem un_far (m : Nat) (g : Int) (hm : 524288 ≤ m) (h1 : -229376 ≤ g) (h2 : g ≤ 229376) : sok (g + un m) = false := by
  have : ¬ sok (g + un m) = true := by
    rw [sok_iff]
    unfold un inR
    split <;> omega
  simpa using this
/-- The document's number and the program's tell of the same sample. -/
theorem ri_rf (l : List Nat) (a k u : Nat) (g : Int) (hb : bits2 l) (h : Ones l a u) (hk : k ≤ 15) (h1 : -229376 ≤ g) (h2 : g ≤ 229376) :
    ((ri l a k u).2.2 && sok (g + un (ri l a k u).1)) = ((rf k (524288 / 2 ^ k) 0 (l.drop a)).1 && sok (g + un (rf k (524288 / 2 ^ k) 0 (l.drop a)).2.1)) ∧
    (((ri l a k u).2.2 && sok (g + un (ri l a k u).1)) = true → (ri l a k u).1 = (rf k (524288 / 2 ^ k) 0 (l.drop a)).2.1 ∧ l.drop (ri l a k u).2.1 = (rf k (524288 / 2 ^ k) 0 (l.drop a)).2.2) := by
  by_cases c : a + u = l.length
  · have e1 : (ri l a k u).2.2 = false := by unfold ri; rw [if_pos c]
    have e2 : (rf k (524288 / 2 ^ k) 0 (l.drop a)).1 = false := by
      rw [h.on.drop, c, List.drop_of_length_le (Nat.le_refl _), List.append_nil]
      exact rf_end _ _ _ _
    rw [e1, e2]
    exact ⟨rfl, fun h => by cases h⟩
  · have hd := h.drop hb c
    have hle := h.on.le
    have et := tk_rn l (a + u + 1) k (by omega)
    by_cases d : u < 524288 / 2 ^ k
    · have e2 := rf_short k (l.drop (a + u + 1)) (524288 / 2 ^ k) u 0 d
      rw [← hd] at e2
      have e1 : ri l a k u = (u * 2 ^ k + (tk l (a + u + 1) k).1, (tk l (a + u + 1) k).2.1, (tk l (a + u + 1) k).2.2) := if_neg c
      rw [e1, e2, Nat.zero_add]
      simp only
      rw [et.1, et.2.1]
      refine ⟨rfl, fun hh => ⟨rfl, ?_⟩⟩
      have hq := (Bool.and_eq_true _ _ ▸ hh).1
      exact et.2.2 (by rw [et.1]; exact hq)
    · have e2 : (rf k (524288 / 2 ^ k) 0 (l.drop a)).1 = false := by
        rw [hd]; exact rf_long k _ _ _ _ (by omega)
      have e1 : sok (g + un (ri l a k u).1) = false := by
        refine un_far _ g ?_ h1 h2
        have e3 : ri l a k u = (u * 2 ^ k + (tk l (a + u + 1) k).1, (tk l (a + u + 1) k).2.1, (tk l (a + u + 1) k).2.2) := if_neg c
        rw [e3]
        show 524288 ≤ u * 2 ^ k + _
        have h4 : 524288 / 2 ^ k * 2 ^ k ≤ u * 2 ^ k := Nat.mul_le_mul_right _ (by omega)
        rw [g15 k hk] at h4
        omega
      rw [e1, e2, Bool.and_false, Bool.false_and]
      exact ⟨rfl, fun h => by cases h⟩
theorem ri_le (l : List Nat) (a k u : Nat) (h : On l a u) : (ri l a k u).2.1 ≤ l.length := by
  unfold ri
  have := h.le
  by_cases c : a + u = l.length
  · rw [if_pos c]; exact h.le
  · rw [if_neg c]; exact (tk_le l _ k (by omega)).1
theorem ri_lt (l : List Nat) (a k u : Nat) (hb : bits2 l) (h : On l a u) (hk : k ≤ 15) : (ri l a k u).1 < (l.length + 1) * 32768 := by
  unfold ri
  have hle := h.le
  have h2 : 2 ^ k ≤ 32768 := Nat.pow_le_pow_right (n := 2) (by omega) hk
  by_cases c : a + u = l.length
  · rw [if_pos c]; show 0 < _; omega
  · rw [if_neg c]
    have h1 := tk_lt l (a + u + 1) k hb
    show u * 2 ^ k + _ < _
    have h3 : u * 2 ^ k ≤ u * 32768 := Nat.mul_le_mul_left _ h2
    have h4 : u * 32768 ≤ l.length * 32768 := Nat.mul_le_mul_right _ (by omega)
    omega
end Go.Proofs.Ytdlcnbfiklbiiaa.Co
