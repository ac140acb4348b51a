/- The codec in plain words: reading. -/
import Derived.Test.YtdlcnbfiklbiiaaCoMath
namespace Go.Proofs.Ytdlcnbfiklbiiaa.Co
set_option linter.unusedVariables false
set_option linter.unusedSimpArgs false

/-- Bits. -/
def bits2 (l : List Nat) : Prop := ∀ x ∈ l, x < 2
theorem bits2.tail {a : Nat} {l : List Nat} (h : bits2 (a :: l)) : bits2 l := fun x hx => h x (List.mem_cons_of_mem _ hx)
theorem bits2.drop {l : List Nat} (h : bits2 l) (n : Nat) : bits2 (l.drop n) := fun x hx => h x (List.mem_of_mem_drop hx)
theorem bits2.take {l : List Nat} (h : bits2 l) (n : Nat) : bits2 (l.take n) := fun x hx => h x (List.mem_of_mem_take hx)
theorem va_cons (b : Nat) (t : List Nat) : va (b :: t) = b * 2 ^ t.length + va t := by
  have e : va (b :: t) = t.foldl (fun a b => 2 * a + b) (2 * 0 + b) := rfl
  rw [e, foldl_va]; simp
theorem bn_add (a n k : Nat) : bn (a * 2 ^ k + n) k = bn n k := by
  have h : ∀ j, j ≤ k → bn (a * 2 ^ k + n) j = bn n j := by
    intro j hj
    induction j with
    | zero => rfl
    | succ j ih =>
      show (_ % 2) :: _ = (_ % 2) :: _
      rw [ih (by omega)]
      congr 1
      have e : a * 2 ^ k = 2 ^ j * (a * 2 ^ (k - j)) := by
        rw [Nat.mul_left_comm, ← Nat.pow_add]; congr 2; omega
      rw [e, Nat.mul_add_div (Nat.two_pow_pos j)]
      have e2 : a * 2 ^ (k - j) = 2 * (a * 2 ^ (k - j - 1)) := by
        rw [Nat.mul_left_comm, ← Nat.pow_succ']; congr 2; omega
      rw [e2]; omega
  exact h k (Nat.le_refl _)
theorem bn_va (l : List Nat) (h : bits2 l) : bn (va l) l.length = l := by
  induction l with
  | nil => rfl
  | cons b t ih =>
    have hv := va_lt t h.tail
    have hb := h b (List.mem_cons_self ..)
    rw [va_cons]
    show ((b * 2 ^ t.length + va t) / 2 ^ t.length % 2) :: bn (b * 2 ^ t.length + va t) t.length = b :: t
    rw [bn_add, ih h.tail, Nat.mul_comm, Nat.mul_add_div (Nat.two_pow_pos _), Nat.div_eq_of_lt hv]
    congr 1; omega
/-- Reading a number of so many bits. -/
def rn (n : Nat) (r : List Nat) : Bool × Nat × List Nat := if n ≤ r.length then (true, va (r.take n), r.drop n) else (false, 0, [])
theorem rn_yes {n : Nat} {r : List Nat} (h : n ≤ r.length) : rn n r = (true, va (r.take n), r.drop n) := if_pos h
theorem rn_no {n : Nat} {r : List Nat} (h : ¬ n ≤ r.length) : rn n r = (false, 0, []) := if_neg h
theorem rn_bits {n : Nat} {r : List Nat} (h : bits2 r) : bits2 (rn n r).2.2 := by
  unfold rn; split
  · exact h.drop n
  · intro x hx; cases hx
theorem rn_lt (n : Nat) (r : List Nat) (h : bits2 r) : (rn n r).2.1 < 2 ^ n := by
  unfold rn; split
  · have := va_lt _ (h.take n)
    rw [List.length_take] at this
    rename_i c
    rw [Nat.min_eq_left c] at this
    exact this
  · exact Nat.two_pow_pos n
theorem rn_sound {n x : Nat} {r r' : List Nat} (hb : bits2 r) (h : rn n r = (true, x, r')) : r = bn x n ++ r' ∧ x < 2 ^ n ∧ bits2 r' := by
  have hlt := rn_lt n r hb
  have hbb := rn_bits (n := n) hb
  rw [h] at hlt hbb
  unfold rn at h
  by_cases c : n ≤ r.length
  · rw [if_pos c] at h
    cases h
    refine ⟨?_, hlt, hbb⟩
    have := bn_va (r.take n) (hb.take n)
    rw [List.length_take, Nat.min_eq_left c] at this
    rw [this, List.take_append_drop]
  · rw [if_neg c] at h; cases h
theorem rn_bn (n x : Nat) (r : List Nat) (h : x < 2 ^ n) : rn n (bn x n ++ r) = (true, x, r) := by
  rw [rn_yes (by rw [List.length_append, bn_len]; omega)]
  have e1 : (bn x n ++ r).take n = bn x n := by rw [List.take_append_of_le_length (by rw [bn_len]; omega), List.take_of_length_le (by rw [bn_len]; omega)]
  have e2 : (bn x n ++ r).drop n = r := by rw [List.drop_append_of_le_length (by rw [bn_len]; omega), List.drop_of_length_le (by rw [bn_len]; omega)]; rfl
  rw [e1, e2, va_bn, Nat.mod_eq_of_lt h]
/-- Reading a folded number by a key: so many rounds are left, so many bits 1 have come. -/
def rf (k : Nat) : Nat → Nat → List Nat → Bool × Nat × List Nat
  | 0, _, r => (false, 0, r)
  | _ + 1, _, [] => (false, 0, [])
  | g + 1, hi, b :: t => if b = 0 then ((rn k t).1, hi * 2 ^ k + (rn k t).2.1, (rn k t).2.2) else rf k g (hi + 1) t
theorem rf_bits {k g hi : Nat} {r : List Nat} (h : bits2 r) : bits2 (rf k g hi r).2.2 := by
  induction g generalizing hi r with
  | zero => exact h
  | succ g ih =>
    cases r with
    | nil => exact h
    | cons b t =>
      unfold rf
      split
      · exact rn_bits h.tail
      · exact ih h.tail
theorem rf_lt {k g hi : Nat} {r : List Nat} (h : bits2 r) : (rf k g hi r).2.1 < (hi + g + 1) * 2 ^ k := by
  induction g generalizing hi r with
  | zero => exact Nat.mul_pos (by omega) (Nat.two_pow_pos k)
  | succ g ih =>
    have hp : 0 < (hi + (g + 1) + 1) * 2 ^ k := Nat.mul_pos (by omega) (Nat.two_pow_pos k)
    cases r with
    | nil => exact hp
    | cons b t =>
      unfold rf
      split
      · have := rn_lt k t h.tail
        simp only
        have e : (hi + (g + 1) + 1) * 2 ^ k = hi * 2 ^ k + (g + 2) * 2 ^ k := by rw [← Nat.add_mul, show hi + (g + 2) = hi + (g + 1) + 1 by omega]
        have e2 : 2 ^ k ≤ (g + 2) * 2 ^ k := Nat.le_mul_of_pos_left _ (by omega)
        omega
      · have := ih (hi := hi + 1) h.tail
        rw [show hi + 1 + g + 1 = hi + (g + 1) + 1 by omega] at this
        exact this
theorem rf_sound {k g hi m : Nat} {r r' : List Nat} (hb : bits2 r) (h : rf k g hi r = (true, m, r')) : ∃ u x, u < g ∧ x < 2 ^ k ∧ m = (hi + u) * 2 ^ k + x ∧ r = List.replicate u 1 ++ (0 :: (bn x k ++ r')) ∧ bits2 r' := by
  induction g generalizing hi r with
  | zero => cases h
  | succ g ih =>
    cases r with
    | nil => cases h
    | cons b t =>
      unfold rf at h
      have hb1 := hb b (List.mem_cons_self ..)
      by_cases c : b = 0
      · rw [if_pos c] at h
        obtain ⟨e1, e2⟩ := Prod.mk.inj h
        obtain ⟨e3, e4⟩ := Prod.mk.inj e2
        have hs := rn_sound (n := k) (x := (rn k t).2.1) (r' := r') hb.tail (by rw [← e1, ← e4])
        exact ⟨0, (rn k t).2.1, by omega, hs.2.1, by rw [← e3, Nat.add_zero], by rw [c]; show 0 :: t = 0 :: _; rw [← hs.1], hs.2.2⟩
      · rw [if_neg c] at h
        obtain ⟨u, x, h1, h2, h3, h4, h5⟩ := ih hb.tail h
        refine ⟨u + 1, x, by omega, h2, by rw [h3, show hi + 1 + u = hi + (u + 1) by omega], ?_, h5⟩
        rw [List.replicate_succ, h4]
        have : b = 1 := by omega
        rw [this]; rfl
theorem rf_fw (k g hi u x : Nat) (r : List Nat) (hu : u < g) (hx : x < 2 ^ k) : rf k g hi (List.replicate u 1 ++ (0 :: (bn x k ++ r))) = (true, (hi + u) * 2 ^ k + x, r) := by
  induction u generalizing g hi with
  | zero =>
    cases g with
    | zero => omega
    | succ g =>
      show rf k (g + 1) hi (0 :: (bn x k ++ r)) = _
      unfold rf
      rw [if_pos rfl, rn_bn k x r hx]
      rfl
  | succ u ih =>
    cases g with
    | zero => omega
    | succ g =>
      show rf k (g + 1) hi (1 :: (List.replicate u 1 ++ (0 :: (bn x k ++ r)))) = _
      unfold rf
      rw [if_neg (by decide), ih g (hi + 1) (by omega), show hi + 1 + u = hi + (u + 1) by omega]
theorem rf_fw' (k g m : Nat) (r : List Nat) (hm : m / 2 ^ k < g) : rf k g 0 (fw m k ++ r) = (true, m, r) := by
  have h := rf_fw k g 0 (m / 2 ^ k) (m % 2 ^ k) r hm (Nat.mod_lt _ (Nat.two_pow_pos k))
  have e : (0 + m / 2 ^ k) * 2 ^ k + m % 2 ^ k = m := by rw [Nat.zero_add, Nat.mul_comm]; exact Nat.div_add_mod m (2 ^ k)
  rw [e] at h
  have e2 : bn (m % 2 ^ k) k = bn m k := by
    have := bn_add (m / 2 ^ k) (m % 2 ^ k) k
    rw [show m / 2 ^ k * 2 ^ k + m % 2 ^ k = m from by rw [Nat.mul_comm]; exact Nat.div_add_mod m (2 ^ k)] at this
    exact this.symm
  rw [e2] at h
  unfold fw
  rw [List.append_assoc]
  exact h
theorem rf_sound' {k g m : Nat} {r r' : List Nat} (hb : bits2 r) (h : rf k g 0 r = (true, m, r')) : r = fw m k ++ r' ∧ bits2 r' := by
  obtain ⟨u, x, h1, h2, h3, h4, h5⟩ := rf_sound hb h
  refine ⟨?_, h5⟩
  rw [Nat.zero_add] at h3
  have e1 : m / 2 ^ k = u := by rw [h3, Nat.mul_comm, Nat.mul_add_div (Nat.two_pow_pos k), Nat.div_eq_of_lt h2]; omega
  have e2 : bn m k = bn x k := by rw [h3]; exact bn_add u x k
  rw [h4]; unfold fw; rw [e1, e2, List.append_assoc]; rfl
/-- The number that folds so. -/
def un (m : Nat) : Int := if m % 2 = 1 then -(((m + 1) / 2 : Nat) : Int) else ((m / 2 : Nat) : Int)
theorem fo_un (m : Nat) : fo (un m) = m := by
  unfold fo un
  by_cases c : m % 2 = 1
  · rw [if_pos c, if_pos (by omega)]; omega
  · rw [if_neg c, if_neg (by omega)]; omega
theorem un_fo (d : Int) : un (fo d) = d := by
  unfold un fo
  by_cases c : d < 0
  · rw [if_pos c, if_pos (by omega)]; omega
  · rw [if_neg c, if_neg (by omega)]; omega
theorem un_in (m : Nat) : -(m : Int) ≤ un m ∧ un m ≤ (m : Int) := by
  unfold un; split <;> omega
/-- A sample. -/
def sok (x : Int) : Bool := decide (-32768 ≤ x) && decide (x ≤ 32767)
theorem sok_iff (x : Int) : sok x = true ↔ inR x := by unfold sok inR; simp
/-- One sample of a frame, read. -/
def r1 (o k : Nat) (out : List Int) (i : Nat) (r : List Nat) : Bool × Int × List Nat :=
  if i < o then ((rn 16 r).1, ((rn 16 r).2.1 : Int) - 32768, (rn 16 r).2.2)
  else ((rf k (524288 / 2 ^ k) 0 r).1 && sok (ge out out.length o + un (rf k (524288 / 2 ^ k) 0 r).2.1), ge out out.length o + un (rf k (524288 / 2 ^ k) 0 r).2.1, (rf k (524288 / 2 ^ k) 0 r).2.2)
/-- So many samples of a frame, read. -/
def rs (o k : Nat) : Nat → List Int → Nat → List Nat → Option (List Int × List Nat)
  | 0, out, _, r => some (out, r)
  | n + 1, out, i, r => if (r1 o k out i r).1 = true then rs o k n (out ++ [(r1 o k out i r).2.1]) (i + 1) (r1 o k out i r).2.2 else none
/-- A frame, read. -/
def rr (out : List Int) (n : Nat) (r : List Nat) : Option (List Int × List Nat) :=
  if (rn 6 r).1 = true then rs ((rn 6 r).2.1 / 16) ((rn 6 r).2.1 % 16) n out 0 (rn 6 r).2.2 else none
/-- Frames, read, until there are so many samples. -/
def ra (many : Nat) : Nat → List Int → List Nat → Option (List Int × List Nat)
  | 0, out, r => some (out, r)
  | g + 1, out, r => if out.length < many then (match rr out (min (many - out.length) 256) r with | some (out', r') => ra many g out' r' | none => none) else some (out, r)
end Go.Proofs.Ytdlcnbfiklbiiaa.Co
