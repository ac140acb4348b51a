/- The codec in plain words: bits of numbers, bytes of bits, frames, which code is the shortest. -/
import Derived.Test.YtdlcnbfiklbiiaaProg
import Derived.WalkKit
namespace Go.Proofs.Ytdlcnbfiklbiiaa.Co
set_option linter.unusedVariables false
set_option linter.unusedSimpArgs false

/-- The lowest k bits of n, the highest first. -/
def bn (n : Nat) : Nat → List Nat
  | 0 => []
  | k + 1 => (n / 2 ^ k % 2) :: bn n k
theorem bn_len (n k : Nat) : (bn n k).length = k := by
  induction k with
  | zero => rfl
  | succ k ih => simp [bn, ih]
theorem bn_lt (n k : Nat) : ∀ x ∈ bn n k, x < 2 := by
  induction k with
  | zero => intro x hx; cases hx
  | succ k ih =>
    intro x hx
    rcases List.mem_cons.1 hx with rfl | h
    · omega
    · exact ih x h
theorem bn_get (n k i : Nat) (h : i < k) : (bn n k)[i]? = some (n / 2 ^ (k - 1 - i) % 2) := by
  induction k generalizing i with
  | zero => omega
  | succ k ih =>
    cases i with
    | zero => simp [bn]
    | succ i =>
      show (bn n k)[i]? = _
      rw [ih i (by omega)]
      rw [show k - 1 - i = k + 1 - 1 - (i + 1) by omega]
/-- What bits say, the highest first. -/
def va (l : List Nat) : Nat := l.foldl (fun a b => 2 * a + b) 0
theorem foldl_va (l : List Nat) (a : Nat) : l.foldl (fun a b => 2 * a + b) a = a * 2 ^ l.length + va l := by
  unfold va
  induction l generalizing a with
  | nil => simp
  | cons x t ih =>
    rw [List.foldl_cons, ih, List.foldl_cons, ih (2 * 0 + x), List.length_cons, Nat.pow_succ, Nat.add_mul]
    have e : 2 * a * 2 ^ t.length = a * (2 ^ t.length * 2) := by rw [Nat.mul_comm 2 a, Nat.mul_assoc, Nat.mul_comm 2]
    rw [e]; simp; omega
theorem va_snoc (l : List Nat) (b : Nat) : va (l ++ [b]) = 2 * va l + b := by
  unfold va; rw [List.foldl_append]; rfl
theorem va_bn (n k : Nat) : va (bn n k) = n % 2 ^ k := by
  induction k with
  | zero => simp [bn, va]; omega
  | succ k ih =>
    have h := foldl_va (bn n k) (n / 2 ^ k % 2)
    have e : va (bn n (k + 1)) = (bn n k).foldl (fun a b => 2 * a + b) (n / 2 ^ k % 2) := by
      show (bn n k).foldl _ (2 * 0 + _) = _
      simp
    rw [e, h, ih, bn_len, Nat.pow_succ, Nat.mod_mul, Nat.mul_comm]
    omega
theorem va_lt (l : List Nat) (h : ∀ x ∈ l, x < 2) : va l < 2 ^ l.length := by
  induction l with
  | nil => decide
  | cons x t ih =>
    have e := foldl_va t (2 * 0 + x)
    have e2 : va (x :: t) = t.foldl (fun a b => 2 * a + b) (2 * 0 + x) := rfl
    have h1 := ih (fun y hy => h y (List.mem_cons_of_mem _ hy))
    have h2 := h x (List.mem_cons_self ..)
    rw [e2, e, List.length_cons, Nat.pow_succ]
    have : x * 2 ^ t.length ≤ 1 * 2 ^ t.length := Nat.mul_le_mul_right _ (by omega)
    simp; omega
/-- The byte of the first eight bits; noughts behind them. -/
def b8 (l : List Nat) : Nat := 128 * l.getD 0 0 + 64 * l.getD 1 0 + 32 * l.getD 2 0 + 16 * l.getD 3 0 + 8 * l.getD 4 0 + 4 * l.getD 5 0 + 2 * l.getD 6 0 + l.getD 7 0
/-- The bytes of bits. -/
def pk (l : List Nat) : List Nat := (List.range ((l.length + 7) / 8)).map fun j => b8 (l.drop (8 * j))
theorem pk_len (l : List Nat) : (pk l).length = (l.length + 7) / 8 := by unfold pk; simp
theorem b8_app (l m : List Nat) (h : 8 ≤ l.length) : b8 (l ++ m) = b8 l := by
  unfold b8
  simp only [List.getD_eq_getElem?_getD]
  repeat rw [List.getElem?_append_left (by omega)]
theorem pk_get (l : List Nat) (j : Nat) (h : j < (l.length + 7) / 8) : (pk l)[j]? = some (b8 (l.drop (8 * j))) := by
  unfold pk
  rw [List.getElem?_map, List.getElem?_range h]; rfl
theorem b8_one (b : Nat) : b8 [b] = 128 * b := by simp [b8]
theorem pk_new (l : List Nat) (b : Nat) (h : l.length % 8 = 0) : pk (l ++ [b]) = pk l ++ [128 * b] := by
  refine List.ext_getElem? (fun j => ?_)
  have hl : (l ++ [b]).length = l.length + 1 := by simp
  by_cases c : j < (l.length + 7) / 8
  · rw [pk_get _ _ (by rw [hl]; omega), List.getElem?_append_left (by rw [pk_len]; exact c), pk_get _ _ c, List.drop_append_of_le_length (by omega), b8_app _ _ (by rw [List.length_drop]; omega)]
  · by_cases d : j = (l.length + 7) / 8
    · subst d
      rw [pk_get _ _ (by rw [hl]; omega), List.getElem?_append_right (by rw [pk_len]; omega), pk_len]
      have e : 8 * ((l.length + 7) / 8) = l.length := by omega
      rw [e]; simp [b8_one]
    · rw [List.getElem?_eq_none (by rw [pk_len, hl]; omega), List.getElem?_eq_none (by simp [pk_len]; omega)]
/-- The last byte, where it isn't full: what one more bit makes of it. -/
theorem b8_snoc (l : List Nat) (b : Nat) (h : l.length < 8) : b8 (l ++ [b]) = b8 l + b * 2 ^ (7 - l.length) := by
  match l, h with
  | [], _ => simp [b8]; omega
  | [a0], _ => simp [b8]; omega
  | [a0, a1], _ => simp [b8]; omega
  | [a0, a1, a2], _ => simp [b8]; omega
  | [a0, a1, a2, a3], _ => simp [b8]; omega
  | [a0, a1, a2, a3, a4], _ => simp [b8]; omega
  | [a0, a1, a2, a3, a4, a5], _ => simp [b8]; omega
  | [a0, a1, a2, a3, a4, a5, a6], _ => simp [b8]
theorem b8_mod (l : List Nat) (h : l.length < 8) : b8 l % 2 ^ (8 - l.length) = 0 := by
  match l, h with
  | [], _ => simp [b8]
  | [a0], _ => simp [b8]
  | [a0, a1], _ => simp [b8]; omega
  | [a0, a1, a2], _ => simp [b8]; omega
  | [a0, a1, a2, a3], _ => simp [b8]; omega
  | [a0, a1, a2, a3, a4], _ => simp [b8]; omega
  | [a0, a1, a2, a3, a4, a5], _ => simp [b8]; omega
  | [a0, a1, a2, a3, a4, a5, a6], _ => simp [b8]; omega
theorem getD_lt2 (l : List Nat) (h : ∀ x ∈ l, x < 2) (i : Nat) : l.getD i 0 < 2 := by
  rw [List.getD_eq_getElem?_getD]
  cases e : l[i]? with
  | none => decide
  | some x => exact h x (List.mem_of_getElem? e)
theorem b8_lt (l : List Nat) (h : ∀ x ∈ l, x < 2) : b8 l < 256 := by
  have g := getD_lt2 l h
  have g0 := g 0; have g1 := g 1; have g2 := g 2; have g3 := g 3; have g4 := g 4; have g5 := g 5; have g6 := g 6; have g7 := g 7
  unfold b8; omega
theorem pk_more (l : List Nat) (b : Nat) (h : l.length % 8 ≠ 0) : pk (l ++ [b]) = (pk l).set (l.length / 8) (b8 (l.drop (8 * (l.length / 8))) + b * 2 ^ (7 - l.length % 8)) := by
  refine List.ext_getElem? (fun j => ?_)
  have hl : (l ++ [b]).length = l.length + 1 := by simp
  by_cases c : j < (l.length + 7) / 8
  · rw [pk_get _ _ (by rw [hl]; omega)]
    by_cases d : j = l.length / 8
    · subst d
      rw [List.getElem?_set_self (by rw [pk_len]; exact c), List.drop_append_of_le_length (by omega), b8_snoc _ _ (by rw [List.length_drop]; omega), List.length_drop]
      rw [show 7 - (l.length - 8 * (l.length / 8)) = 7 - l.length % 8 by omega]
    · rw [List.getElem?_set_ne (by omega), pk_get _ _ c, List.drop_append_of_le_length (by omega), b8_app _ _ (by rw [List.length_drop]; omega)]
  · rw [List.getElem?_eq_none (by rw [pk_len, hl]; omega), List.getElem?_eq_none (by rw [List.length_set, pk_len]; omega)]
theorem pk_lt (l : List Nat) (h : ∀ x ∈ l, x < 2) : ∀ x ∈ pk l, x < 256 := by
  intro x hx
  unfold pk at hx
  obtain ⟨j, _, rfl⟩ := List.mem_map.1 hx
  exact b8_lt _ (fun y hy => h y (List.mem_of_mem_drop hy))

/-- Numbers on either side of nought, folded. -/
def fo (d : Int) : Nat := if d < 0 then (-2 * d - 1).toNat else (2 * d).toNat
/-- What is guessed of place i. -/
def ge (f : List Int) (i o : Nat) : Int := if o = 1 then f.getD (i - 1) 0 else if o = 2 then 2 * f.getD (i - 1) 0 - f.getD (i - 2) 0 else if o = 3 then 3 * f.getD (i - 1) 0 - 3 * f.getD (i - 2) 0 + f.getD (i - 3) 0 else 0
/-- What is told of the samples from o on up to n. -/
def fa (f : List Int) (o n : Nat) : List Nat := (List.range (n - o)).map fun j => fo (f.getD (o + j) 0 - ge f (o + j) o)
def fal (f : List Int) (o : Nat) : List Nat := fa f o f.length
theorem fa_self (f : List Int) (o n : Nat) (h : n ≤ o) : fa f o n = [] := by unfold fa; rw [show n - o = 0 by omega]; rfl
theorem fa_step (f : List Int) (o n : Nat) (h : o ≤ n) : fa f o (n + 1) = fa f o n ++ [fo (f.getD n 0 - ge f n o)] := by
  unfold fa
  rw [show n + 1 - o = (n - o) + 1 by omega, List.range_succ, List.map_append]
  simp only [List.map_cons, List.map_nil]
  rw [show o + (n - o) = n by omega]
theorem fa_len (f : List Int) (o n : Nat) : (fa f o n).length = n - o := by unfold fa; simp
/-- A folded number by a key. -/
def fw (m k : Nat) : List Nat := List.replicate (m / 2 ^ k) 1 ++ (0 :: bn m k)
theorem fw_len (m k : Nat) : (fw m k).length = m / 2 ^ k + (1 + k) := by unfold fw; simp [bn_len]; omega
/-- A sample as itself. -/
def sw (x : Int) : List Nat := bn (x + 32768).toNat 16
/-- A frame's bits by an order and a key. -/
def fr (f : List Int) (o k : Nat) : List Nat := bn o 2 ++ (bn k 4 ++ ((f.take o).flatMap sw ++ (fal f o).flatMap fun m => fw m k))
/-- How many bits the folded numbers have. -/
def fb (l : List Nat) (k : Nat) : Nat := (l.map fun m => m / 2 ^ k + (1 + k)).sum
/-- How many bits a frame has, but for its order and its key. -/
def lg (f : List Int) (o k : Nat) : Nat := 16 * min o f.length + fb (fal f o) k
theorem fr_len (f : List Int) (o k : Nat) : (fr f o k).length = 6 + lg f o k := by
  unfold fr lg fb
  rw [List.length_append, List.length_append, List.length_append, bn_len, bn_len, List.length_flatMap, List.length_flatMap]
  have e1 : ((f.take o).map fun x => (sw x).length).sum = 16 * min o f.length := by
    rw [show (f.take o).map (fun x => (sw x).length) = (f.take o).map (fun _ => 16) from List.map_congr_left (fun x _ => bn_len _ _)]
    rw [List.map_const', List.sum_replicate_nat, List.length_take]; omega
  rw [e1]
  have e2 : (fal f o).map (fun m => (fw m k).length) = (fal f o).map (fun m => m / 2 ^ k + (1 + k)) := List.map_congr_left (fun m _ => fw_len m k)
  rw [e2]; omega
/-- The best of the first n tries. -/
def bs (f : List Int) : Nat → Nat × Nat
  | 0 => (0, 0)
  | n + 1 => if lg f (n / 16) (n % 16) < lg f (bs f n).1 (bs f n).2 then (n / 16, n % 16) else bs f n
theorem bs_one (f : List Int) : bs f 1 = (0, 0) := by simp [bs]
theorem bs_le (f : List Int) (n i : Nat) (h : i < n) : lg f (bs f n).1 (bs f n).2 ≤ lg f (i / 16) (i % 16) := by
  induction n with
  | zero => omega
  | succ n ih =>
    unfold bs
    by_cases c : lg f (n / 16) (n % 16) < lg f (bs f n).1 (bs f n).2
    · rw [if_pos c]
      by_cases d : i = n
      · subst d; exact Nat.le_refl _
      · have := ih (by omega); simp only; omega
    · rw [if_neg c]
      by_cases d : i = n
      · subst d; omega
      · exact ih (by omega)
theorem bs_ok (f : List Int) (n : Nat) (h : n ≤ 64) : (bs f n).1 < 4 ∧ (bs f n).2 < 16 := by
  induction n with
  | zero => simp [bs]
  | succ n ih =>
    have := ih (by omega)
    unfold bs
    split
    · simp only; omega
    · exact this
def be (f : List Int) : Nat × Nat := bs f 64
theorem be_ok (f : List Int) : (be f).1 < 4 ∧ (be f).2 < 16 := bs_ok f 64 (by omega)
theorem be_le (f : List Int) (o k : Nat) (ho : o < 4) (hk : k < 16) : lg f (be f).1 (be f).2 ≤ lg f o k := by
  have h := bs_le f 64 (16 * o + k) (by omega)
  rw [show (16 * o + k) / 16 = o by omega, show (16 * o + k) % 16 = k by omega] at h
  exact h
/-- A frame as it is written. -/
def fx (f : List Int) : List Nat := fr f (be f).1 (be f).2
/-- The n-th frame. -/
def ch (l : List Int) (n : Nat) : List Int := (l.drop (256 * n)).take 256
/-- The bits of the first n frames. -/
def fz (l : List Int) (n : Nat) : List Nat := (List.range n).flatMap fun j => fx (ch l j)
theorem fz_step (l : List Int) (n : Nat) : fz l (n + 1) = fz l n ++ fx (ch l n) := by
  unfold fz; rw [List.range_succ, List.flatMap_append]; simp
def nf (l : List Int) : Nat := (l.length + 255) / 256
/-- All bits. -/
def en (l : List Int) : List Nat := bn l.length 24 ++ fz l (nf l)
def inR (x : Int) : Prop := -32768 ≤ x ∧ x ≤ 32767
theorem fo_lt (d : Int) (N : Nat) (h1 : -(N : Int) ≤ d) (h2 : d < N) : fo d < 2 * N := by
  unfold fo; split <;> omega
theorem getD_in (f : List Int) (h : ∀ x ∈ f, inR x) (i : Nat) : -32768 ≤ f.getD i 0 ∧ f.getD i 0 ≤ 32767 := by
  rw [List.getD_eq_getElem?_getD]
  cases e : f[i]? with
  | none => exact ⟨by decide, by decide⟩
  | some x => exact h x (List.mem_of_getElem? e)
theorem ge_in (f : List Int) (h : ∀ x ∈ f, inR x) (i o : Nat) : -229376 ≤ ge f i o ∧ ge f i o ≤ 229376 := by
  have a := getD_in f h (i - 1); have b := getD_in f h (i - 2); have c := getD_in f h (i - 3)
  unfold ge
  split
  · omega
  · split
    · omega
    · split <;> omega
theorem fa_lt (f : List Int) (h : ∀ x ∈ f, inR x) (o n : Nat) : ∀ m ∈ fa f o n, m < 524288 := by
  intro m hm
  unfold fa at hm
  obtain ⟨j, _, rfl⟩ := List.mem_map.1 hm
  have a := getD_in f h (o + j); have b := ge_in f h (o + j) o
  exact fo_lt _ 262144 (by omega) (by omega)
end Go.Proofs.Ytdlcnbfiklbiiaa.Co
