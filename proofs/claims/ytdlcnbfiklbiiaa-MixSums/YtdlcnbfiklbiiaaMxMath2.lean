/- Tracks added up, in plain words: in whatever order they stand, the same is heard. -/
import Derived.Test.YtdlcnbfiklbiiaaMxMath
namespace Go.Proofs.Ytdlcnbfiklbiiaa.Mx
set_option linter.unusedSimpArgs false
set_option linter.unusedVariables false

/-- A track and its gain. -/
abbrev Tr := List Int × Int
def at0 (t : List Int) (k : Nat) : Int := t.getD k 0
def tot : List Tr → Nat → Int
  | [], _ => 0
  | t :: ts, k => t.2 * at0 t.1 k + tot ts k
def lng : List Tr → Nat
  | [] => 0
  | t :: ts => max t.1.length (lng ts)
def tok (t : Tr) : Bool := inB 1048576 t.2 && inR 16777216 t.1
def sums (ts : List Tr) : List Int := (List.range (lng ts)).map (tot ts)
theorem sums_len (ts : List Tr) : (sums ts).length = lng ts := by simp [sums]
theorem tot_app (a b : List Tr) (k : Nat) : tot (a ++ b) k = tot a k + tot b k := by
  induction a with
  | nil => simp [tot]
  | cons x a ih => show x.2 * at0 x.1 k + tot (a ++ b) k = x.2 * at0 x.1 k + tot a k + tot b k; omega
theorem lng_app (a b : List Tr) : lng (a ++ b) = max (lng a) (lng b) := by
  induction a with
  | nil => simp [lng]
  | cons x a ih => show max x.1.length (lng (a ++ b)) = max (max x.1.length (lng a)) (lng b); omega
theorem tot_perm {a b : List Tr} (h : a.Perm b) (k : Nat) : tot a k = tot b k := by
  induction h with
  | nil => rfl
  | cons x _ ih => show x.2 * at0 x.1 k + _ = x.2 * at0 x.1 k + _; rw [ih]
  | swap x y l => show y.2 * at0 y.1 k + (x.2 * at0 x.1 k + tot l k) = x.2 * at0 x.1 k + (y.2 * at0 y.1 k + tot l k); omega
  | trans _ _ h1 h2 => exact h1.trans h2
theorem lng_perm {a b : List Tr} (h : a.Perm b) : lng a = lng b := by
  induction h with
  | nil => rfl
  | cons x _ ih => show max x.1.length _ = max x.1.length _; rw [ih]
  | swap x y l => show max y.1.length (max x.1.length (lng l)) = max x.1.length (max y.1.length (lng l)); omega
  | trans _ _ h1 h2 => exact h1.trans h2
theorem tok_perm {a b : List Tr} (h : a.Perm b) : a.all tok = b.all tok := by
  induction h with
  | nil => rfl
  | cons x _ ih => simp only [List.all_cons, ih]
  | swap x y l => simp only [List.all_cons]; rw [← Bool.and_assoc, ← Bool.and_assoc, Bool.and_comm (tok y)]
  | trans _ _ h1 h2 => exact h1.trans h2
/-- A list without doubles is as long as another one that has all of it: it is that one in another order. -/
theorem perm_of {α : Type} [DecidableEq α] : ∀ (l m : List α), l.Nodup → (∀ x ∈ l, x ∈ m) → l.length = m.length → l.Perm m := by
  intro l
  induction l with
  | nil => intro m _ _ h3; rw [List.eq_nil_of_length_eq_zero (l := m) h3.symm]
  | cons a l ih =>
    intro m h1 h2 h3
    have ha : a ∈ m := h2 a (by simp)
    have hn := List.nodup_cons.1 h1
    have hp := List.perm_cons_erase ha
    refine (List.Perm.cons a (ih (m.erase a) hn.2 (fun x hx => ?_) ?_)).trans hp.symm
    · exact (List.mem_erase_of_ne (fun e => hn.1 (by rw [← e]; exact hx))).2 (h2 x (by simp [hx]))
    · have := List.length_erase_of_mem ha
      simp at h3
      have hm : 0 < m.length := List.length_pos_of_mem ha
      omega
/-- The tracks in the order that is asked for. -/
def inOrd (ts : List Tr) (o : List Nat) : List Tr := o.map fun i => ts.getD i ([], 0)
theorem range_get (ts : List Tr) : inOrd ts (List.range ts.length) = ts := by
  refine List.ext_getElem? fun i => ?_
  unfold inOrd
  rw [List.getElem?_map]
  by_cases h : i < ts.length
  · rw [List.getElem?_range h]
    simp [List.getD_eq_getElem?_getD, List.getElem?_eq_getElem h]
  · rw [List.getElem?_eq_none (by simp; omega), List.getElem?_eq_none (by omega)]; rfl
theorem inOrd_perm {ts : List Tr} {o : List Nat} (h1 : o.Nodup) (h2 : ∀ i ∈ o, i < ts.length) (h3 : o.length = ts.length) : (inOrd ts o).Perm ts := by
  have hp := perm_of o (List.range ts.length) h1 (fun x hx => List.mem_range.2 (h2 x hx)) (by simp [h3])
  have := hp.map (fun i => ts.getD i (([], 0) : Tr))
  rw [show (List.range ts.length).map (fun i => ts.getD i (([], 0) : Tr)) = ts from range_get ts] at this
  exact this
/-- A track cut in two: the first half, and the second one behind silence. -/
def sec (t : List Int) (n : Nat) : List Int := List.replicate n 0 ++ t.drop n
theorem at0_take (t : List Int) (n k : Nat) : at0 (t.take n) k = if k < n then at0 t k else 0 := by
  unfold at0
  simp only [List.getD_eq_getElem?_getD, List.getElem?_take]
  split <;> simp
theorem at0_sec (t : List Int) (n k : Nat) : at0 (sec t n) k = if k < n then 0 else at0 t k := by
  unfold at0 sec
  simp only [List.getD_eq_getElem?_getD]
  by_cases h : k < n
  · rw [if_pos h, List.getElem?_append_left (by simpa using h)]; simp [h]
  · rw [if_neg h, List.getElem?_append_right (by simp; omega)]
    simp only [List.length_replicate, List.getElem?_drop]
    rw [show n + (k - n) = k by omega]
theorem sec_len {t : List Int} {n : Nat} (h : n ≤ t.length) : (sec t n).length = t.length := by
  unfold sec; simp; omega
/-- The tracks behind the cut. -/
def cutT (l : List Tr) (n : Nat) : List Tr :=
  match l with
  | [] => []
  | t :: r => (t.1.take n, t.2) :: r ++ [(sec t.1 n, t.2)]
theorem cutT_tot (t : Tr) (r : List Tr) (n k : Nat) : tot (cutT (t :: r) n) k = tot (t :: r) k := by
  show t.2 * at0 (t.1.take n) k + tot (r ++ [(sec t.1 n, t.2)]) k = t.2 * at0 t.1 k + tot r k
  rw [tot_app, at0_take]
  show _ + (_ + (t.2 * at0 (sec t.1 n) k + 0)) = _
  rw [at0_sec]
  by_cases h : k < n
  · rw [if_pos h, if_pos h]; simp
  · rw [if_neg h, if_neg h]; simp; omega
theorem cutT_lng (t : Tr) (r : List Tr) {n : Nat} (h : n ≤ t.1.length) : lng (cutT (t :: r) n) = lng (t :: r) := by
  show max (t.1.take n).length (lng (r ++ [(sec t.1 n, t.2)])) = max t.1.length (lng r)
  rw [lng_app, List.length_take]
  show max (min n t.1.length) (max (lng r) (max (sec t.1 n).length 0)) = _
  rw [sec_len h]; omega
theorem inR_sec {m : Int} (hm : 0 ≤ m) {t : List Int} (h : inR m t = true) (n : Nat) : inR m (sec t n) = true := by
  unfold inR sec
  rw [List.all_append, Bool.and_eq_true]
  refine ⟨?_, ?_⟩
  · rw [List.all_eq_true]; intro x hx
    rw [(List.mem_replicate.1 hx).2]; exact inB_iff.2 (by omega)
  · rw [List.all_eq_true]; intro x hx
    exact List.all_eq_true.1 h x (List.mem_of_mem_drop hx)
theorem inR_take {m : Int} {t : List Int} (h : inR m t = true) (n : Nat) : inR m (t.take n) = true := by
  unfold inR at *
  rw [List.all_eq_true]; intro x hx
  exact List.all_eq_true.1 h x (List.mem_of_mem_take hx)
theorem cutT_tok {t : Tr} {r : List Tr} (n : Nat) (h : (t :: r).all tok = true) : (cutT (t :: r) n).all tok = true := by
  simp only [List.all_cons, Bool.and_eq_true] at h
  have ht := h.1
  unfold tok at ht
  rw [Bool.and_eq_true] at ht
  show ((t.1.take n, t.2) :: (r ++ [(sec t.1 n, t.2)])).all tok = true
  simp only [List.all_cons, List.all_append, Bool.and_eq_true, List.all_nil]
  refine ⟨?_, h.2, ?_, trivial⟩
  · unfold tok; rw [Bool.and_eq_true]; exact ⟨ht.1, inR_take ht.2 n⟩
  · unfold tok; rw [Bool.and_eq_true]; exact ⟨ht.1, inR_sec (by decide) ht.2 n⟩
theorem sums_eq {a b : List Tr} (h1 : lng a = lng b) (h2 : ∀ k, tot a k = tot b k) : sums a = sums b := by
  unfold sums
  rw [h1, show tot a = tot b from funext h2]
/-! Bounds of what is added up. -/
theorem at0_bd {m : Int} (hm : 0 ≤ m) {t : List Int} (h : inR m t = true) (k : Nat) : -m ≤ at0 t k ∧ at0 t k ≤ m := by
  unfold at0
  rw [List.getD_eq_getElem?_getD]
  cases e : t[k]? with
  | none => simp; omega
  | some x => simp; exact inR_mem h (List.mem_of_getElem? e)
theorem mul_bd {g x : Int} (h1 : -1048576 ≤ g ∧ g ≤ 1048576) (h2 : -16777216 ≤ x ∧ x ≤ 16777216) : -17592186044416 ≤ g * x ∧ g * x ≤ 17592186044416 := by
  have a := Int.mul_nonneg (a := 1048576 - g) (b := 16777216 - x) (by omega) (by omega)
  have b := Int.mul_nonneg (a := 1048576 + g) (b := 16777216 + x) (by omega) (by omega)
  have c := Int.mul_nonneg (a := 1048576 - g) (b := 16777216 + x) (by omega) (by omega)
  have d := Int.mul_nonneg (a := 1048576 + g) (b := 16777216 - x) (by omega) (by omega)
  rw [Int.sub_mul, Int.mul_sub, Int.mul_sub] at a
  rw [Int.add_mul, Int.mul_add, Int.mul_add] at b
  rw [Int.sub_mul, Int.mul_add, Int.mul_add] at c
  rw [Int.add_mul, Int.mul_sub, Int.mul_sub] at d
  omega
theorem tot_bd {ts : List Tr} (h : ts.all tok = true) (k : Nat) : -(17592186044416 * (ts.length : Int)) ≤ tot ts k ∧ tot ts k ≤ 17592186044416 * (ts.length : Int) := by
  induction ts with
  | nil => simp [tot]
  | cons t ts ih =>
    simp only [List.all_cons, Bool.and_eq_true] at h
    have ht := h.1
    unfold tok at ht
    rw [Bool.and_eq_true] at ht
    have m := mul_bd (inB_iff.1 ht.1) (at0_bd (by decide) ht.2 k)
    have i := ih h.2
    show -(17592186044416 * ((ts.length + 1 : Nat) : Int)) ≤ t.2 * at0 t.1 k + tot ts k ∧ t.2 * at0 t.1 k + tot ts k ≤ 17592186044416 * ((ts.length + 1 : Nat) : Int)
    omega
end Go.Proofs.Ytdlcnbfiklbiiaa.Mx
