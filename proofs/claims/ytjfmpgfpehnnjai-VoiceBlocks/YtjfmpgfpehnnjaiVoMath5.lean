/- What comes of pieces that are cut anyhow: the same samples. -/
import Derived.Test.YtjfmpgfpehnnjaiVoL4
namespace Go.Proofs.Ytjfmpgfpehnnjai.Vo
set_option linter.unusedVariables false

def fin (T : Nat) (o : Option Nat) : List Int → Nat × Option Nat
  | [] => (T, o)
  | x :: l => fin (pT T x) (po T o x) l
def rwl (p : Pt) (T : Nat) (o : Option Nat) : List Int → List Rw
  | [] => []
  | x :: l => row1 p T o x :: rwl p (pT T x) (po T o x) l
theorem fin_app (T : Nat) (o : Option Nat) (l l' : List Int) : fin T o (l ++ l') = fin (fin T o l).1 (fin T o l).2 l' := by
  induction l generalizing T o with
  | nil => rfl
  | cons x l ih => exact ih _ _
theorem rwl_app (p : Pt) (T : Nat) (o : Option Nat) (l l' : List Int) : rwl p T o (l ++ l') = rwl p T o l ++ rwl p (fin T o l).1 (fin T o l).2 l' := by
  induction l generalizing T o with
  | nil => rfl
  | cons x l ih => exact congrArg (row1 p T o x :: ·) (ih _ _)
theorem take_snoc (l : List Int) (k : Nat) (h : k < l.length) : l.take (k + 1) = l.take k ++ [l.getD k 0] := by
  rw [List.take_add_one, List.getD_eq_getElem?_getD, List.getElem?_eq_getElem h]; rfl
theorem rws_is (p : Pt) (l : List Int) (k : Nat) (h : k ≤ l.length) : rws p l k = rwl p 0 none (l.take k) ∧ fin 0 none (l.take k) = (stT l k, stO l k) := by
  induction k with
  | zero => exact ⟨rfl, rfl⟩
  | succ k ih =>
    obtain ⟨h1, h2⟩ := ih (by omega)
    rw [take_snoc l k (by omega), rwl_app, fin_app, h2, ← h1]
    exact ⟨rfl, rfl⟩
def seg (p : Pt) (o : Option Nat) (T m : Nat) : List Nat := (List.range m).map (fun i => S p o (T + i))
theorem seg_zero (p : Pt) (o : Option Nat) (T : Nat) : seg p o T 0 = [] := rfl
theorem seg_len (p : Pt) (o : Option Nat) (T m : Nat) : (seg p o T m).length = m := by unfold seg; simp
theorem seg_add (p : Pt) (o : Option Nat) (T a b : Nat) : seg p o T (a + b) = seg p o T a ++ seg p o (T + a) b := by
  unfold seg
  rw [List.range_add, List.map_append, List.map_map]
  refine congrArg (List.map (fun i => S p o (T + i)) (List.range a) ++ ·) (List.map_congr_left (fun i _ => ?_))
  show S p o (T + (a + i)) = S p o (T + a + i)
  rw [Nat.add_assoc]
def rcat (r : Rw) : List Nat := (List.range r.m).map r.f
def cat : List Rw → List Nat
  | [] => []
  | r :: R => rcat r ++ cat R
theorem cat_app (R R' : List Rw) : cat (R ++ R') = cat R ++ cat R' := by
  induction R with
  | nil => rfl
  | cons r R ih => exact (congrArg (rcat r ++ ·) ih).trans (List.append_assoc _ _ _).symm
theorem rcat_seg (p : Pt) (o : Option Nat) (T m : Nat) (e : Int) : rcat ⟨m, e, fun i => S p o (T + i)⟩ = seg p o T m := rfl
def sumN : List Int → Nat
  | [] => 0
  | x :: l => x.toNat + sumN l
def Gd (l : List Int) : Prop := ∀ x ∈ l, 1 ≤ x ∧ x ≤ 1000
theorem sumN_app (l l' : List Int) : sumN (l ++ l') = sumN l + sumN l' := by
  induction l with
  | nil => exact (Nat.zero_add _).symm
  | cons x l ih => exact (congrArg (x.toNat + ·) ih).trans (Nat.add_assoc _ _ _).symm
theorem sumN_bd (l : List Int) (h : Gd l) : sumN l ≤ 1000 * l.length := by
  induction l with
  | nil => exact Nat.zero_le _
  | cons x l ih =>
    have h1 := ih (fun y hy => h y (List.mem_cons_of_mem _ hy))
    have h2 := h x (List.mem_cons_self ..)
    show x.toNat + sumN l ≤ 1000 * (l.length + 1)
    omega
theorem held_all (p : Pt) (l : List Int) (h : Gd l) (T : Nat) (o : Option Nat) : fin T o l = (T + sumN l, o) ∧ cat (rwl p T o l) = seg p o T (sumN l) := by
  induction l generalizing T with
  | nil => exact ⟨rfl, rfl⟩
  | cons x l ih =>
    have h2 := h x (List.mem_cons_self ..)
    obtain ⟨m, rfl, hm⟩ : ∃ m : Nat, x = m ∧ m ≤ 1000 := ⟨x.toNat, by omega, by omega⟩
    obtain ⟨a1, a2, a3⟩ := row_in p T o m (by omega)
    obtain ⟨b1, b2⟩ := ih (fun y hy => h y (List.mem_cons_of_mem _ hy)) (T + m)
    have es : sumN ((m : Int) :: l) = m + sumN l := by show (m : Int).toNat + _ = _; rw [Int.toNat_natCast]
    rw [es]
    constructor
    · show fin (pT T m) (po T o m) l = _
      rw [a2, a3, b1, Nat.add_assoc]
    · show rcat (row1 p T o m) ++ cat (rwl p (pT T m) (po T o m) l) = _
      rw [a1, a2, a3, b2, seg_add, rcat_seg]
/-- Ahead of the first piece it is let go. -/
def ng1 : List Int → List Int
  | [] => []
  | x :: l => -x :: l
theorem ng1_len (l : List Int) : (ng1 l).length = l.length := by cases l <;> rfl
theorem ng1_snoc (l : List Int) (x : Int) (h : l ≠ []) : ng1 (l ++ [x]) = ng1 l ++ [x] := by
  cases l with
  | nil => exact absurd rfl h
  | cons y l => rfl
theorem gone_all (p : Pt) (l : List Int) (h : Gd l) (T : Nat) : cat (rwl p T none (ng1 l)) = seg p (some T) T (sumN l) := by
  cases l with
  | nil => rfl
  | cons x l =>
    have h2 := h x (List.mem_cons_self ..)
    obtain ⟨m, rfl, hm1, hm⟩ : ∃ m : Nat, x = m ∧ 1 ≤ m ∧ m ≤ 1000 := ⟨x.toNat, by omega, by omega, by omega⟩
    obtain ⟨a1, a2, a3⟩ := row_off p T none m hm1 (by omega)
    obtain ⟨b1, b2⟩ := held_all p l (fun y hy => h y (List.mem_cons_of_mem _ hy)) (T + m) (some T)
    have es : sumN ((m : Int) :: l) = m + sumN l := by show (m : Int).toNat + _ = _; rw [Int.toNat_natCast]
    rw [es]
    show rcat (row1 p T none (-(m : Int))) ++ cat (rwl p (pT T (-(m : Int))) (po T none (-(m : Int))) l) = _
    have e1 : off1 T none = some T := rfl
    rw [e1] at a1 a3
    rw [a1, a2, a3, seg_add, rcat_seg, b2]
/-- In pieces. -/
theorem cat_pieces (p : Pt) (l1 l2 : List Int) (h1 : Gd l1) (h2 : Gd l2) : cat (rws p (l1 ++ ng1 l2) (l1 ++ ng1 l2).length) = seg p none 0 (sumN l1) ++ seg p (some (sumN l1)) (sumN l1) (sumN l2) := by
  rw [(rws_is p _ _ (Nat.le_refl _)).1, List.take_length, rwl_app, cat_app]
  obtain ⟨a1, a2⟩ := held_all p l1 h1 0 none
  rw [a1, a2, Nat.zero_add, gone_all p l2 h2]
/-- At once. -/
theorem cat_once (p : Pt) (A B : Nat) (hA : A ≤ 65536) (hB : B ≤ 65536) : cat (rws p [(A : Int), -(B : Int)] 2) = seg p none 0 A ++ seg p (some A) A B := by
  have e := (rws_is p [(A : Int), -(B : Int)] 2 (Nat.le_refl _)).1
  rw [e]
  obtain ⟨a1, a2, a3⟩ := row_in p 0 none A hA
  have e2 : rwl p 0 none (List.take 2 [(A : Int), -(B : Int)]) = [row1 p 0 none A, row1 p (pT 0 A) (po 0 none A) (-(B : Int))] := rfl
  rw [e2, a1, a2, a3, Nat.zero_add]
  by_cases c : B = 0
  · subst c
    obtain ⟨b1, _, _⟩ := row_in p A none 0 (by omega)
    have e3 : (-((0 : Nat) : Int)) = ((0 : Nat) : Int) := rfl
    rw [e3, b1]
    show rcat _ ++ (rcat _ ++ []) = _
    rw [rcat_seg, rcat_seg, seg_zero, seg_zero, List.append_nil]
  · obtain ⟨b1, _, _⟩ := row_off p A none B (by omega) hB
    have e1 : off1 A none = some A := rfl
    rw [e1] at b1
    rw [b1]
    show rcat _ ++ (rcat _ ++ []) = _
    rw [rcat_seg, rcat_seg, List.append_nil]
end Go.Proofs.Ytjfmpgfpehnnjai.Vo
