/- What an ear hears of events and of times, step by step, as plain facts. -/
import Derived.Test.YtaohahahhjkcdahXMath2
import Derived.Test.YtaohahahhjkcdahX3
namespace Go.Proofs.Ytaohahahhjkcdah.X.M
open Go.Proofs.Ytaohahahhjkcdah.Z.M
set_option linter.unusedVariables false
set_option linter.unusedSimpArgs false

/-- An event later. -/
def lat (b : Int) (e : Ev) : Ev := ⟨b + e.t, e.k, e.c, e.a, e.b⟩
theorem sh_take {ev : List Ev} {j : Nat} {e : Ev} (h : ev[j]? = some e) (b : Int) : sh b (ev.take (j + 1)) = sh b (ev.take j) ++ [lat b e] := by
  rw [take_one h]; unfold sh; rw [List.map_append]; rfl
theorem win_one_in {f t : Int} {x : Ev} (h1 : f ≤ x.t) (h2 : x.t < t) : win f t [x] = [x] := by
  unfold win; rw [List.filter_cons, if_pos (by simp; omega)]; rfl
theorem win_sh_in {f t b : Int} {ev : List Ev} {j : Nat} {e : Ev} (h : ev[j]? = some e) (h1 : f ≤ b + e.t) (h2 : b + e.t < t) : win f t (sh b (ev.take (j + 1))) = win f t (sh b (ev.take j)) ++ [lat b e] := by
  rw [sh_take h, win_append, win_one_in h1 h2]
theorem win_sh_start {f t b : Int} {ev : List Ev} (hi : Inc 0 ev) : win f t (sh b (ev.take (ft (f - b) ev))) = [] := by
  refine win_early (fun e he => ?_)
  obtain ⟨x, hx, e2⟩ := mem_sh he
  obtain ⟨j, hj, rfl⟩ := List.getElem_of_mem hx
  have hjl : j < ft (f - b) ev := by rw [List.length_take] at hj; omega
  have hx2 : ev[j]? = some (ev.take (ft (f - b) ev))[j] := by
    rw [List.getElem_take]
    exact List.getElem?_eq_getElem _
  have := (ft_iff (t := f - b) hi hx2).2 hjl
  omega
theorem inc_drop {a : Int} {ev : List Ev} (h : Inc a ev) : ∀ {j : Nat} {e : Ev}, ev[j]? = some e → ∀ x ∈ ev.drop j, e.t ≤ x.t := by
  induction ev generalizing a with
  | nil => intro j e he; simp at he
  | cons y r ih =>
    intro j e he x hx
    cases j with
    | zero =>
      simp at he
      subst he
      rcases List.mem_cons.1 hx with rfl | hx
      · exact Int.le_refl _
      · exact inc_ge h.2 x hx
    | succ j => exact ih h.2 (by simpa using he) x (by simpa using hx)
theorem win_sh_end {f t b : Int} {ev : List Ev} (hi : Inc 0 ev) {j : Nat} {e : Ev} (h : ev[j]? = some e) (h2 : t ≤ b + e.t) : win f t (sh b ev) = win f t (sh b (ev.take j)) := by
  have e1 : sh b ev = sh b (ev.take j) ++ sh b (ev.drop j) := by unfold sh; rw [← List.map_append, List.take_append_drop]
  rw [e1, win_append, win_late (l := sh b (ev.drop j)), List.append_nil]
  intro x hx
  obtain ⟨y, hy, e2⟩ := mem_sh hx
  have := inc_drop hi h y hy
  omega
/-- So much and one more is heard of all. -/
theorem win_sh_more {f t b : Int} {ev : List Ev} {j : Nat} {e : Ev} (h : ev[j]? = some e) (h1 : f ≤ b + e.t) (h2 : b + e.t < t) : (win f t (sh b (ev.take j))).length + 1 ≤ (win f t (sh b ev)).length := by
  have e1 : sh b ev = sh b (ev.take (j + 1)) ++ sh b (ev.drop (j + 1)) := by unfold sh; rw [← List.map_append, List.take_append_drop]
  rw [e1, win_append, win_sh_in h h1 h2]
  simp
theorem ft_ge {t : Int} {ev : List Ev} (hi : Inc 0 ev) {j : Nat} {e : Ev} (h : ev[j]? = some e) (hj : ft t ev ≤ j) : t ≤ e.t := by
  have := ft_iff (t := t) hi h
  by_cases c : e.t < t
  · have := this.1 c; omega
  · omega
theorem tm_split (F : Int → List Ev) (o : Int) (n m : Nat) (a : Int) : tm F o (n + m) a = tm F o n a ++ tm F o m (a + n * o) := by
  induction n generalizing a with
  | zero => rw [Nat.zero_add, tm_zero, List.nil_append]; congr 1; simp
  | succ n ih =>
    rw [show n + 1 + m = (n + m) + 1 by omega, tm_succ, ih, tm_succ, List.append_assoc]
    congr 3
    rw [Int.natCast_add, Int.add_mul]; omega
theorem tm_mem {F : Int → List Ev} {o : Int} (h0 : 0 ≤ o) (h : ∀ b, ∀ e ∈ F b, b ≤ e.t ∧ e.t < b + o) : ∀ (n : Nat) (a : Int), ∀ e ∈ tm F o n a, a ≤ e.t ∧ e.t < a + n * o := by
  intro n
  induction n with
  | zero => intro a e he; simp [tm_zero] at he
  | succ n ih =>
    intro a e he
    rw [tm_succ] at he
    have hm : 0 ≤ (n : Int) * o := Int.mul_nonneg (by omega) h0
    rw [Int.natCast_add, Int.add_mul]
    rcases List.mem_append.1 he with he | he
    · have := h a e he; omega
    · have := ih _ e he; omega
theorem win_tm_start {F : Int → List Ev} {o f t a : Int} (h0 : 0 ≤ o) (h : ∀ b, ∀ e ∈ F b, b ≤ e.t ∧ e.t < b + o) (n : Nat) (hn : a + n * o ≤ f ∨ n = 0) : win f t (tm F o n a) = [] := by
  rcases hn with hn | rfl
  · exact win_early (fun e he => by have := tm_mem h0 h n a e he; omega)
  · rfl
theorem win_tm_end {F : Int → List Ev} {o f t a : Int} (h0 : 0 ≤ o) (h : ∀ b, ∀ e ∈ F b, b ≤ e.t ∧ e.t < b + o) {n T : Nat} (hn : n ≤ T) (h2 : t ≤ a + n * o) : win f t (tm F o T a) = win f t (tm F o n a) := by
  obtain ⟨m, rfl⟩ : ∃ m, T = n + m := ⟨T - n, by omega⟩
  rw [tm_split, win_append, win_late (l := tm F o m _), List.append_nil]
  intro e he
  have := tm_mem h0 h m _ e he
  omega
theorem win_tm_last (F : Int → List Ev) (o f t a : Int) (n : Nat) : win f t (tm F o (n + 1) a) = win f t (tm F o n a) ++ win f t (F (a + n * o)) := by
  rw [tm_last, win_append]
theorem win_tm_le (F : Int → List Ev) (o f t a : Int) {n T : Nat} (h : n ≤ T) : (win f t (tm F o n a)).length ≤ (win f t (tm F o T a)).length := by
  obtain ⟨m, rfl⟩ : ∃ m, T = n + m := ⟨T - n, by omega⟩
  rw [tm_split, win_append, List.length_append]; omega
theorem win_pes_le {l : List Pt} {k : Nat} (f t a : Int) : (win f t (pes (l.take k) a)).length ≤ (win f t (pes l a)).length := by
  have e : pes l a = pes (l.take k) a ++ pes (l.drop k) a := by rw [← pes_append, List.take_append_drop]
  rw [e, win_append, List.length_append]; omega
theorem win_pes_take {l : List Pt} {k : Nat} {p : Pt} (h : l[k]? = some p) (f t a : Int) : win f t (pes (l.take (k + 1)) a) = win f t (pes (l.take k) a) ++ win f t (pe p a) := by
  rw [pes_take h, win_append]
/-- The first time that ends behind a tick. -/
theorem dur_is {x o : Int} (ho : 1 ≤ o) : ∃ n : Nat, Int.tdiv (max x 0) o = (n : Int) ∧ (n * o ≤ x ∨ n = 0) ∧ (0 ≤ x → (n : Int) ≤ x) := by
  have h0 : 0 ≤ max x 0 := by omega
  rw [Int.tdiv_eq_ediv_of_nonneg h0]
  have hq : 0 ≤ (max x 0) / o := Int.ediv_nonneg h0 (by omega)
  refine ⟨((max x 0) / o).toNat, by omega, ?_, fun hx => ?_⟩
  · by_cases hx : 0 ≤ x
    · left
      have := Int.ediv_mul_le (max x 0) (b := o) (by omega)
      rw [show max x 0 = x by omega] at this ⊢
      have hq2 : 0 ≤ x / o := Int.ediv_nonneg hx (by omega)
      rw [show ((x / o).toNat : Int) = x / o by omega]; exact this
    · right
      rw [show max x 0 = 0 by omega]; simp
  · have := Int.ediv_le_self (a := max x 0) o h0
    omega
end Go.Proofs.Ytaohahahhjkcdah.X.M
