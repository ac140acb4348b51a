/- Boxes from a place on are broken as they would be alone; where each box fits there are lines. -/
import Derived.Test.YtiffppnaaenalagV3
namespace Go.Proofs.Ytiffppnaaenalag.V
set_option linter.unusedVariables false
set_option linter.unusedSimpArgs false

theorem sh_sm (b : M.Bx) (A a k : Nat) : M.sm (sh b A).W a k = M.sm b.W (A + a) k := M.sm_shift b.W A a k
theorem sh_nd (b : M.Bx) (A a k : Nat) : M.nd (sh b A) a k = M.nd b (A + a) k := by
  unfold M.nd; rw [sh_sm]; rw [show M.sm (sh b A).G a k = M.sm b.G (A + a) k from M.sm_shift b.G A a k]
theorem sh_ft (b : M.Bx) (A a e : Nat) : M.ft (sh b A) a e = M.ft b (A + a) (A + e) := by
  unfold M.ft; rw [sh_nd, show A + e - (A + a) = e - a by omega]; rfl
theorem sh_cs (b : M.Bx) {A n : Nat} (hA : A ≤ n) (a e : Nat) : M.cs (sh b A) (n - A) a e = M.cs b n (A + a) (A + e) := by
  unfold M.cs; rw [sh_sm, show A + e - (A + a) = e - a by omega]
  rw [show decide (e = n - A) = decide (A + e = n) from decide_eq_decide.2 (by omega)]; rfl
theorem sh_wy {b : M.Bx} {A n : Nat} (hA : A ≤ n) {l : List Nat} : ∀ {a : Nat}, M.wy (sh b A) (n - A) (n - A) a l ↔ M.wy b n n (A + a) (l.map (A + ·)) := by
  induction l with
  | nil => intro a; simp only [M.wy, List.map_nil]; omega
  | cons e t ih =>
    intro a
    simp only [M.wy, List.map_cons, ih, sh_ft]
    constructor
    · rintro ⟨h1, h2, h3, h4⟩; exact ⟨by omega, by omega, h3, h4⟩
    · rintro ⟨h1, h2, h3, h4⟩; exact ⟨by omega, by omega, h3, h4⟩
theorem sh_co {b : M.Bx} {A n : Nat} (hA : A ≤ n) {l : List Nat} : ∀ {a : Nat}, M.co (sh b A) (n - A) a l = M.co b n (A + a) (l.map (A + ·)) := by
  induction l with
  | nil => intro a; rfl
  | cons e t ih => intro a; simp only [M.co, List.map_cons, ih, sh_cs b hA]
theorem wy_back {b : M.Bx} {n z A : Nat} {l : List Nat} : ∀ {a : Nat}, A ≤ a → M.wy b n z a l → (l.map (· - A)).map (A + ·) = l := by
  induction l with
  | nil => intro a _ _; rfl
  | cons e t ih =>
    intro a ha h
    obtain ⟨h1, h2, h3, h4⟩ := h
    simp only [List.map_cons]
    rw [ih (a := e) (by omega) h4, show A + (e - A) = e by omega]
theorem sh_bst {b : M.Bx} {A n : Nat} (hA : A ≤ n) {t : List Nat} (h : M.Bst b n n A t) : M.Bst (sh b A) (n - A) (n - A) 0 (t.map (· - A)) := by
  have e := wy_back (Nat.le_refl A) h.1
  refine ⟨(sh_wy hA).2 (by rw [e]; exact h.1), fun m hm => ?_⟩
  rw [sh_co hA, sh_co hA, e]
  have h2 := h.2 (m.map (A + ·)) ((sh_wy hA).1 hm)
  rw [← M.bt_map _ _ A, e]
  exact h2

/-- All of the first k boxes fit alone. -/
def fb (b : M.Bx) : Nat → Bool
  | 0 => true
  | k + 1 => fb b k && decide (b.W k - b.G k ≤ b.wide)
theorem fb_iff {b : M.Bx} {n : Nat} : fb b n = true ↔ ∀ j, j < n → b.W j - b.G j ≤ b.wide := by
  induction n with
  | zero => simp [fb]
  | succ n ih =>
    simp only [fb, Bool.and_eq_true, decide_eq_true_eq, ih]
    constructor
    · intro h j hj
      rcases Nat.lt_succ_iff_lt_or_eq.1 hj with h1 | rfl
      · exact h.1 j h1
      · exact h.2
    · intro h; exact ⟨fun j hj => h j (by omega), h n (by omega)⟩
theorem ways_are {b : M.Bx} {n : Nat} (h : ∀ j, j < n → b.W j - b.G j ≤ b.wide) : ∀ k, k ≤ n → ∃ l, M.wy b n n (n - k) l := by
  intro k
  induction k with
  | zero => intro _; exact ⟨[], rfl⟩
  | succ k ih =>
    intro hk
    obtain ⟨l, hl⟩ := ih (by omega)
    refine ⟨(n - k) :: l, by omega, by omega, ?_, hl⟩
    unfold M.ft
    rw [show n - k - (n - (k + 1)) = 0 + 1 by omega, M.nd_succ]
    have := h (n - (k + 1)) (by omega)
    have h0 : M.nd b (n - (k + 1)) 0 = 0 := by simp [M.nd, M.sm]
    rw [h0, Nat.add_zero]
    simp; omega
theorem ways_fit {b : M.Bx} {n : Nat} (hr : M.rt b n) {l : List Nat} : ∀ {a : Nat}, M.wy b n n a l → ∀ j, a ≤ j → j < n → b.W j - b.G j ≤ b.wide := by
  induction l with
  | nil => intro a h j h1 h2; simp only [M.wy] at h; omega
  | cons e t ih =>
    intro a h j h1 h2
    obtain ⟨g1, g2, g3, g4⟩ := h
    by_cases hj : e ≤ j
    · exact ih g4 j hj h2
    · unfold M.ft at g3
      have g5 : M.nd b a (e - a) ≤ b.wide := by simpa using g3
      have := M.nd_part hr a (e - a) (j - a) (by omega) (by omega)
      rw [show a + (j - a) = j by omega] at this
      omega
theorem BrR.alive {x : Nat → Int} {m : Nat} {C E : Int} (h : M.BrR ⟨4, fun _ => 3, fun _ => 0⟩ 2 x m C E) : E = 0 ∧ C = 1 ∧ m = 2 := by
  have hw : M.wr ⟨4, fun _ => 3, fun _ => 0⟩ 2 = 0 := by decide
  have hy : M.wy ⟨4, fun _ => 3, fun _ => 0⟩ 2 2 0 [1, 2] := ⟨by omega, by omega, by decide, by omega, by omega, by decide, rfl⟩
  have hno : M.ft ⟨4, fun _ => 3, fun _ => 0⟩ 0 2 = false := by decide
  rcases h with ⟨h1, _⟩ | ⟨_, _, _, _, h2⟩ | ⟨_, h1, _, h3, h4⟩
  · exact absurd hw h1
  · exact absurd hy (h2 _)
  · have hl : M.ls x 0 m = [1, 2] := by
      have := h4.1
      generalize M.ls x 0 m = l at this
      match l, this with
      | [], this => simp [M.wy] at this
      | [e], this =>
        obtain ⟨g1, g2, g3, g4⟩ := this
        simp only [M.wy] at g4
        subst g4
        rw [hno] at g3; exact absurd g3 (by decide)
      | e :: f :: t, this =>
        obtain ⟨g1, g2, g3, g4, g5, g6, g7⟩ := this
        have e1 : e = 1 := by omega
        have e2 : f = 2 := by omega
        subst e1 e2
        rw [M.wy_end g7]
    have hm : m = 2 := by have := M.ls_len x m 0; rw [hl] at this; simpa using this.symm
    refine ⟨h1, ?_, hm⟩
    rw [h3, hl]; decide
/-- What Cost and Break of the same say together. -/
theorem BrR.cost {b : M.Bx} {n : Nat} {x : Nat → Int} {m : Nat} {C : Int} (h : M.BrR b n x m C 0) : cw b n x m = (C, 0) ∧ M.Bst b n n 0 (M.ls x 0 m) ∧ M.wr b n = 0 ∧ C = M.co b n 0 (M.ls x 0 m) ∧ ∀ j, j < m → 0 ≤ x j ∧ x j ≤ n := by
  rcases h with ⟨h1, _, _, h2⟩ | ⟨_, _, _, h2, _⟩ | ⟨h1, _, h2, h3, h4⟩
  · exact absurd h2.symm h1
  · exact absurd h2 (by decide)
  · refine ⟨?_, h4, h1, h3, h2⟩
    unfold cw
    rw [if_pos h1, M.cq_wy (fun j hj => (h2 j hj).1) h4.1, h3]
theorem cost_way {b : M.Bx} {n : Nat} {g : Nat → Int} {m : Nat} (h : (cw b n g m).2 = 0) : M.wr b n = 0 ∧ M.wy b n n 0 (M.ls g 0 m) ∧ (cw b n g m).1 = M.co b n 0 (M.ls g 0 m) ∧ ∀ j, j < m → 0 ≤ g j ∧ g j ≤ n := by
  unfold cw at h ⊢
  by_cases hw : M.wr b n = 0
  · rw [if_pos hw] at h ⊢
    obtain ⟨h1, h2, h3⟩ := M.cq_ok h
    exact ⟨hw, h1, h2, h3⟩
  · rw [if_neg hw] at h; exact absurd h hw
theorem BrR.some {b : M.Bx} {n : Nat} {x : Nat → Int} {m : Nat} {C E : Int} (h : M.BrR b n x m C E) (hw : M.wr b n = 0) {l : List Nat} (hl : M.wy b n n 0 l) : E = 0 := by
  rcases h with ⟨h1, _⟩ | ⟨_, _, _, _, h2⟩ | ⟨_, h2, _⟩
  · exact absurd hw h1
  · exact absurd hl (h2 _)
  · exact h2
theorem BrR.none {b : M.Bx} {n : Nat} {x : Nat → Int} {m : Nat} {C E : Int} (h : M.BrR b n x m C E) (hw : M.wr b n = 0) (hl : ∀ l, ¬ M.wy b n n 0 l) : E = 6 := by
  rcases h with ⟨h1, _⟩ | ⟨_, _, _, h2, _⟩ | ⟨_, _, _, _, h2⟩
  · exact absurd hw h1
  · exact h2
  · exact absurd h2.1 (hl _)
/-- What is behind the first line is broken as it would be alone. -/
theorem BrR.behind {b : M.Bx} {n : Nat} {x : Nat → Int} {m : Nat} {C : Int} (h : M.BrR b n x m C 0) (hn0 : 0 < n) :
    0 < m ∧ ∃ A : Nat, x 0 = (A : Int) ∧ 1 ≤ A ∧ A ≤ n ∧ ∀ (y : Nat → Int) (k : Nat) (D E : Int), M.BrR (sh b A) (n - A) y k D E → E = 0 ∧ k + 1 = m ∧ D ≤ C ∧ ∀ j, j < k → y j + A = x (j + 1) := by
  obtain ⟨_, hb, hw, hC, hx⟩ := BrR.cost h
  obtain ⟨hn, w1, w2, hr⟩ := M.wr_zero hw
  have hm : 0 < m := by
    apply Nat.pos_of_ne_zero
    intro e
    subst e
    have := hb.1
    simp only [M.ls, M.wy] at this
    omega
  obtain ⟨k, rfl⟩ : ∃ k, m = k + 1 := ⟨m - 1, by omega⟩
  have hl : M.ls x 0 (k + 1) = (x 0).toNat :: M.ls x 1 k := rfl
  rw [hl] at hb hC
  obtain ⟨g1, g2, g3, g4⟩ := hb.1
  have hx0 := hx 0 (by omega)
  refine ⟨hm, (x 0).toNat, by omega, by omega, g2, fun y k' D E hB => ?_⟩
  generalize (x 0).toNat = A at *
  have hsb := sh_bst g2 hb.tail
  have hrs : M.rt (sh b A) (n - A) := sh_rt hr (by omega)
  have hws : M.wr (sh b A) (n - A) = 0 := M.wr_ok (by omega) w1 w2 hrs
  obtain rfl := BrR.some hB hws hsb.1
  obtain ⟨_, hb2, _, hD, hy⟩ := BrR.cost hB
  have hone := hb2.one hsb
  have hmap : (M.ls y 0 k').map (A + ·) = M.ls x 1 k := by rw [hone]; exact wy_back (Nat.le_refl A) hb.tail.1
  have hlen : k' = k := by have := congrArg List.length hmap; rw [List.length_map, M.ls_len, M.ls_len] at this; exact this
  subst hlen
  refine ⟨rfl, rfl, ?_, ?_⟩
  · rw [hD, hC]
    simp only [M.co]
    rw [sh_co g2, hmap, Nat.add_zero]
    have := (M.cs_bd hr hn w1 w2 (a := 0) (e := A) (by omega) g2).1
    omega
  · have key : ∀ (q : Nat) (s : Nat), (∀ j, s ≤ j → j < s + q → 0 ≤ y j) → (∀ j, s ≤ j → j < s + q → 0 ≤ x (j + 1)) → (M.ls y s q).map (A + ·) = M.ls x (s + 1) q → ∀ j, s ≤ j → j < s + q → y j + A = x (j + 1) := by
      intro q
      induction q with
      | zero => intro s _ _ _ j h1 h2; omega
      | succ q ih =>
        intro s hy hx he j h1 h2
        simp only [M.ls, List.map_cons, List.cons.injEq] at he
        by_cases hj : j = s
        · subst hj
          have c1 := hy j (by omega) (by omega)
          have c2 := hx j (by omega) (by omega)
          have := he.1
          omega
        · exact ih (s + 1) (fun j h1 h2 => hy j (by omega) (by omega)) (fun j h1 h2 => hx j (by omega) (by omega)) he.2 j (by omega) (by omega)
    intro j hj
    exact key k' 0 (fun j _ h2 => (hy j (by omega)).1) (fun j _ h2 => (hx (j + 1) (by omega)).1) hmap j (by omega) (by omega)
end Go.Proofs.Ytiffppnaaenalag.V
