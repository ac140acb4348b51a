/- The best way as the document reckons it: from the first box on. -/
import Derived.Test.YtiffppnaaenalagVMath2
namespace Go.Proofs.Ytiffppnaaenalag.V.M
set_option linter.unusedVariables false
set_option linter.unusedSimpArgs false

/-- The best way to z, if there is one. -/
def Fw (b : Bx) (n z : Nat) (T : Bool) (K : Int) (l : List Nat) : Prop :=
  (T = true ∧ Bst b n z 0 l ∧ K = co b n 0 l) ∨ (T = false ∧ ∀ m, ¬ wy b n z 0 m)
/-- The same of ways whose last line begins at f or behind it. -/
def Fu (b : Bx) (n z f : Nat) (T : Bool) (K : Int) (l : List Nat) : Prop :=
  (T = true ∧ (∃ m y, f ≤ y ∧ y < z ∧ l = m ++ [z] ∧ wy b n y 0 m ∧ ft b y z = true) ∧ K = co b n 0 l ∧ ∀ m y, f ≤ y → y < z → wy b n y 0 m → ft b y z = true → bt (co b n 0 (m ++ [z])) (m ++ [z]) (co b n 0 l) l = false) ∨
  (T = false ∧ ∀ m y, f ≤ y → y < z → wy b n y 0 m → ft b y z = false)
theorem fw_start (b : Bx) (n : Nat) : Fw b n 0 true 0 [] := by
  refine Or.inl ⟨rfl, ⟨rfl, fun m hm => ?_⟩, rfl⟩
  have := wy_len hm
  have h0 : m = [] := List.length_eq_zero_iff.1 (by omega)
  rw [h0]; exact bt_irr _ _
theorem fu_start (b : Bx) (n z : Nat) (K : Int) (l : List Nat) : Fu b n z z false K l := Or.inr ⟨rfl, fun m y h1 h2 => by omega⟩
theorem fu_all {b : Bx} {n z : Nat} {T : Bool} {K : Int} {l : List Nat} (hz : 0 < z) (hzn : z ≤ n) (h : Fu b n z 0 T K l) : Fw b n z T K l := by
  have key : ∀ m, wy b n z 0 m → ∃ m' y, m = m' ++ [z] ∧ y < z ∧ wy b n y 0 m' ∧ ft b y z = true := fun m hm => by
    rcases List.eq_nil_or_concat m with e | ⟨m', e, he⟩
    · rw [e] at hm; simp only [wy] at hm; omega
    · rw [he, List.concat_eq_append] at hm
      obtain ⟨e1, e2, y, e3, e4, e5⟩ := wy_unsnoc hm
      exact ⟨m', y, by rw [he, e1, List.concat_eq_append], e4, e3, e5⟩
  rcases h with ⟨h1, ⟨m, y, h2, h3, h4, h5, h6⟩, h7, h8⟩ | ⟨h1, h2⟩
  · refine Or.inl ⟨h1, ⟨by rw [h4]; exact wy_snoc h3 hzn h6 h5, fun m' hm' => ?_⟩, h7⟩
    obtain ⟨m2, y2, e1, e2, e3, e4⟩ := key m' hm'
    rw [e1]; exact h8 m2 y2 (by omega) e2 e3 e4
  · refine Or.inr ⟨h1, fun m' hm' => ?_⟩
    obtain ⟨m2, y2, e1, e2, e3, e4⟩ := key m' hm'
    rw [h2 m2 y2 (by omega) e2 e3] at e4; exact absurd e4 (by decide)
theorem fu_skip {b : Bx} {n z f : Nat} {T : Bool} {K : Int} {l : List Nat} (h : Fu b n z (f + 1) T K l) (hno : ∀ m, wy b n f 0 m → ft b f z = false) : Fu b n z f T K l := by
  rcases h with ⟨h1, ⟨m, y, h2, h3, h4, h5, h6⟩, h7, h8⟩ | ⟨h1, h2⟩
  · refine Or.inl ⟨h1, ⟨m, y, by omega, h3, h4, h5, h6⟩, h7, fun m' y' g1 g2 g3 g4 => ?_⟩
    by_cases e : y' = f
    · subst e; rw [hno m' g3] at g4; exact absurd g4 (by decide)
    · exact h8 m' y' (by omega) g2 g3 g4
  · refine Or.inr ⟨h1, fun m' y' g1 g2 g3 => ?_⟩
    by_cases e : y' = f
    · subst e; exact hno m' g3
    · exact h2 m' y' (by omega) g2 g3
theorem fu_none {b : Bx} {n z f : Nat} {T : Bool} {K : Int} {l : List Nat} {T' : Bool} {K' : Int} {l' : List Nat} (h : Fu b n z (f + 1) T K l) (hf : Fw b n f T' K' l') (hx : T' = false) : Fu b n z f T K l := by
  refine fu_skip h (fun m hm => ?_)
  rcases hf with ⟨h1, _⟩ | ⟨_, h2⟩
  · rw [hx] at h1; exact absurd h1 (by decide)
  · exact absurd hm (h2 m)
/-- Is it taken? -/
def tk (T : Bool) (C : Int) (way : List Nat) (K : Int) (l : List Nat) : Bool := !T || bt C way K l
theorem fu_take {b : Bx} {n z f : Nat} {T : Bool} {K : Int} {l : List Nat} {K' : Int} {l' : List Nat} (hfz : f < z) (h : Fu b n z (f + 1) T K l) (hf : Fw b n f true K' l') (hft : ft b f z = true) :
    (tk T (K' + cs b n f z) (l' ++ [z]) K l = true → Fu b n z f true (K' + cs b n f z) (l' ++ [z])) ∧ (tk T (K' + cs b n f z) (l' ++ [z]) K l = false → Fu b n z f T K l) := by
  rcases hf with ⟨_, hb, hk⟩ | ⟨h1, _⟩
  rotate_left
  · exact absurd h1 (by decide)
  have hco : K' + cs b n f z = co b n 0 (l' ++ [z]) := by rw [co_snoc hb.1, hk]
  have hbest : ∀ m, wy b n f 0 m → bt (co b n 0 (m ++ [z])) (m ++ [z]) (co b n 0 (l' ++ [z])) (l' ++ [z]) = false := fun m hm => by
    rw [co_snoc hm, co_snoc hb.1, bt_snoc]; exact hb.2 m hm
  rw [hco]
  unfold tk
  rcases h with ⟨h1, ⟨m, y, h2, h3, h4, h5, h6⟩, h7, h8⟩ | ⟨h1, h2⟩
  · subst h1
    simp only [Bool.not_true, Bool.false_or]
    rw [h7]
    constructor
    · intro ht
      refine Or.inl ⟨rfl, ⟨l', f, Nat.le_refl _, hfz, rfl, hb.1, hft⟩, rfl, fun m' y' g1 g2 g3 g4 => ?_⟩
      by_cases e : y' = f
      · subst e; exact hbest m' g3
      · cases hq : bt (co b n 0 (m' ++ [z])) (m' ++ [z]) (co b n 0 (l' ++ [z])) (l' ++ [z])
        · rfl
        · have := bt_trans hq ht
          rw [h8 m' y' (by omega) g2 g3 g4] at this; exact absurd this (by decide)
    · intro ht
      refine Or.inl ⟨rfl, ⟨m, y, by omega, h3, h4, h5, h6⟩, rfl, fun m' y' g1 g2 g3 g4 => ?_⟩
      by_cases e : y' = f
      · subst e
        cases hq : bt (co b n 0 (m' ++ [z])) (m' ++ [z]) (co b n 0 l) l
        · rfl
        · rcases bt_neg (d := co b n 0 (l' ++ [z])) (m := l' ++ [z]) hq with hh | hh
          · rw [hbest m' g3] at hh; exact absurd hh (by decide)
          · rw [ht] at hh; exact absurd hh (by decide)
      · exact h8 m' y' (by omega) g2 g3 g4
  · subst h1
    simp only [Bool.not_false, Bool.true_or]
    constructor
    · intro _
      refine Or.inl ⟨rfl, ⟨l', f, Nat.le_refl _, hfz, rfl, hb.1, hft⟩, rfl, fun m' y' g1 g2 g3 g4 => ?_⟩
      by_cases e : y' = f
      · subst e; exact hbest m' g3
      · rw [h2 m' y' (by omega) g2 g3] at g4; exact absurd g4 (by decide)
    · intro h; exact absurd h (by decide)
theorem fw_bd {b : Bx} {n z : Nat} {K : Int} {l : List Nat} (hr : rt b n) (hn : n ≤ 1024) (w1 : 1 ≤ b.wide) (w2 : b.wide ≤ 10000) (hz : z ≤ n) (h : Fw b n z true K l) : 0 ≤ K ∧ K ≤ 429496729600000000 ∧ l.length ≤ z := by
  rcases h with ⟨_, h2, h3⟩ | ⟨h1, _⟩
  · have c1 := co_bd hr hn w1 w2 h2.1
    have c2 := wy_len h2.1
    have c3 : (l.length : Int) ≤ 1024 := by omega
    omega
  · exact absurd h1 (by decide)
end Go.Proofs.Ytiffppnaaenalag.V.M
