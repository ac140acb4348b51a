/- Beats as trees; what is wrong with one, as a plain function. -/
import Derived.Test.YtgcnmmjgdpdmbacRows
namespace Go.Proofs.Ytgcnmmjgdpdmbac.F.M

/-- What the kids of a beat are told by: numbers; of no beat none. -/
abbrev Dom (z : Bool) : Type := match z with | true => Empty | false => Nat
/-- A beat, or (z) none. -/
structure Bt where
  of ::
  z : Bool
  k : Int
  s : Int
  n : Nat
  sub : Dom z → Bt
abbrev Bt.mk (k s : Int) (n : Nat) (kid : Nat → Bt) : Bt := ⟨false, k, s, n, kid⟩
abbrev Bt.nil : Bt := ⟨true, 0, 0, 0, fun e => Empty.elim e⟩
theorem Bt.ind {motive : Bt → Prop} (nil : ∀ k s n sub, motive ⟨true, k, s, n, sub⟩) (mk : ∀ k s n (kid : Nat → Bt), (∀ j, motive (kid j)) → motive (.mk k s n kid)) (b : Bt) : motive b := by
  induction b with
  | of z k s n sub ih =>
    cases z with
    | true => exact nil k s n sub
    | false => exact mk k s n sub ih
theorem Bt.two (b : Bt) : (∃ k s n sub, b = ⟨true, k, s, n, sub⟩) ∨ ∃ k s n kid, b = .mk k s n kid := by
  induction b using Bt.ind with
  | nil k s n sub => exact .inl ⟨k, s, n, sub, rfl⟩
  | mk k s n kid => exact .inr ⟨k, s, n, kid, rfl⟩

/-- What is wrong with a beat, whatever its kids are. -/
def al (k s : Int) (n : Nat) : Int := if s < 1 ∨ 65536 < s then 3 else if k < 1 ∨ 4 < k then 1 else if (k = 4 ∧ n = 0) ∨ (k ≠ 4 ∧ 0 < n) then 5 else 0
theorem al_share (k s : Int) (n : Nat) (h : s < 1 ∨ 65536 < s) : al k s n = 3 := if_pos h
theorem al_kind (k s : Int) (n : Nat) (h : ¬ (s < 1 ∨ 65536 < s)) (h2 : k < 1 ∨ 4 < k) : al k s n = 1 := by unfold al; rw [if_neg h, if_pos h2]
theorem al_many (k s : Int) (n : Nat) (h : ¬ (s < 1 ∨ 65536 < s)) (h2 : ¬ (k < 1 ∨ 4 < k)) (h3 : (k = 4 ∧ n = 0) ∨ (k ≠ 4 ∧ 0 < n)) : al k s n = 5 := by unfold al; rw [if_neg h, if_neg h2, if_pos h3]
theorem al_ok (k s : Int) (n : Nat) (h : ¬ (s < 1 ∨ 65536 < s)) (h2 : ¬ (k < 1 ∨ 4 < k)) (h3 : ¬ ((k = 4 ∧ n = 0) ∨ (k ≠ 4 ∧ 0 < n))) : al k s n = 0 := by unfold al; rw [if_neg h, if_neg h2, if_neg h3]

/-- Kid by kid: the first that has something wrong, and how many beats may come yet. -/
def wkids (f : Nat → Int → Int × Int) : Nat → Nat → Int → Int × Int
  | 0, _, l => (0, l)
  | c + 1, i, l => if (f i l).1 ≠ 0 then f i l else wkids f c (i + 1) (f i l).2
def wr : Bt → Int → Int → Int × Int
  | ⟨true, _, _, _, _⟩, _, l => (4, l)
  | ⟨false, k, s, n, kid⟩, lev, l => if 32 < lev ∨ l < 1 then (4, l) else if al k s n ≠ 0 then (al k s n, l - 1) else wkids (fun j l => wr (kid j) (lev + 1) l) n 0 (l - 1)

theorem wkids_bd (f : Nat → Int → Int × Int) (hf : ∀ i l, 0 ≤ l → 0 ≤ (f i l).2 ∧ (f i l).2 ≤ l) (c i : Nat) (l : Int) (h : 0 ≤ l) : 0 ≤ (wkids f c i l).2 ∧ (wkids f c i l).2 ≤ l := by
  induction c generalizing i l with
  | zero => simp [wkids]; exact h
  | succ c ih =>
    rw [wkids]
    have := hf i l h
    split
    · exact this
    · have := ih (i + 1) (f i l).2 this.1; omega
theorem wr_bd (b : Bt) : ∀ lev l : Int, 0 ≤ l → 0 ≤ (wr b lev l).2 ∧ (wr b lev l).2 ≤ l := by
  induction b using Bt.ind with
  | nil => intro lev l h; exact ⟨h, Int.le_refl _⟩
  | mk k s n kid ih =>
    intro lev l h
    rw [wr]
    split
    · exact ⟨h, Int.le_refl _⟩
    · rename_i hc
      split
      · show 0 ≤ l - 1 ∧ l - 1 ≤ l; omega
      · have := wkids_bd (fun j l => wr (kid j) (lev + 1) l) (fun i l h => ih i (lev + 1) l h) n 0 (l - 1) (by omega)
        omega
theorem wr_much (b : Bt) (lev l : Int) (h : 32 < lev ∨ l < 1) : wr b lev l = (4, l) := by
  induction b using Bt.ind with
  | nil => rfl
  | mk k s n kid => rw [wr, if_pos h]
theorem wr_al (k s : Int) (n : Nat) (kid : Nat → Bt) (lev l : Int) (h : ¬ (32 < lev ∨ l < 1)) (h2 : al k s n ≠ 0) : wr (.mk k s n kid) lev l = (al k s n, l - 1) := by
  rw [wr, if_neg h, if_pos h2]
theorem wr_kids (k s : Int) (n : Nat) (kid : Nat → Bt) (lev l : Int) (h : ¬ (32 < lev ∨ l < 1)) (h2 : al k s n = 0) : wr (.mk k s n kid) lev l = wkids (fun j l => wr (kid j) (lev + 1) l) n 0 (l - 1) := by
  rw [wr, if_neg h, if_neg (by simpa using h2)]
/-- Where the kids up to i have nothing wrong. -/
def WK (kid : Nat → Bt) (lev : Int) (n i : Nat) (l0 l : Int) : Prop := wkids (fun j l => wr (kid j) (lev + 1) l) n 0 l0 = wkids (fun j l => wr (kid j) (lev + 1) l) (n - i) i l
theorem wk_start (kid : Nat → Bt) (lev : Int) (n : Nat) (l0 : Int) : WK kid lev n 0 l0 l0 := rfl
theorem wk_step (kid : Nat → Bt) (lev : Int) (n i : Nat) (l0 l : Int) (h : WK kid lev n i l0 l) (hi : i < n) :
    ((wr (kid i) (lev + 1) l).1 ≠ 0 → wkids (fun j l => wr (kid j) (lev + 1) l) n 0 l0 = wr (kid i) (lev + 1) l) ∧ ((wr (kid i) (lev + 1) l).1 = 0 → WK kid lev n (i + 1) l0 (wr (kid i) (lev + 1) l).2) := by
  unfold WK at *
  rw [h]
  obtain ⟨c, hc⟩ : ∃ c, n - i = c + 1 := ⟨n - i - 1, by omega⟩
  have hc2 : n - (i + 1) = c := by omega
  rw [hc, hc2, wkids]
  exact ⟨fun e => if_pos e, fun e => if_neg (by simpa using e)⟩
theorem wk_end (kid : Nat → Bt) (lev : Int) (n : Nat) (l0 l : Int) (h : WK kid lev n n l0 l) : wkids (fun j l => wr (kid j) (lev + 1) l) n 0 l0 = (0, l) := by
  unfold WK at h
  rw [h, Nat.sub_self]
  rfl
end Go.Proofs.Ytgcnmmjgdpdmbac.F.M
