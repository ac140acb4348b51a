/- How many classes there can be; what two lowest pitches have in common; a chord's classes one behind the other. -/
import Derived.Test.YtdjdnjaijpafgabDoorC9
import Derived.Test.YtdjdnjaijpafgabDoorC5
import Derived.Test.YtdjdnjaijpafgabDoorCMath4
namespace Go.Proofs.YtdjdnjaijpafgabDoor
open Go.RowKit

theorem M.dd_49 {L A O : Nat → Int} {k : Nat} (h : ∀ j, j < k → M.rt (L j) (A j) (O j) = true) : (M.dd L A k).length ≤ 49 := by
  refine M.pig 49 _ (fun i => (M.g1 (M.dd L A k) i, M.g2 (M.dd L A k) i)) (fun j => (((j / 7 : Nat) : Int), ((j % 7 : Nat) : Int) - 3)) (M.g_ne (M.dd_nodup L A k)) ?_
  intro i hi
  have hm : (M.g1 (M.dd L A k) i, M.g2 (M.dd L A k) i) ∈ M.dd L A k := M.g_mem.1 ⟨i, hi, rfl, rfl⟩
  obtain ⟨j, hj, e⟩ := M.dd_mem.1 hm
  have hr := M.rt_yes (h j hj)
  have e1 : M.g1 (M.dd L A k) i = L j := (congrArg Prod.fst e).symm
  have e2 : M.g2 (M.dd L A k) i = A j := (congrArg Prod.snd e).symm
  refine ⟨(L j).toNat * 7 + (A j + 3).toNat, by omega, ?_⟩
  show (M.g1 (M.dd L A k) i, M.g2 (M.dd L A k) i) = _
  rw [e1, e2]
  refine Prod.ext ?_ ?_
  · show L j = ((((L j).toNat * 7 + (A j + 3).toNat) / 7 : Nat) : Int)
    omega
  · show A j = ((((L j).toNat * 7 + (A j + 3).toNat) % 7 : Nat) : Int) - 3
    omega

/-- The document's lowest: the fewest steps, of those the fewest half tones. -/
def M.lower (l a o l' a' o' : Int) : Bool := decide (M.st l o < M.st l' o') || (decide (M.st l o = M.st l' o') && decide (a < a'))
theorem M.lower_lt {l a o l' a' o' : Int} (h : M.st l o < M.st l' o') : M.lower l a o l' a' o' = true := by unfold M.lower; simp [h]
theorem M.lower_eq {l a o l' a' o' : Int} (h : M.st l o = M.st l' o') : M.lower l a o l' a' o' = decide (a < a') := by unfold M.lower; rw [h]; simp
theorem M.lower_gt {l a o l' a' o' : Int} (h : M.st l' o' < M.st l o) : M.lower l a o l' a' o' = false := by
  unfold M.lower
  rw [decide_eq_false (by omega), decide_eq_false (show ¬ M.st l o = M.st l' o' by omega)]; rfl
theorem M.Low.take {L A O : Nat → Int} {k m : Nat} (h : 0 < k → M.Low L O k m) (ht : 0 < k → M.lower (L k) (A k) (O k) (L m) (A m) (O m) = true) : M.Low L O (k + 1) k := by
  refine ⟨by omega, fun j hj => ?_⟩
  by_cases e : j = k
  · rw [e]; exact Int.le_refl _
  · have hk : 0 < k := by omega
    have h1 := (h hk).le j (by omega)
    have h2 := ht hk
    unfold M.lower at h2
    simp at h2
    omega
theorem M.Low.keep {L A O : Nat → Int} {k m : Nat} (h : M.Low L O k m) (ht : M.lower (L k) (A k) (O k) (L m) (A m) (O m) = false) : M.Low L O (k + 1) m := by
  refine ⟨by have := h.lt; omega, fun j hj => ?_⟩
  by_cases e : j = k
  · rw [e]
    unfold M.lower at ht
    simp at ht
    omega
  · exact h.le j (by omega)

/-- All of the first j. -/
def M.allB (f : Nat → Bool) : Nat → Bool
  | 0 => true
  | j + 1 => M.allB f j && f j
theorem M.allB_iff {f : Nat → Bool} {n : Nat} : M.allB f n = true ↔ ∀ j, j < n → f j = true := by
  induction n with
  | zero => simp [M.allB]
  | succ n ih =>
    simp only [M.allB, Bool.and_eq_true, ih]
    constructor
    · rintro ⟨h1, h2⟩ j hj
      by_cases e : j = n
      · rw [e]; exact h2
      · exact h1 j (by omega)
    · intro h
      exact ⟨fun j hj => h j (by omega), h n (by omega)⟩
/-- The document's test of a root and a kind against the known classes. -/
def M.tst (l : List (Int × Int)) (r a k : Int) (j : Nat) : Bool := (((M.cnt k + 1 : Nat) : Int) == (l.length : Int)) && M.allB (fun i => decide ((M.aL r i, M.aA r a k i) ∈ l)) j
theorem M.tst_iff {L A O : Nat → Int} {n : Nat} {r a k : Int} (hrt : ∀ j, j < n → M.rt (L j) (A j) (O j) = true) :
    M.tst (M.dd L A n) r a k (M.cnt k + 1) = true ↔ (M.gk L A n = true ∧ M.Same L A n r a k) := by
  have hK : ∀ x y, (∃ i, i < (M.dd L A n).length ∧ M.g1 (M.dd L A n) i = x ∧ M.g2 (M.dd L A n) i = y) ↔ ∃ j, j < n ∧ L j = x ∧ A j = y := by
    intro x y
    rw [M.g_mem, M.dd_mem]
    constructor
    · rintro ⟨j, h1, h2⟩; exact ⟨j, h1, congrArg Prod.fst h2, congrArg Prod.snd h2⟩
    · rintro ⟨j, h1, h2, h3⟩; exact ⟨j, h1, by rw [h2, h3]⟩
  rw [← M.ref_same hrt hK (M.g_ne (M.dd_nodup L A n))]
  unfold M.tst
  rw [Bool.and_eq_true, M.allB_iff, beq_iff_eq]
  constructor
  · rintro ⟨h1, h2⟩
    refine ⟨by omega, fun j hj => ?_⟩
    have := of_decide_eq_true (h2 j (by omega))
    exact M.g_mem.2 this
  · rintro ⟨h1, h2⟩
    refine ⟨by omega, fun j hj => ?_⟩
    exact decide_eq_true (M.g_mem.1 (h2 j (by omega)))
/-- A chord's class as cells. -/
def clsG (r a k : Int) (j : Nat) : List Value := [.int .i64 (M.aL r j), .int .i64 (M.aA r a k j)]

end Go.Proofs.YtdjdnjaijpafgabDoor
