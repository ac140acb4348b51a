/- What the program's reading of a number comes to at every text. -/
import Derived.Test.YtmccbokjigjpnaaDoorQT2
namespace Go.Proofs.YtmccbokjigjpnaaDoor
open Go.RowKit Go.Lib Go.Joins
set_option linter.unusedSimpArgs false
set_option linter.unusedVariables false

theorem digits_from (d : ByteArray) : ∀ (b pos : Nat), d.size ≤ pos + b → Lib.idxFuncFrom M.nd true d b pos = -1 → ∀ i (hi : i < d.size), pos ≤ i → 48 ≤ (d[i]'hi).toNat ∧ (d[i]'hi).toNat ≤ 57
  | 0, pos, hb, _, i, hi, hp => by omega
  | b + 1, pos, hb, h, i, hi, hp => by
    have hq : pos < d.size := by omega
    unfold Lib.idxFuncFrom at h
    rw [if_pos hq] at h
    by_cases hn : M.nd (Utf8.decode d pos).1 = true
    · rw [if_pos hn] at h; omega
    · rw [if_neg hn] at h
      have hr : 48 ≤ (Utf8.decode d pos).1 ∧ (Utf8.decode d pos).1 ≤ 57 := by
        unfold M.nd at hn; simp at hn; omega
      by_cases ha : (d[pos]'hq).toNat < 128
      · have hd := decode_ascii d pos hq ha
        rw [hd] at hr h
        by_cases hi2 : i = pos
        · subst hi2; exact hr
        · exact digits_from d b (pos + 1) (by omega) h i hi (by omega)
      · have := (decode_high d pos hq (by omega)).1
        omega
theorem digits_of (d : ByteArray) (h : Lib.idxFunc M.nd true d = -1) : ∀ i (hi : i < d.size), 48 ≤ (d[i]'hi).toNat ∧ (d[i]'hi).toNat ≤ 57 :=
  fun i hi => digits_from d d.size 0 (by omega) h i hi (by omega)

namespace M
/-- The digits of a text: what is behind a sign. -/
def dgt (s : ByteArray) : ByteArray := ⟨(Lib.trimPrefix s.data.toList [45]).toArray⟩
def sgnd (s : ByteArray) : Bool := Lib.hasPrefix s.data.toList [45]
/-- Is a text a number? -/
def isN (s : ByteArray) : Bool := (decide (1 ≤ (dgt s).size) && decide ((dgt s).size ≤ 4)) && (decide (Lib.idxFunc nd true (dgt s) = -1) && !(decide ((dgt s).data.toList.headD 0 = 48) && (sgnd s || decide (1 < (dgt s).size))))
/-- Which one. -/
def valN (s : ByteArray) : Int := (Lib.atoi s.data.toList).getD 0
theorem digitVal_some (b : UInt8) (h1 : 48 ≤ b.toNat) (h2 : b.toNat ≤ 57) : ∃ d, Lib.digitVal b = some d := by
  exact ⟨_, by unfold Lib.digitVal; rw [if_pos ⟨h1, h2⟩]⟩
theorem decFrom_some : ∀ (l : List UInt8) (acc : Nat), (∀ b ∈ l, 48 ≤ b.toNat ∧ b.toNat ≤ 57) → ∃ m, Lib.decFrom acc l = some m
  | [], acc, _ => ⟨acc, rfl⟩
  | b :: r, acc, h => by
    obtain ⟨d, hd⟩ := digitVal_some b (h b (by simp)).1 (h b (by simp)).2
    unfold Lib.decFrom
    rw [hd]
    exact decFrom_some r _ (fun x hx => h x (by simp [hx]))
theorem decNat_some' (l : List UInt8) (h0 : l ≠ []) (h : ∀ b ∈ l, 48 ≤ b.toNat ∧ b.toNat ≤ 57) : ∃ m, Lib.decNat l = some m := by
  obtain ⟨m, hm⟩ := decFrom_some l 0 h
  cases l with
  | nil => exact absurd rfl h0
  | cons b r => exact ⟨m, by unfold Lib.decNat; simpa using hm⟩
theorem all_digits (d : ByteArray) (h : Lib.idxFunc nd true d = -1) : ∀ b ∈ d.data.toList, 48 ≤ b.toNat ∧ b.toNat ≤ 57 := by
  intro b hb
  obtain ⟨i, hi, rfl⟩ := List.getElem_of_mem hb
  exact digits_of d h i (by rw [Lib.size_eq]; exact hi)
theorem atoi_some (s : ByteArray) (h0 : 1 ≤ (dgt s).size) (h : Lib.idxFunc nd true (dgt s) = -1) : ∃ n, Lib.atoi s.data.toList = some n := by
  have hall := all_digits (dgt s) h
  rw [Lib.size_eq] at h0
  have hdd : (dgt s).data.toList = Lib.trimPrefix s.data.toList [45] := by unfold dgt; simp
  rw [hdd] at hall h0
  generalize s.data.toList = l at *
  cases l with
  | nil => simp [Lib.trimPrefix, Lib.hasPrefix] at h0
  | cons b r =>
    by_cases hb : b = 45
    · subst hb
      have e : Lib.trimPrefix (45 :: r) [45] = r := by simp [Lib.trimPrefix, Lib.hasPrefix]
      rw [e] at hall h0
      obtain ⟨m, hm⟩ := decNat_some' r (by intro hc; rw [hc] at h0; simp at h0) hall
      exact ⟨-(m : Int), by simp [Lib.atoi, hm]⟩
    · have e : Lib.trimPrefix (b :: r) [45] = b :: r := by simp [Lib.trimPrefix, Lib.hasPrefix, Ne.symm hb]
      rw [e] at hall
      obtain ⟨m, hm⟩ := decNat_some' (b :: r) (by simp) hall
      have hb43 : b ≠ 43 := by intro hc; have := hall b (by simp); rw [hc] at this; exact absurd this.1 (by decide)
      exact ⟨(m : Int), by simp [Lib.atoi, hb, hb43, hm]⟩
end M

theorem isNum_of (s : ByteArray) (h : M.isN s = true) : IsNum s (M.dgt s) (M.sgnd s) (M.valN s) := by
  unfold M.isN at h
  simp only [Bool.and_eq_true, decide_eq_true_eq, Bool.not_eq_true', Bool.and_eq_false_iff, decide_eq_false_iff_not, Bool.or_eq_false_iff] at h
  obtain ⟨⟨h1, h2⟩, h3, h4⟩ := h
  obtain ⟨n, hn⟩ := M.atoi_some s h1 h3
  have hv : M.valN s = n := by unfold M.valN; rw [hn]; rfl
  have hdd : (M.dgt s).data.toList = Lib.trimPrefix s.data.toList [45] := by unfold M.dgt; simp
  refine ⟨rfl, hdd.symm, h1, h2, h3, ⟨?_, ?_⟩, by rw [hv]; exact hn⟩
  · rw [Lib.size_eq] at h2 ⊢
    rw [hdd] at h2
    unfold Lib.trimPrefix at h2
    split at h2
    · rw [List.length_drop] at h2; simp only [List.length_cons, List.length_nil] at h2; omega
    · omega
  · rcases h4 with h4 | ⟨h4, h5⟩
    · left
      intro hp hc
      apply h4
      have : (M.dgt s).data.toList = (M.dgt s)[0]'hp :: (M.dgt s).data.toList.tail := by
        have hl : 0 < (M.dgt s).data.toList.length := by rw [← Lib.size_eq]; exact hp
        cases hq : (M.dgt s).data.toList with
        | nil => rw [hq] at hl; simp at hl
        | cons x r =>
          have e : (M.dgt s)[0]'hp = (M.dgt s).data.toList[0]'hl := rfl
          rw [e]
          simp [hq]
      rw [this]
      exact UInt8.toNat_inj.1 (by simpa using hc)
    · right
      exact ⟨h4, by omega⟩
end Go.Proofs.YtmccbokjigjpnaaDoor
