/- The seven signs at a place: what the document looks for, and what the program reads there, are one. -/
import Derived.Test.YtmccbokjigjpnaaDoorQT1
import Derived.Test.YtmccbokjigjpnaaDoorQD2
import Derived.Lib.RuneCountTail
import Derived.Lib.DecodeN
namespace Go.Proofs.YtmccbokjigjpnaaDoor
set_option linter.unusedVariables false
set_option linter.unusedSimpArgs false
namespace M

/-- The signs' texts and worths, in the document's order. -/
def T (k : Nat) : List UInt8 := if k = 0 then [226, 153, 175] else if k = 1 then [35] else if k = 2 then [240, 157, 132, 170] else if k = 3 then [120] else if k = 4 then [226, 153, 173] else if k = 5 then [98] else [240, 157, 132, 171]
def V (k : Nat) : Int := if k = 0 then 1 else if k = 1 then 1 else if k = 2 then 2 else if k = 3 then 2 else if k = 4 then -1 else if k = 5 then -1 else -2
def TB (k : Nat) : ByteArray := ⟨(T k).toArray⟩
theorem TB_size (k : Nat) : 1 ≤ (TB k).size ∧ (TB k).size ≤ 4 := by
  have e : (TB k).size = (T k).length := by show (T k).toArray.size = _; simp
  rw [e]
  rcases (show k = 0 ∨ k = 1 ∨ k = 2 ∨ k = 3 ∨ k = 4 ∨ k = 5 ∨ 6 ≤ k by omega) with rfl | rfl | rfl | rfl | rfl | rfl | h
  iterate 6 decide
  · unfold T
    rw [if_neg (by omega), if_neg (by omega), if_neg (by omega), if_neg (by omega), if_neg (by omega), if_neg (by omega)]
    decide
theorem V_bd (k : Nat) : -2 ≤ V k ∧ V k ≤ 2 ∧ V k ≠ 0 := by unfold V; repeat' split <;> omega

/-- A text stands at a place, byte by byte. -/
def stl (s : ByteArray) (i : Nat) : List UInt8 → Prop
  | [] => True
  | c :: r => i < s.size ∧ s.get! i = c ∧ stl s (i + 1) r
theorem len_data (s : ByteArray) : s.data.toList.length = s.size := by rw [Array.length_toList]; rfl
theorem get!_data (s : ByteArray) (i : Nat) (h : i < s.size) : s.get! i = (s.data.toList)[i]'(by rw [len_data]; exact h) := by
  have h' : i < s.data.size := h
  show s.data[i]! = _
  rw [getElem!_pos s.data i h', Array.getElem_toList]
theorem ext_list (s : ByteArray) (i n : Nat) : (s.extract i (i + n)).data.toList = (s.data.toList.drop i).take n := by
  simp [ByteArray.data_extract, List.drop_take, Nat.add_sub_cancel_left]
theorem stl_take (s : ByteArray) : ∀ (l : List UInt8) (i : Nat), stl s i l ↔ (i + l.length ≤ s.size ∧ (s.data.toList.drop i).take l.length = l) ∨ l = []
  | [], i => by simp [stl]
  | c :: r, i => by
    have ih := stl_take s r (i + 1)
    have hsz := len_data s
    simp only [stl, ih, List.length_cons, reduceCtorEq, or_false]
    constructor
    · rintro ⟨h1, h2, h3⟩
      have e : s.data.toList.drop i = s.get! i :: s.data.toList.drop (i + 1) := by
        rw [List.drop_eq_getElem_cons (by omega), get!_data s i h1]
      rcases h3 with ⟨h3, h4⟩ | rfl
      · exact ⟨by omega, by rw [e, List.take_succ_cons, h4, h2]⟩
      · exact ⟨by simp; omega, by rw [e, List.take_succ_cons, h2]; simp⟩
    · rintro ⟨h1, h2⟩
      have hi : i < s.size := by omega
      have e : s.data.toList.drop i = s.get! i :: s.data.toList.drop (i + 1) := by
        rw [List.drop_eq_getElem_cons (by omega), get!_data s i hi]
      rw [e, List.take_succ_cons, List.cons.injEq] at h2
      exact ⟨hi, h2.1, .inl ⟨by omega, h2.2⟩⟩
theorem toList_data (s : ByteArray) : s.toList = s.data.toList := by rw [ByteArray.toList_eq]
theorem sts_iff (s : ByteArray) (i : Nat) (l : List UInt8) (hl : l ≠ []) : sts s i ⟨l.toArray⟩ = true ↔ stl s i l := by
  rw [stl_take]
  have e1 : (⟨l.toArray⟩ : ByteArray).size = l.length := by show l.toArray.size = _; simp
  have e2 : (⟨l.toArray⟩ : ByteArray).toList = l := by rw [toList_data]
  unfold sts
  rw [e1, e2, toList_data, ext_list]
  simp [hl]

/-- The first sign at a place, in numbers. -/
def fsN (n b0 b1 b2 b3 : Nat) : Option Nat :=
  if 2 < n ∧ b0 = 226 ∧ b1 = 153 ∧ b2 = 175 then some 0 else if 0 < n ∧ b0 = 35 then some 1 else if 3 < n ∧ b0 = 240 ∧ b1 = 157 ∧ b2 = 132 ∧ b3 = 170 then some 2 else if 0 < n ∧ b0 = 120 then some 3 else if 2 < n ∧ b0 = 226 ∧ b1 = 153 ∧ b2 = 173 then some 4 else if 0 < n ∧ b0 = 98 then some 5 else if 3 < n ∧ b0 = 240 ∧ b1 = 157 ∧ b2 = 132 ∧ b3 = 171 then some 6 else none
theorem wo_z (r : Nat) (h : r ≠ 9839 ∧ r ≠ 35 ∧ r ≠ 119082 ∧ r ≠ 120 ∧ r ≠ 9837 ∧ r ≠ 98 ∧ r ≠ 119083) : wo r = 0 := by
  unfold wo; rw [if_neg (by omega), if_neg (by omega), if_neg (by omega), if_neg (by omega)]
theorem wo_1 (r : Nat) (h : r = 9839 ∨ r = 35) : wo r = 1 := by unfold wo; rw [if_pos h]
theorem wo_2 (r : Nat) (h : r = 119082 ∨ r = 120) : wo r = 2 := by unfold wo; rw [if_neg (by omega), if_pos h]
theorem wo_3 (r : Nat) (h : r = 9837 ∨ r = 98) : wo r = -1 := by unfold wo; rw [if_neg (by omega), if_neg (by omega), if_pos h]
theorem wo_4 (r : Nat) (h : r = 119083) : wo r = -2 := by unfold wo; rw [if_neg (by omega), if_neg (by omega), if_neg (by omega), if_pos h]
set_option maxRecDepth 100000 in
set_option maxHeartbeats 4000000 in
theorem wo_dec (n b0 b1 b2 b3 : Nat) (hn : 1 ≤ n) (h0 : b0 < 256) (h1 : b1 < 256) (h2 : b2 < 256) (h3 : b3 < 256) :
    (fsN n b0 b1 b2 b3 = none → wo (Lib.decodeN n b0 b1 b2 b3).1 = 0) ∧ ∀ k, fsN n b0 b1 b2 b3 = some k → k ≤ 6 ∧ wo (Lib.decodeN n b0 b1 b2 b3).1 = V k ∧ (Lib.decodeN n b0 b1 b2 b3).2 = (T k).length := by
  constructor
  · intro h
    unfold fsN at h
    repeat' split at h
    all_goals first | (cases h; done) | skip
    unfold Lib.decodeN
    repeat' split
    all_goals (refine wo_z _ ?_; simp only; omega)
  · intro k h
    unfold fsN at h
    repeat' split at h
    all_goals first | (cases h; done) | (simp only [Option.some.injEq] at h; subst h)
    all_goals
      unfold Lib.decodeN
      repeat' split
      all_goals first | (exfalso; omega) | skip
      all_goals
        refine ⟨by omega, ?_, rfl⟩
        first | exact wo_1 _ (by simp only; omega) | exact wo_2 _ (by simp only; omega) | exact wo_3 _ (by simp only; omega) | exact wo_4 _ (by simp only; omega)
end M
end Go.Proofs.YtmccbokjigjpnaaDoor
