/- Plain texts: what Print writes is a pitch, what Itoa writes is a number. -/
import Derived.Test.YtmccbokjigjpnaaDoorQT4
namespace Go.Proofs.YtmccbokjigjpnaaDoor
open Go.RowKit Go.Lib Go.Joins
set_option linter.unusedSimpArgs false
set_option linter.unusedVariables false

namespace M
def dg (u : Nat) : List UInt8 := if u < 10 then [UInt8.ofNat (48 + u)] else if u < 100 then [UInt8.ofNat (48 + u / 10), UInt8.ofNat (48 + u % 10)] else [UInt8.ofNat (48 + u / 10 / 10), UInt8.ofNat (48 + u / 10 % 10), UInt8.ofNat (48 + u % 10)]
theorem dec_dg (u : Nat) (h : u < 1000) : Lib.decDigits u = dg u := by
  unfold dg
  by_cases h1 : u < 10
  · rw [Lib.decDigits, dif_pos h1, if_pos h1]
  · rw [Lib.decDigits, dif_neg h1, if_neg h1]
    by_cases h2 : u < 100
    · rw [Lib.decDigits, dif_pos (by omega), if_pos h2]; rfl
    · rw [Lib.decDigits, dif_neg (by omega), if_neg h2, Lib.decDigits, dif_pos (by omega)]; rfl
/-- The digits of a number, and the number as a text. -/
def dd (n : Int) : List UInt8 := if n < 0 then dg n.natAbs else dg n.toNat
def tx (n : Int) : List UInt8 := if n < 0 then 45 :: dg n.natAbs else dg n.toNat
theorem itoa_tx (n : Int) (h1 : -1000 < n) (h2 : n < 1000) : Lib.itoa n = tx n := by
  unfold Lib.itoa tx
  split
  · rw [dec_dg _ (by omega)]
  · rw [dec_dg _ (by omega)]
def numB (n : Int) : Bool := decide (Lib.hasPrefix (tx n) [45] = decide (n < 0)) && (decide (Lib.trimPrefix (tx n) [45] = dd n) && (decide (1 ≤ (dd n).length ∧ (dd n).length ≤ 4 ∧ (tx n).length ≤ 18) && (decide (Lib.idxFunc nd true ⟨(dd n).toArray⟩ = -1) && (decide ((dd n).headD 0 ≠ 48 ∨ (¬ n < 0 ∧ (dd n).length = 1)) && decide (Lib.atoi (tx n) = some n)))))
theorem num_all : ∀ k : Fin 214, numB ((k.val : Int) - 12) = true := by decide +kernel
theorem num_at (n : Int) (h1 : -12 ≤ n) (h2 : n ≤ 201) : numB n = true := by
  have := num_all ⟨(n + 12).toNat, by omega⟩
  rwa [show ((((n + 12).toNat : Nat) : Int)) - 12 = n by omega] at this
def sgB (a o : Int) : Bool := decide (sg ⟨(sgn a ++ tx o).toArray⟩ = (a, ((sgn a).length : Int), 0)) && decide ((sgn a).length ≤ 7)
theorem sg_all : ∀ i : Fin 7, ∀ k : Fin 25, sgB ((i.val : Int) - 3) ((k.val : Int) - 12) = true := by decide +kernel
theorem sg_at (a o : Int) (h1 : -3 ≤ a) (h2 : a ≤ 3) (h3 : -12 ≤ o) (h4 : o ≤ 12) : sgB a o = true := by
  have := sg_all ⟨(a + 3).toNat, by omega⟩ ⟨(o + 12).toNat, by omega⟩
  rwa [show ((((a + 3).toNat : Nat) : Int)) - 3 = a by omega, show ((((o + 12).toNat : Nat) : Int)) - 12 = o by omega] at this
end M

theorem bsize (l : List UInt8) : (ByteArray.mk l.toArray).size = l.length := by simp [ByteArray.size]
theorem bdata (l : List UInt8) : (ByteArray.mk l.toArray).data.toList = l := by simp
theorem bdrop (x y : List UInt8) (n : Nat) (h : n = x.length) : (ByteArray.mk (x ++ y).toArray).extract n (ByteArray.mk (x ++ y).toArray).size = ByteArray.mk y.toArray := by
  subst h
  apply ByteArray.ext
  rw [bsize]
  simp [ByteArray.data_extract]

theorem bhead : ∀ (l : List UInt8) (hp : 0 < (ByteArray.mk l.toArray).size), l.headD 0 ≠ 48 → ((ByteArray.mk l.toArray)[0]'hp).toNat ≠ 48
  | [], hp, _ => by rw [bsize] at hp; exact absurd hp (by decide)
  | x :: r, hp, h => by
    intro hc
    apply h
    have e : (ByteArray.mk (x :: r).toArray)[0]'hp = x := rfl
    rw [e] at hc
    exact UInt8.toNat_inj.1 (show x.toNat = UInt8.toNat 48 by rw [hc]; rfl)
theorem isNum_tx (n : Int) (h1 : -12 ≤ n) (h2 : n ≤ 201) : IsNum ⟨(M.tx n).toArray⟩ ⟨(M.dd n).toArray⟩ (decide (n < 0)) n := by
  have h := M.num_at n h1 h2
  unfold M.numB at h
  simp only [Bool.and_eq_true, decide_eq_true_eq] at h
  obtain ⟨a1, a2, ⟨a3, a4, a5⟩, a6, a7, a8⟩ := h
  refine ⟨by rw [bdata]; exact a1, by rw [bdata, bdata]; exact a2, by rw [bsize]; exact a3, by rw [bsize]; exact a4, a6, ⟨by rw [bsize]; exact a5, ?_⟩, by rw [bdata]; exact a8⟩
  rcases a7 with a7 | ⟨a7, a9⟩
  · left
    intro hp
    exact bhead _ hp a7
  · right
    exact ⟨by simp; omega, by rw [bsize]; exact a9⟩

theorem isPitch_pr (l a o : Int) (hr : M.rt l a o = true) : IsPitch (M.pr l a o) ⟨(M.sgn a ++ M.tx o).toArray⟩ ⟨(M.tx o).toArray⟩ ⟨(M.dd o).toArray⟩ (decide (o < 0)) l a o (M.sgn a).length := by
  obtain ⟨h1, h2, h3, h4, h5, h6⟩ := M.rt_yes hr
  have hs := M.sg_at a o h3 h4 h5 h6
  unfold M.sgB at hs
  simp only [Bool.and_eq_true, decide_eq_true_eq] at hs
  have hn := isNum_tx o h5 (by omega)
  have hn2 : (M.tx o).length ≤ 18 := by have := hn.head.1; rw [bsize] at this; exact this
  obtain ⟨x, hx, hi⟩ : ∃ x : UInt8, M.ltr l = [x] ∧ Lib.indexByte [67, 68, 69, 70, 71, 65, 66] x = l := by
    rcases (show l = 0 ∨ l = 1 ∨ l = 2 ∨ l = 3 ∨ l = 4 ∨ l = 5 ∨ l = 6 by omega) with rfl | rfl | rfl | rfl | rfl | rfl | rfl
    · exact ⟨67, rfl, by decide⟩
    · exact ⟨68, rfl, by decide⟩
    · exact ⟨69, rfl, by decide⟩
    · exact ⟨70, rfl, by decide⟩
    · exact ⟨71, rfl, by decide⟩
    · exact ⟨65, rfl, by decide⟩
    · exact ⟨66, rfl, by decide⟩
  have hp : M.pr l a o = ByteArray.mk ([x] ++ (M.sgn a ++ M.tx o)).toArray := by
    unfold M.pr; rw [hx, M.itoa_tx o (by omega) (by omega), List.append_assoc]
  rw [hp]
  have hz : (ByteArray.mk ([x] ++ (M.sgn a ++ M.tx o)).toArray).size = 1 + ((M.sgn a).length + (M.tx o).length) := by rw [bsize]; simp; omega
  have ht : 1 ≤ (M.tx o).length := by
    have h7 := hn.few
    rw [bsize] at h7
    unfold M.dd at h7
    unfold M.tx
    split at h7 <;> rename_i hc <;> simp only [hc, if_true, if_false, List.length_cons] <;> omega
  refine ⟨by rw [hz]; omega, hi, h1, bdrop [x] _ 1 rfl, by rw [bsize]; simp; omega, hs.1, by rw [hz]; omega, by rw [hz]; omega, ?_, hn, h5, h6⟩
  rw [← List.append_assoc]
  exact bdrop ([x] ++ M.sgn a) _ _ (by simp; omega)
end Go.Proofs.YtmccbokjigjpnaaDoor
