/- Plain texts: what Name writes is a name. -/
import Derived.Test.YtmccbokjigjpnaaDoorQT10a
namespace Go.Proofs.YtmccbokjigjpnaaDoor
open Go.RowKit Go.Lib Go.Joins
set_option linter.unusedSimpArgs false
set_option linter.unusedVariables false

namespace M
theorem qc_cases (p : Bool) (m : Int) : qc p m = 65 ∨ qc p m = 80 ∨ qc p m = 100 ∨ qc p m = 77 ∨ qc p m = 109 := by
  unfold qc
  by_cases h1 : 0 < m
  · simp [h1]
  · by_cases h2 : m = 0
    · cases p <;> simp [h2]
    · by_cases h3 : m = -1
      · cases p <;> simp [h1, h2, h3]
      · cases p <;> simp [h1, h2, h3]
theorem nm_at (p : Bool) (m : Int) (n : Nat) (N : Int) (h1 : 1 ≤ n) (h2 : n ≤ 6) (h3 : 1 ≤ N) (h4 : N ≤ 201) : nmB (qc p m) n N = true := by
  have e1 : n - 1 + 1 = n := by omega
  have e2 : (((N - 1).toNat : Nat) : Int) + 1 = N := by omega
  rcases qc_cases p m with h | h | h | h | h <;> rw [h]
  · have := nm_A ⟨n - 1, by omega⟩ ⟨(N - 1).toNat, by omega⟩; rwa [e1, e2] at this
  · have := nm_P ⟨n - 1, by omega⟩ ⟨(N - 1).toNat, by omega⟩; rwa [e1, e2] at this
  · have := nm_d ⟨n - 1, by omega⟩ ⟨(N - 1).toNat, by omega⟩; rwa [e1, e2] at this
  · have := nm_M ⟨n - 1, by omega⟩ ⟨(N - 1).toNat, by omega⟩; rwa [e1, e2] at this
  · have := nm_m ⟨n - 1, by omega⟩ ⟨(N - 1).toNat, by omega⟩; rwa [e1, e2] at this
theorem size_back (p : Bool) (m W : Int) : W + m = if qc p m = 65 then W + qn p m else if qc p m = 109 then W - 1 else if qc p m = 100 then (if p = true then W - qn p m else W - qn p m - 1) else W := by
  unfold qc qn
  by_cases h1 : 0 < m
  · simp [h1]
  · by_cases h2 : m = 0
    · cases p <;> simp [h2]
    · by_cases h3 : m = -1
      · cases p <;> simp [h1, h2, h3] <;> omega
      · cases p <;> simp [h1, h2, h3] <;> omega
end M

theorem bplain (l : List UInt8) (h : l.all (fun x => decide (x.toNat < 128)) = true) : ∀ i (hi : i < (ByteArray.mk l.toArray).size), ((ByteArray.mk l.toArray)[i]'hi).toNat < 128 := by
  intro i hi
  have e : (ByteArray.mk l.toArray)[i]'hi = l[i]'(by rw [bsize] at hi; exact hi) := rfl
  rw [e]
  have := List.all_eq_true.1 h _ (List.getElem_mem (by rw [bsize] at hi; exact hi))
  simpa using this
theorem btake (x y : List UInt8) (n : Nat) (h : n = x.length) : (ByteArray.mk (x ++ y).toArray).extract 0 n = ByteArray.mk x.toArray := by
  subst h
  apply ByteArray.ext
  simp [ByteArray.data_extract]

/-- The name of an interval that goes up, with or without a sign ahead. -/
theorem isName_of (S H : Int) (neg : Bool) (t : ByteArray) (h1 : 0 ≤ S) (h2 : S ≤ 200) (h3 : -5000 ≤ H) (h4 : H ≤ 5000) (hq : M.un S H ≤ 6)
    (ht : t = ⟨((if neg = true then [45] else []) ++ (M.ut S H ++ M.tx (S + 1))).toArray⟩) :
    IsName t ⟨(M.ut S H ++ M.tx (S + 1)).toArray⟩ ⟨(M.ut S H).toArray⟩ ⟨(M.tx (S + 1)).toArray⟩ ⟨(M.dd (S + 1)).toArray⟩ neg (M.qc (M.pf S) (H - M.wh S)) (M.un S H).toNat S H := by
  have hp := M.un_pos S H
  have hb := M.nm_at (M.pf S) (H - M.wh S) (M.un S H).toNat (S + 1) (by omega) (by omega) (by omega) (by omega)
  unfold M.nmB at hb
  simp only [Bool.and_eq_true, decide_eq_true_eq] at hb
  obtain ⟨a1, a2, a3, a4⟩ := hb
  have hn := isNum_tx (S + 1) (by omega) (by omega)
  have hn' : (decide (S + 1 < 0)) = false := by simp; omega
  rw [hn'] at hn
  have hl : (M.ut S H).length = (M.un S H).toNat := by unfold M.ut; simp
  have htl : (M.tx (S + 1)).length ≤ 18 := by have := hn.head.1; rw [bsize] at this; exact this
  have hcast : (((M.un S H).toNat : Nat) : Int) = M.un S H := by omega
  have h0 : 0 < (ByteArray.mk (M.ut S H).toArray).size := by rw [bsize, hl]; omega
  have hback := M.size_back (M.pf S) (H - M.wh S) (M.wh S)
  rw [show M.wh S + (H - M.wh S) = H by omega] at hback
  refine ⟨?_, ?_, bplain _ a3, a4, by rw [bsize]; simp [hl], by rw [bsize]; simp [hl]; omega, btake _ _ _ hl.symm, bdrop _ _ _ hl.symm, hn, h0, ?_, by rw [bsize, hl], by omega, h1, h2, by omega, by omega, by rw [hcast]; exact hback⟩
  · rw [ht, bdata]; cases neg
    · simpa [M.ut] using a1
    · rfl
  · rw [ht, bdata, bdata]; cases neg
    · simpa [M.ut] using a2
    · simp [Lib.trimPrefix, Lib.hasPrefix]
  · have e : M.ut S H = M.qc (M.pf S) (H - M.wh S) :: List.replicate ((M.un S H).toNat - 1) (M.qc (M.pf S) (H - M.wh S)) := by
      unfold M.ut
      rw [show (M.un S H).toNat = (M.un S H).toNat - 1 + 1 by omega, List.replicate_succ]; rfl
    have g : ∀ (l : List UInt8) (x : UInt8) (r : List UInt8) (hl : l = x :: r) (hz : 0 < (ByteArray.mk l.toArray).size), (ByteArray.mk l.toArray)[0]'hz = x := by
      intro l x r hl hz; subst hl; rfl
    exact g _ _ _ e h0

theorem isName_up (s h : Int) (hi : M.inb s h = true) (h1 : 0 ≤ s) (hq : M.un s h ≤ 6) :
    IsName (M.nup s h) ⟨(M.ut s h ++ M.tx (s + 1)).toArray⟩ ⟨(M.ut s h).toArray⟩ ⟨(M.tx (s + 1)).toArray⟩ ⟨(M.dd (s + 1)).toArray⟩ false (M.qc (M.pf s) (h - M.wh s)) (M.un s h).toNat s h := by
  have hi' := M.inb_yes hi
  exact isName_of s h false _ h1 (by omega) (by omega) (by omega) hq (by unfold M.nup; rw [M.itoa_tx _ (by omega) (by omega)]; rfl)
theorem isName_dn (s h : Int) (hi : M.inb s h = true) (h1 : s ≤ 0) (hq : M.un (-s) (-h) ≤ 6) :
    IsName (M.ndn s h) ⟨(M.ut (-s) (-h) ++ M.tx (-s + 1)).toArray⟩ ⟨(M.ut (-s) (-h)).toArray⟩ ⟨(M.tx (-s + 1)).toArray⟩ ⟨(M.dd (-s + 1)).toArray⟩ true (M.qc (M.pf (-s)) (-h - M.wh (-s))) (M.un (-s) (-h)).toNat (-s) (-h) := by
  have hi' := M.inb_yes hi
  exact isName_of (-s) (-h) true _ (by omega) (by omega) (by omega) (by omega) hq (by unfold M.ndn; rw [M.itoa_tx _ (by omega) (by omega), List.append_assoc]; rfl)
end Go.Proofs.YtmccbokjigjpnaaDoor
