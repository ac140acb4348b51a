/- The program's reader of numbers at every text. -/
import Derived.Test.YtmccbokjigjpnaaDoorQT11
namespace Go.Proofs.YtmccbokjigjpnaaDoor
open Go.RowKit Go.Lib Go.Joins
set_option linter.unusedSimpArgs false
set_option linter.unusedVariables false

theorem idx_cases (s : ByteArray) (h : Lib.idxFunc M.nd true s ≠ -1) : decide (0 ≤ Lib.idxFunc M.nd true s) = true := by
  rcases Lib.idxFuncFrom_range M.nd true s s.size 0 with h1 | h1
  · exact absurd h1 h
  · exact decide_eq_true (by have := h1.1; unfold Lib.idxFunc; omega)

theorem head_eq : ∀ (l : List UInt8) (h : 0 < l.length), l[0]'h = l.headD 0
  | [], h => by simp at h
  | x :: r, _ => rfl
set_option maxRecDepth 100000 in
set_option maxHeartbeats 1000000 in
theorem readNumber_no (s : ByteArray) (w : World) (h : M.isN s = false) :
    Calls Tryd.prog 46 #[.string s] w fun e w' => e = .returned (.tuple #[.int .i64 0, .bool false]) ∧ Below w.heap.size w w' := by
  have hd : (⟨(Lib.trimPrefix s.data.toList [45]).toArray⟩ : ByteArray) = M.dgt s := rfl
  have h1 : Lib.hasPrefix s.data.toList [45] = M.sgnd s := rfl
  have eg : ∀ args w, (callFunc 65 args).run Tryd.prog w = .ok (.enter 65 args) w := fun args w => by kernel_rfl
  generalize hdd : M.dgt s = d at *
  generalize hng : M.sgnd s = neg at *
  unfold M.isN at h
  rw [hdd, hng] at h
  by_cases c1 : 1 ≤ d.size
  · by_cases c2 : d.size ≤ 4
    · have i1 : (1 : Int) ≤ d.size := by omega
      have i2 : (d.size : Int) ≤ 4 := by omega
      by_cases c3 : Lib.idxFunc M.nd true d = -1
      · have h5' : decide (0 ≤ Lib.idxFunc M.nd true d) = false := by rw [c3]; decide
        have hx : 0 < d.size := by omega
        have hz : d.data.toList.headD 0 = 48 ∧ (neg = true ∨ 1 < d.size) := by
          simp only [c1, c2, c3, decide_true, Bool.true_and, Bool.not_eq_false', Bool.and_eq_true, decide_eq_true_eq, Bool.or_eq_true] at h
          exact h
        have hb0 : (((d[0]'hx).toNat : Int) == 48) = true := by
          have hl : 0 < d.data.toList.length := by rw [← Lib.size_eq]; exact hx
          have e : d[0]'hx = d.data.toList[0]'hl := rfl
          have e2 : d.data.toList[0]'hl = d.data.toList.headD 0 := head_eq _ hl
          rw [e, e2, hz.1]; decide
        have hz2 := hz.2
        clear hz h
        cases hn : neg
        · have g1 : (1 : Int) < d.size := by rcases hz2 with g | g; rw [hn] at g; exact absurd g (by decide); omega
          clear hz2
          rw [hn] at h1
          go_enter Tryd.func46, Tryd.ntmps46
          go_wp2_with (first
            | (go_at_call 49; refine (Tryd.strings_CutPrefix _ _ _).mono ?_; rintro e w' ⟨rfl, hw⟩; rw [hw, show (ByteArray.mk #[45]).data.toList = [45] from rfl, h1, hd])
            | (go_at_call 64; refine (Tryd.strings_ContainsFunc_runes 65 #[] eg M.nd d _ (notDigit_pred _)).mono ?_; rintro e w1 ⟨rfl, hb1⟩; rw [h5']))
          go_returns
          exact ⟨rfl, hb1⟩
        · clear hz2
          rw [hn] at h1
          go_enter Tryd.func46, Tryd.ntmps46
          go_wp2_with (first
            | (go_at_call 49; refine (Tryd.strings_CutPrefix _ _ _).mono ?_; rintro e w' ⟨rfl, hw⟩; rw [hw, show (ByteArray.mk #[45]).data.toList = [45] from rfl, h1, hd])
            | (go_at_call 64; refine (Tryd.strings_ContainsFunc_runes 65 #[] eg M.nd d _ (notDigit_pred _)).mono ?_; rintro e w1 ⟨rfl, hb1⟩; rw [h5']))
          go_returns
          exact ⟨rfl, hb1⟩
      · have h5' := idx_cases d c3
        clear h
        go_enter Tryd.func46, Tryd.ntmps46
        go_wp2_with (first
          | (go_at_call 49; refine (Tryd.strings_CutPrefix _ _ _).mono ?_; rintro e w' ⟨rfl, hw⟩; rw [hw, show (ByteArray.mk #[45]).data.toList = [45] from rfl, h1, hd])
          | (go_at_call 64; refine (Tryd.strings_ContainsFunc_runes 65 #[] eg M.nd d _ (notDigit_pred _)).mono ?_; rintro e w1 ⟨rfl, hb1⟩; rw [h5']))
        go_returns
        exact ⟨rfl, hb1⟩
    · have i1 : ¬ (d.size : Int) < 1 := by omega
      have i2 : (4 : Int) < d.size := by omega
      clear h
      go_enter Tryd.func46, Tryd.ntmps46
      go_wp2_with (go_at_call 49; refine (Tryd.strings_CutPrefix _ _ _).mono ?_; rintro e w' ⟨rfl, hw⟩; rw [hw, show (ByteArray.mk #[45]).data.toList = [45] from rfl, h1, hd])
      go_returns
      exact ⟨rfl, Below.refl _ _⟩
  · have i1 : (d.size : Int) < 1 := by omega
    clear h
    go_enter Tryd.func46, Tryd.ntmps46
    go_wp2_with (go_at_call 49; refine (Tryd.strings_CutPrefix _ _ _).mono ?_; rintro e w' ⟨rfl, hw⟩; rw [hw, show (ByteArray.mk #[45]).data.toList = [45] from rfl, h1, hd])
    go_returns
    exact ⟨rfl, Below.refl _ _⟩

theorem readNumber_yes (s : ByteArray) (w : World) (h : M.isN s = true) :
    Calls Tryd.prog 46 #[.string s] w fun e w' => e = .returned (.tuple #[.int .i64 (M.valN s), .bool true]) ∧ Below w.heap.size w w' :=
  readNumber_ok s _ _ _ w (isNum_of s h)
end Go.Proofs.YtmccbokjigjpnaaDoor
