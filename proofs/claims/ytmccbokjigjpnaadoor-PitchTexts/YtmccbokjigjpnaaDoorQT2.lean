/- What the program's reading of a number comes to, where it is one. -/
import Derived.Test.YtmccbokjigjpnaaDoorQT1
import Derived.Lib.SmallJoins
namespace Go.Proofs.YtmccbokjigjpnaaDoor
open Go.RowKit Go.Lib Go.Joins
set_option linter.unusedSimpArgs false
set_option linter.unusedVariables false

namespace M
def nd (r : Nat) : Bool := decide (r < 48) || decide (57 < r)
end M

theorem notDigit_any (r : Nat) (w : World) :
    Calls Tryd.prog 65 #[.int .i32 r] w fun e w' => e = .returned (.bool (M.nd r)) ∧ w' = w := by
  by_cases h1 : (r : Int) < 48
  · have e1 : M.nd r = true := by unfold M.nd; simp; omega
    rw [e1]
    go_enter Tryd.func65, Tryd.ntmps65
    go_wp2
    go_ret
    exact ⟨rfl, rfl⟩
  · by_cases h2 : 57 < (r : Int)
    · have e1 : M.nd r = true := by unfold M.nd; simp; omega
      rw [e1]
      go_enter Tryd.func65, Tryd.ntmps65
      go_wp2
      go_ret
      exact ⟨rfl, rfl⟩
    · have e1 : M.nd r = false := by unfold M.nd; simp; omega
      rw [e1]
      go_enter Tryd.func65, Tryd.ntmps65
      go_wp2
      go_ret
      exact ⟨rfl, rfl⟩

theorem notDigit_pred (w : World) : PredAtRunes Tryd.prog 65 #[] M.nd w := fun W x _ _ =>
  (notDigit_any x W).mono fun _ _ ⟨a, b⟩ => ⟨a, 0, by rw [b]; rfl⟩

/-- What makes a text a number: n, its digits d, and whether a sign stands ahead. -/
structure IsNum (s d : ByteArray) (neg : Bool) (n : Int) : Prop where
  pre : Lib.hasPrefix s.data.toList [45] = neg
  cut : Lib.trimPrefix s.data.toList [45] = d.data.toList
  few : 1 ≤ d.size
  most : d.size ≤ 4
  digits : Lib.idxFunc M.nd true d = -1
  head : (s.size ≤ 18) ∧ ((∀ h : 0 < d.size, (d[0]'h).toNat ≠ 48) ∨ (neg = false ∧ d.size = 1))
  val : Lib.atoi s.data.toList = some n

set_option maxRecDepth 100000 in
set_option maxHeartbeats 1000000 in
theorem readNumber_ok (s d : ByteArray) (neg : Bool) (n : Int) (w : World) (h : IsNum s d neg n) :
    Calls Tryd.prog 46 #[.string s] w fun e w' => e = .returned (.tuple #[.int .i64 n, .bool true]) ∧ Below w.heap.size w w' := by
  obtain ⟨h1, h2, h3, h4, h5, ⟨h6, h7⟩, h8⟩ := h
  have hd : (⟨d.data.toList.toArray⟩ : ByteArray) = d := by cases d; simp
  have h5' : decide (0 ≤ Lib.idxFunc M.nd true d) = false := by rw [h5]; decide
  have eg : ∀ args w, (callFunc 65 args).run Tryd.prog w = .ok (.enter 65 args) w := fun args w => by kernel_rfl
  have hx : 0 < d.size := by omega
  rcases h7 with h7 | ⟨h7, h9⟩
  · have hb := h7 hx
    have hb0 : (((d[0]'hx).toNat : Int) == 48) = false := by simp; omega
    clear h7
    go_enter Tryd.func46, Tryd.ntmps46
    go_wp2_with (first
      | (go_at_call 49; refine (Tryd.strings_CutPrefix _ _ _).mono ?_; rintro e w' ⟨rfl, hw⟩; rw [hw, show (ByteArray.mk #[45]).data.toList = [45] from rfl, h1, h2, hd])
      | (go_at_call 64; refine (Tryd.strings_ContainsFunc_runes 65 #[] eg M.nd d _ (notDigit_pred _)).mono ?_; rintro e w1 ⟨rfl, hb1⟩; rw [h5'])
      | (go_at_call 66; refine (Tryd.strconv_Atoi s n h6 h8 _).mono ?_; rintro e w2 ⟨rfl, t, hw2⟩))
    go_region
    go_wp2
    go_returns
    exact ⟨rfl, (hb1.trans (below_bytesWorld _ _ _ _ hb1.size)).drew⟩
  · subst h7
    go_enter Tryd.func46, Tryd.ntmps46
    go_wp2_with (first
      | (go_at_call 49; refine (Tryd.strings_CutPrefix _ _ _).mono ?_; rintro e w' ⟨rfl, hw⟩; rw [hw, show (ByteArray.mk #[45]).data.toList = [45] from rfl, h1, h2, hd])
      | (go_at_call 64; refine (Tryd.strings_ContainsFunc_runes 65 #[] eg M.nd d _ (notDigit_pred _)).mono ?_; rintro e w1 ⟨rfl, hb1⟩; rw [h5'])
      | (go_at_call 66; refine (Tryd.strconv_Atoi s n h6 h8 _).mono ?_; rintro e w2 ⟨rfl, t, hw2⟩))
    all_goals
      go_region
      go_wp2
      go_returns
      exact ⟨rfl, (hb1.trans (below_bytesWorld _ _ _ _ hb1.size)).drew⟩
end Go.Proofs.YtmccbokjigjpnaaDoor
