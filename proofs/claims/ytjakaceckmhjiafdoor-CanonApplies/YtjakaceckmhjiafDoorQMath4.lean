/- Plain numbers: the document's steps from letter to letter. -/
import Derived.Test.YtjakaceckmhjiafDoorQMath
namespace Go.Proofs.YtjakaceckmhjiafDoor.M

def up1 (l : Int) : Int := if l = 2 ∨ l = 6 then 1 else 2
theorem up1_bd (l : Int) : 1 ≤ up1 l ∧ up1 l ≤ 2 := by unfold up1; split <;> omega
theorem wh_next (k : Int) : wh (k + 1) = wh k + up1 (k % 7) := wh_up k
theorem wh_last (k : Int) : wh (k - 1) = wh k - up1 ((k - 1) % 7) := by have := wh_next (k - 1); rw [show k - 1 + 1 = k by omega] at this; omega
theorem wh_range (s : Int) (h1 : -2000 ≤ s) (h2 : s ≤ 2000) : -4000 ≤ wh s ∧ wh s ≤ 4000 := by have := wh_bd s; omega
theorem at_letter (s x y : Int) (e : 7 * y + x = s) (h1 : 0 ≤ x) (h2 : x ≤ 6) : x = s % 7 ∧ y = s / 7 := by omega
end Go.Proofs.YtjakaceckmhjiafDoor.M
