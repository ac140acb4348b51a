/- Pitches moved step by step, as plain functions. -/
import Derived.Test.YtaohahahhjkcdaeGreatDoorSG10
import Derived.Test.YtaohahahhjkcdaeGreatDoorSG22
namespace Go.Proofs.YtaohahahhjkcdaeGreatDoor.G.M
set_option linter.unusedVariables false

/-- One move of a pitch: the pitch and the error. -/
def mv1 (p : Int × Int × Int) (s h : Int) : (Int × Int × Int) × Int :=
  if Proofs.YtaohahahhjkcdaeGreatDoor.M.rt p.1 p.2.1 p.2.2 = false then ((0, 0, 0), 2) else if Proofs.YtaohahahhjkcdaeGreatDoor.M.inb s h = false then ((0, 0, 0), 3)
  else ((Proofs.YtaohahahhjkcdaeGreatDoor.M.ml p.1 p.2.1 p.2.2 s h, Proofs.YtaohahahhjkcdaeGreatDoor.M.ma p.1 p.2.1 p.2.2 s h, Proofs.YtaohahahhjkcdaeGreatDoor.M.mo p.1 p.2.1 p.2.2 s h), Proofs.YtaohahahhjkcdaeGreatDoor.M.me p.1 p.2.1 p.2.2 s h)
/-- The moves below k, the last one first. -/
def mvd (ms mh : Nat → Int) : Nat → Int × Int × Int → (Int × Int × Int) × Int
  | 0, p => (p, 0)
  | k + 1, p => if (mv1 p (ms k) (mh k)).2 ≠ 0 then ((0, 0, 0), (mv1 p (ms k) (mh k)).2) else mvd ms mh k (mv1 p (ms k) (mh k)).1
theorem mvd_stop {ms mh : Nat → Int} {k : Nat} {p : Int × Int × Int} (h : (mv1 p (ms k) (mh k)).2 ≠ 0) : mvd ms mh (k + 1) p = ((0, 0, 0), (mv1 p (ms k) (mh k)).2) := by rw [mvd, if_pos h]
theorem mvd_on {ms mh : Nat → Int} {k : Nat} {p : Int × Int × Int} (h : (mv1 p (ms k) (mh k)).2 = 0) : mvd ms mh (k + 1) p = mvd ms mh k (mv1 p (ms k) (mh k)).1 := by rw [mvd, if_neg (by simp [h])]

end Go.Proofs.YtaohahahhjkcdaeGreatDoor.G.M
