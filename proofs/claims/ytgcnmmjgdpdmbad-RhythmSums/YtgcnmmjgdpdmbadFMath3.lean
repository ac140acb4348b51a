/- What the sums, products and orders of two fractions tell, as plain functions. -/
import Derived.Test.YtgcnmmjgdpdmbadFMath2
namespace Go.Proofs.Ytgcnmmjgdpdmbad.F.M

/-- Which of two numbers is the greater. -/
def sg (x y : Int) : Int := if x < y then -1 else if y < x then 1 else 0
theorem sg_lt (x y : Int) (h : x < y) : sg x y = -1 := if_pos h
theorem sg_gt (x y : Int) (h : y < x) : sg x y = 1 := by unfold sg; rw [if_neg (by omega), if_pos h]
theorem sg_eq (x y : Int) (h : x = y) : sg x y = 0 := by unfold sg; rw [if_neg (by omega), if_neg (by omega)]

/-- What is told of U over V, if k: else that something is not written as it must be. -/
def rU (k : Bool) (u v : Int) : Int := if k = true then mu u v else 0
def rD (k : Bool) (u v : Int) : Int := if k = true then md u v else 0
def rE (k : Bool) (u v : Int) : Int := if k = true then me u v else 2
def oI (k : Bool) (x y : Int) : Int := if k = true then sg x y else 0
def oE (k : Bool) : Int := if k = true then 0 else 2

/-- The two parts of a quotient, the sign above. -/
def qU (a d c : Int) : Int := if c < 0 then -(a * d) else a * d
def qD (b c : Int) : Int := if c < 0 then -(b * c) else b * c

end Go.Proofs.Ytgcnmmjgdpdmbad.F.M
