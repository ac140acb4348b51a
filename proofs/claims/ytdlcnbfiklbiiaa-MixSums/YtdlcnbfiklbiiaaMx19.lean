/- What the document's Sum comes to, whatever the tracks and gains. -/
import Derived.Test.YtdlcnbfiklbiiaaMx17
namespace Go.Proofs.Ytdlcnbfiklbiiaa.Mx
open Go.RowKit Go.Maps Go.Sort
set_option linter.unusedVariables false
set_option linter.unusedSimpArgs false

set_option maxHeartbeats 2000000 in
theorem refSum_many (P : List (List Int)) (G : List Int) (ao bo : Option Addr) (n m cp cg : Nat) (w : World) (hn : P.length = n) (h : 256 < n) :
    Calls Try.prog 10 #[.slice ao n cp, .slice bo m cg] w fun e w' => SrQ w P G e w' := by
  have HQ : Hid (SrQ w P G (.returned (.tuple #[.slice none 0 0, .int .i64 5])) w) := SrQ.bad (by unfold se; rw [if_pos (by omega)]) (by decide) (Below.refl _ _)
  have h' : (256 : Int) < (n : Int) := by omega
  clear hn h
  go_enter Try.func10, Try.ntmps10
  go_wp2_with fail
  go_returns
  exact HQ.out
set_option maxHeartbeats 2000000 in
theorem refSum_fit (P : List (List Int)) (G : List Int) (ao bo : Option Addr) (n m cp cg : Nat) (w : World) (hn : P.length = n) (hm : G.length = m) (h : ¬ 256 < n) (hd : m ≠ n) :
    Calls Try.prog 10 #[.slice ao n cp, .slice bo m cg] w fun e w' => SrQ w P G e w' := by
  have HQ : Hid (SrQ w P G (.returned (.tuple #[.slice none 0 0, .int .i64 8])) w) := SrQ.bad (by unfold se; rw [if_neg (by omega), if_neg (by omega)]) (by decide) (Below.refl _ _)
  have h' : ¬ (256 : Int) < (n : Int) := by omega
  have hd' : ((m : Int) != (n : Int)) = true := by simp; omega
  clear hn h hd
  go_enter Try.func10, Try.ntmps10
  go_wp2_with fail
  go_returns
  exact HQ.out
theorem refSum_any (P : List (List Int)) (G : List Int) (ao bo : Option Addr) (n m cp cg : Nat) (w : World) (hP : PL w w.heap.size ao P) (hG : IL w (fun b => b < w.heap.size) bo G) (hn : P.length = n) (hm : G.length = m) (hc1 : n ≤ cp) (hc2 : cp ≤ 9223372036854775807) (hg1 : m ≤ cg) (hg2 : cg ≤ 9223372036854775807) (hlen : ∀ p ∈ P, p.length ≤ 17592186044416) :
    Calls Try.prog 10 #[.slice ao n cp, .slice bo m cg] w fun e w' => SrQ w P G e w' := by
  by_cases h1 : 256 < n
  · exact refSum_many P G ao bo n m cp cg w hn h1
  · by_cases h2 : m = n
    · subst h2; exact refSum_main P G ao bo m cp cg w hP hG hn hm h1 hc1 hc2 hg1 hg2 hlen
    · exact refSum_fit P G ao bo n m cp cg w hn hm h1 h2
end Go.Proofs.Ytdlcnbfiklbiiaa.Mx
