/- The law StaveBreaks: its walk. -/
import Derived.Test.YtiffppnaaenalagV9
import Derived.Test.YtiffppnaaenalagV11
namespace Go.Proofs.Ytiffppnaaenalag.V
open Go.RowKit Go.Sort Go.Maps
set_option linter.unusedVariables false
set_option linter.unusedSimpArgs false

set_option maxRecDepth 20000 in
set_option maxHeartbeats 4000000 in
theorem breaks_walk (b : M.Bx) (ao : Option Addr) (n c : Nat) (bo : Option Addr) (l d : Nat) (g : Nat → Int) (w : World) (hp : BL w ao n b) (hc : n ≤ c) (hcm : c ≤ 9223372036854775807) (hq : LI w bo l g) (hd : l ≤ d) (hdm : d ≤ 9223372036854775807) :
    Calls Try.prog 3 #[.slice ao n c, .int .i64 b.wide, .slice bo l d] w fun e w' => e = .returned (.bool true) ∧ Below w.heap.size w w' := by
  have HW := fun w hp => Wrong_any b ao n c w hp hc hcm
  have HX := fun w hp => refWrong_any b ao n c w hp hc hcm
  have HB := fun w hp => Break_any b ao n c w hp hc hcm
  have HD := fun w hp => refBreak_any b ao n c w hp hc hcm
  have HC := fun w hp hq => Cost_any b ao n c bo l d g w hp hc hcm hq hd hdm
  have HE := fun w hp hq => refCost_any b ao n c bo l d g w hp hc hcm hq hd hdm
  have HO : Hid (∀ (x y : Nat → Int) (m k : Nat) (C D E F : Int), M.BrR b n x m C E → M.BrR b n y k D F → C = D ∧ E = F ∧ m = k ∧ ∀ j, j < m → x j = y j) := fun x y m k C D E F h1 h2 => M.BrR.one h1 h2
  generalize M.wr b n = X at *
  generalize cw b n g l = R at *
  go_enter Try.func3, Try.ntmps3
  go_wp2_with fail
  refine (HW _ hp).mono ?_
  rintro e w1 ⟨rfl, k1⟩
  go_wp2_with fail
  refine (HX _ (hp.step k1)).mono ?_
  rintro e w2 ⟨rfl, hb2⟩
  have k2 : Below w.heap.size w w2 := k1.trans (hb2.mono k1.size)
  clear HW HX hb2 k1
  go_wp2_with fail
  refine (HB _ (hp.step k2)).mono ?_
  rintro e w3 ⟨⟨xo, m, xd, x, C, E, rfl, h1, h2, hli, hB⟩, hb3⟩
  have k3 : Below w.heap.size w w3 := k2.trans (hb3.mono k2.size)
  clear HB hb3 k2
  go_wp2_with fail
  refine (HD _ (hp.step k3)).mono ?_
  rintro e w4 ⟨⟨yo, k, yd, y, D, F, rfl, g1, g2, hly, hD⟩, hb4⟩
  have k4 : Below w.heap.size w w4 := k3.trans (hb4.mono k3.size)
  have hlx := hli.step hb4
  obtain ⟨rfl, rfl, hmk, hxy⟩ := HO.out _ _ _ _ _ _ _ _ hB hD
  have HS := Same_yes xo yo m xd k yd x y w4 hlx h1 h2 hly g1 g2 hmk hxy
  clear HD hb4 k3 hB hD HO hxy hmk h1 h2 g1 g2
  go_wp2_with fail
  refine HS.mono ?_
  rintro e w5 ⟨rfl, hb5⟩
  have k5 : Below w.heap.size w w5 := k4.trans (hb5.mono k4.size)
  clear HS hb5 k4 hlx hly hli
  go_wp2_with fail
  refine (HC _ (hp.step k5) (hq.step k5)).mono ?_
  rintro e w6 ⟨rfl, hb6⟩
  have k6 : Below w.heap.size w w6 := k5.trans (hb6.mono k5.size)
  clear HC hb6 k5
  go_wp2_with fail
  refine (HE _ (hp.step k6) (hq.step k6)).mono ?_
  rintro e w7 ⟨rfl, hb7⟩
  have k7 : Below w.heap.size w w7 := k6.trans (hb7.mono k6.size)
  clear HE hb7 k6
  go_wp2_with fail
  go_ret
  exact ⟨rfl, k7⟩
end Go.Proofs.Ytiffppnaaenalag.V
