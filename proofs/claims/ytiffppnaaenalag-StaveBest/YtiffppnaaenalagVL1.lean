/- The laws StaveBest and StaveWhole: their walks. -/
import Derived.Test.YtiffppnaaenalagV5
import Derived.Test.YtiffppnaaenalagV9
import Derived.Test.YtiffppnaaenalagVMath3
namespace Go.Proofs.Ytiffppnaaenalag.V
open Go.RowKit Go.Sort Go.Maps
set_option linter.unusedVariables false
set_option linter.unusedSimpArgs false

theorem alive_any (w : World) :
    Calls Try.prog 13 #[] w fun e w' => e = .returned (.bool true) ∧ Below w.heap.size w w' := by
  go_enter Try.func13, Try.ntmps13
  go_wp2_with fail
  have hp : BL (w.alloc (Obj.cells #[.int .i64 3, .int .i64 0, .int .i64 3, .int .i64 0] 35)) (some ⟨w.heap.size, 0, none⟩) 2 ⟨4, fun _ => 3, fun _ => 0⟩ := by
    refine ⟨fun _ => ⟨_, _, rfl, by simp, fun j hj => ?_, fun j hj => ?_⟩⟩
    · match j, hj with
      | 0, _ => simp [go_sem]
      | 1, _ => simp [go_sem]
    · match j, hj with
      | 0, _ => simp [go_sem]
      | 1, _ => simp [go_sem]
  refine (Break_any _ _ 2 2 _ hp (by omega) (by omega)).mono ?_
  rintro e w1 ⟨⟨bo, m, d, x, C, E, rfl, h1, h2, hli, hB⟩, hb⟩
  obtain ⟨rfl, rfl, rfl⟩ := BrR.alive hB
  have k : Below w.heap.size w w1 := Below.trans (by go_grown) (hb.mono (by simp))
  clear hB hb
  go_wp2_with fail
  go_ret
  exact ⟨rfl, k⟩

set_option maxHeartbeats 4000000 in
theorem best_walk (b : M.Bx) (ao : Option Addr) (n c : Nat) (bo : Option Addr) (l d : Nat) (g : Nat → Int) (w : World) (hp : BL w ao n b) (hc : n ≤ c) (hcm : c ≤ 9223372036854775807) (hq : LI w bo l g) (hd : l ≤ d) (hdm : d ≤ 9223372036854775807) :
    Calls Try.prog 4 #[.slice ao n c, .int .i64 b.wide, .slice bo l d] w fun e w' => e = .returned (.bool true) ∧ Below w.heap.size w w' := by
  have HB := fun w hp => Break_any b ao n c w hp hc hcm
  have HC := fun w hp hq => Cost_any b ao n c bo l d g w hp hc hcm hq hd hdm
  go_enter Try.func4, Try.ntmps4
  go_wp2_with fail
  refine (alive_any _).mono ?_
  rintro e w1 ⟨rfl, k1⟩
  go_wp2_with fail
  refine (HB _ (hp.step k1)).mono ?_
  rintro e w2 ⟨⟨xo, m, xd, x, C, E, rfl, h1, h2, hli, hB⟩, hb2⟩
  have k2 : Below w.heap.size w w2 := k1.trans (hb2.mono k1.size)
  have hB' : Hid (M.BrR b n x m C E) := hB
  clear HB hb2 hB k1
  by_cases hE : E = 0
  · subst hE
    obtain ⟨e1, e2, e3, e4, e5⟩ := BrR.cost hB'.out
    have HC2 := fun w hp hq => Cost_any b ao n c xo m xd x w hp hc hcm hq h1 h2
    rw [e1] at HC2
    have HBt : Hid ((cw b n g l).2 = 0 → M.bt (cw b n g l).1 (M.ls g 0 l) C (M.ls x 0 m) = false ∧ ∀ j, j < l → 0 ≤ g j) := fun h => by
      obtain ⟨f1, f2, f3, f4⟩ := cost_way h
      rw [f3, e4]
      exact ⟨e2.2 _ f2, fun j hj => (f4 j hj).1⟩
    have e5' : ∀ j, j < m → 0 ≤ x j := fun j hj => (e5 j hj).1
    clear e1 e2 e3 e4 e5 hB'
    generalize cw b n g l = R at *
    obtain ⟨R1, R2⟩ := R
    simp only at HBt HC HC2
    go_wp2_with fail
    refine (HC2 _ (hp.step k2) hli).mono ?_
    rintro e w3 ⟨rfl, hb3⟩
    have k3 : Below w.heap.size w w3 := k2.trans (hb3.mono k2.size)
    have hli3 := hli.step hb3
    clear HC2 hb3 hli
    go_wp2_with fail
    refine (HC _ (hp.step k3) (hq.step k3)).mono ?_
    rintro e w4 ⟨rfl, hb4⟩
    have k4 : Below w.heap.size w w4 := k3.trans (hb4.mono k3.size)
    have hli4 := hli3.step hb4
    clear HC hb4 hli3
    by_cases hR : R2 = 0
    · subst hR
      obtain ⟨f1, f2⟩ := HBt.out rfl
      have HBe := fun w hp hq => Better_any R1 C bo xo l d m xd g x w hp hd hdm hq h1 h2 f2 e5'
      rw [f1] at HBe
      clear f1 f2 HBt e5'
      go_wp2_with fail
      refine (HBe _ (hq.step k4) hli4).mono ?_
      rintro e w5 ⟨rfl, hb5⟩
      go_wp2_with fail
      go_ret
      exact ⟨rfl, k4.trans (hb5.mono k4.size)⟩
    · have hR' : (R2 != 0) = true := by simp [hR]
      clear HBt hR
      go_wp2_with fail
      go_ret
      exact ⟨rfl, k4⟩
  · have hE' : (E == 0) = false := by simp [hE]
    have HN : Hid ((cw b n g l).2 ≠ 0) := fun h => by
      obtain ⟨f1, f2, f3, f4⟩ := cost_way h
      exact hE (BrR.some hB'.out f1 f2)
    generalize cw b n g l = R at *
    obtain ⟨R1, R2⟩ := R
    have hR' : (R2 != 0) = true := by have := HN.out; simpa using this
    simp only at HC
    clear hB' HN hE
    go_wp2_with fail
    refine (HC _ (hp.step k2) (hq.step k2)).mono ?_
    rintro e w4 ⟨rfl, hb4⟩
    go_wp2_with fail
    go_ret
    exact ⟨rfl, k2.trans (hb4.mono k2.size)⟩
end Go.Proofs.Ytiffppnaaenalag.V
