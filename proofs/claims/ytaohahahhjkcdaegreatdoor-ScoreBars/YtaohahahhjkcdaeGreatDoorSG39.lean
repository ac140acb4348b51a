/- The law ScoreBars: does a bar begin with a tie. -/
import Derived.Test.YtaohahahhjkcdaeGreatDoorSG24
import Derived.Test.YtaohahahhjkcdaeGreatDoorSG37
import Derived.Deep.LoopGhost
namespace Go.Proofs.YtaohahahhjkcdaeGreatDoor.G
open Go.RowKit
set_option linter.unusedVariables false
set_option linter.unusedSimpArgs false

/-- How far down the first kids go. -/
def M.dp : M.It → Nat
  | ⟨true, _, _, _, _, _, _, _, _, _, _, _⟩ => 0
  | ⟨false, _, _, _, _, _, _, _, _, _, n, kid⟩ => if n = 0 then 0 else M.dp (kid 0) + 1
theorem M.dp_mk (k s : Int) (np : Nat) (pl pa po : Nat → Int) (b1 b2 : Int) (ly : ByteArray) (n : Nat) (kid : Nat → M.It) : M.dp (.mk k s np pl pa po b1 b2 ly n kid) = if n = 0 then 0 else M.dp (kid 0) + 1 := by rw [M.dp]
set_option maxRecDepth 20000 in
set_option maxHeartbeats 4000000 in
theorem tied_any (t : M.It) (ka : Option Addr) (kc B : Nat) (w : World) (hL : LL w B t ka) (hn : t.n ≤ kc) (hk : kc ≤ 9223372036854775807) :
    Calls Tryz.prog 6 #[.slice ka t.n kc] w fun e w' => e = .returned (.bool (M.td t)) ∧ w' = w := by
  go_enter Tryz.func6, Tryz.ntmps6
  go_wp2_with fail
  go_loopg [0] (M.dp t) (fun d v wr => wr = w ∧ ∃ (t' : M.It) (ka' : Option Addr) (kc' : Nat), v = .slice ka' t'.n kc' ∧ Hid (LL w B t' ka') ∧ t'.n ≤ kc' ∧ kc' ≤ 9223372036854775807 ∧ Hid (M.td t = M.td t') ∧ Hid (M.dp t' ≤ d))
  case atStart => exact ⟨rfl, t, ka, kc, rfl, hL, hn, hk, rfl, Nat.le_refl _⟩
  case round =>
    obtain ⟨rfl, t', ka', kc', rfl, HL, hn', hk', HT, HD⟩ := hrel
    rcases t' with ⟨z, k, s, np, pl, pa, po, b1, b2, ly, n, sub⟩
    cases z with
    | true => exact False.elim HL.out
    | false =>
      dsimp only at hn'
      by_cases hn0 : n = 0
      · subst hn0
        have HE : Hid (M.td t = false) := by show _ = _; rw [HT.out]; exact (M.td_mk k s np pl pa po b1 b2 ly 0 sub).trans (if_pos rfl)
        clear HL HT HD hn hk hL
        go_wp2_with fail
        go_ret
        exact ⟨by rw [HE.out]; rfl, rfl⟩
      · have hpos : (0 : Int) < n := by omega
        obtain ⟨b, off, rfl, hb, hcells⟩ := HL.out (by omega)
        obtain ⟨pa', pc', ka2, kc2, c0, _, _, _, _, _, c6, _, _, d3, d4, _, _, d7⟩ := hcells 0 (by omega)
        rw [Nat.zero_mul, Nat.add_zero] at c0 c6
        have HD2 : Hid (M.dp (sub 0) + 1 ≤ gk) := by
          show _ ≤ _
          have := HD.out
          have e := M.dp_mk k s np pl pa po b1 b2 ly n sub
          rw [if_neg hn0] at e
          rw [← e]; exact this
        have HLL : Hid (LL wr B (sub 0) ka2) := d7
        have e2 := M.td_mk k s np pl pa po b1 b2 ly n sub
        rw [if_neg hn0] at e2
        by_cases h3 : (sub 0).k = 3
        · rw [h3] at c0
          have HE : Hid (M.td t = true) := by show _ = _; rw [HT.out]; exact e2.trans (if_pos h3)
          clear HL HT HD hn hk hL hcells d7 h3 HD2 HLL e2
          go_wp2_with fail
          go_ret
          exact ⟨by rw [HE.out]; rfl, rfl⟩
        · have HE : Hid (M.td t = M.td (sub 0)) := by show _ = _; rw [HT.out]; exact e2.trans (if_neg h3)
          have h3' : ((sub 0).k == 3) = false := by simp [h3]
          clear HL HT HD hn hk hL hcells d7 e2
          generalize hK : (sub 0).k = K at *
          go_wp2_with fail
          go_roundg (gk - 1)
          case measure => have := HD2.out; omega
          case rel => exact ⟨rfl, sub 0, ka2, kc2, rfl, HLL, d3, d4, HE, by show _ ≤ _; have := HD2.out; omega⟩
end Go.Proofs.YtaohahahhjkcdaeGreatDoor.G
