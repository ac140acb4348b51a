/- What the document's Same and the program's makes come to. -/
import Derived.Test.YtjakaceckmhjiafDoorY8
namespace Go.Proofs.YtjakaceckmhjiafDoor.Y
open Go.RowKit Go.Sort
set_option linter.unusedVariables false
set_option linter.unusedSimpArgs false

/-- It answers whether something is so. -/
def SaysQ (e : Ending) (P : Prop) : Prop := ∃ B : Bool, e = .returned (.bool B) ∧ (B = true ↔ P)
theorem says_yes {P : Prop} (h : P) : SaysQ (.returned (.bool true)) P := ⟨true, rfl, fun _ => h, fun _ => rfl⟩
theorem says_no {P : Prop} (h : ¬ P) : SaysQ (.returned (.bool false)) P := ⟨false, rfl, fun e => absurd e (by decide), fun e => absurd e h⟩

set_option maxRecDepth 20000 in
set_option maxHeartbeats 4000000 in
theorem Same_any (ao bo : Option Addr) (n m c1 c2 : Nat) (T U : Nat → Tn) (w : World) (hT : TL w ao n T) (hU : TL w bo m U) (hn : n ≤ c1) (hm : m ≤ c2) (hb1 : c1 ≤ 9223372036854775807) (hb2 : c2 ≤ 9223372036854775807) :
    Calls Tryd.prog 13 #[.slice ao n c1, .slice bo m c2] w fun e w' => SaysQ e (tab T n = tab U m) ∧ Go.RowKit.Below w.heap.size w w' := by
  by_cases hnm : n = m
  · subst hnm
    have hne : ((n : Int) != (n : Int)) = false := by simp
    go_enter Tryd.func13, Tryd.ntmps13
    go_wp2_with fail
    go_loopw [13] (fun i wr => ∃ k : Nat, k ≤ n ∧ i = .int .i64 k ∧ Hid (∀ j, j < k → T j = U j) ∧ Go.RowKit.Below w.heap.size w wr) (fun i _ => n - (intOf i).toNat)
    case atStart => exact ⟨0, by omega, rfl, fun j hj => by omega, Below.refl _ _⟩
    case round =>
      obtain ⟨k, hkn, rfl, hz, hbr⟩ := hrel
      by_cases hlt : k < n
      · obtain ⟨b, off, rfl, hbl, p0, p1, p2, p3, p4⟩ := (hT.keep hbr).at' (by omega)
        obtain ⟨b', off', rfl, hbl', q0, q1, q2, q3, q4⟩ := (hU.keep hbr).at' (by omega)
        have r0 := p0 k hlt
        have r1 := p1 k hlt
        have r2 := p2 k hlt
        have r3 := p3 k hlt
        have r4 := p4 k hlt
        have s0 := q0 k hlt
        have s1 := q1 k hlt
        have s2 := q2 k hlt
        have s3 := q3 k hlt
        have s4 := q4 k hlt
        have heq := equalTones (T k) (U k)
        have HN : Hid (eqT (T k) (U k) = true → ∀ j, j < k + 1 → T j = U j) := fun e j hj => by
          by_cases ej : j = k
          · rw [ej]; exact eqT_yes e
          · exact hz.out j (by omega)
        have HF : Hid (eqT (T k) (U k) = false → SaysQ (.returned (.bool false)) (tab T n = tab U n)) := fun e => says_no fun h => absurd (tab_eq h k hlt) (eqT_no e)
        clear p0 p1 p2 p3 p4 q0 q1 q2 q3 q4 hz
        generalize T k = X at *
        generalize U k = Y at *
        cases he : eqT X Y
        · rw [he] at heq
          have HF2 := HF.out he
          clear HN HF he
          go_wp2_with fail
          go_quiet (fail)
          go_wp2_with fail
          go_ret
          exact ⟨HF2, below_drewN hbr _⟩
        · rw [he] at heq
          have HN2 := HN.out he
          clear HN HF he
          go_wp2_with fail
          go_quiet (fail)
          go_wp2_with fail
          go_roundw
          case rel => exact ⟨k + 1, by omega, by go_num, HN2, below_drewN hbr _⟩
          case measure => simp [intOf]; omega
      · obtain rfl : k = n := by omega
        have HF : Hid (SaysQ (.returned (.bool true)) (tab T k = tab U k)) := says_yes (tab_ext hz.out)
        go_wp2_with fail
        go_ret
        exact ⟨HF.out, hbr⟩
  · have hne : ((n : Int) != (m : Int)) = true := by simp; omega
    have HF : Hid (SaysQ (.returned (.bool false)) (tab T n = tab U m)) := says_no fun h => hnm (by have := congrArg List.length h; rw [tab_len, tab_len] at this; exact this)
    go_enter Tryd.func13, Tryd.ntmps13
    go_wp2_with fail
    go_ret
    exact ⟨HF.out, Below.refl _ _⟩

/-- Does a change make one line of another one? -/
def Mk (c : Ch) (T U : Nat → Tn) (n : Nat) : Prop := ae c T n = 0 ∧ (tab U n).Perm (tab (fun j => cx c (en T n) (T j)) n) ∧ Ord (tab U n)

set_option maxRecDepth 20000 in
set_option maxHeartbeats 4000000 in
theorem makes_any (c : Ch) (ao bo : Option Addr) (n c1 c2 : Nat) (T U : Nat → Tn) (w : World) (ht : Tab w) (hT : TL w ao n T) (hU : TL w bo n U) (h0 : 0 < n) (hn : n ≤ 1024) (hc1 : n ≤ c1) (hoU : OkL U n) :
    Calls Tryd.prog 30 #[.agg #[.bool c.back, .int .i64 c.slow, .bool c.mir, .int .i64 c.xl, .int .i64 c.xa, .int .i64 c.xo, .int .i64 c.s, .int .i64 c.h, .int .i64 c.d], .slice ao n c1, .slice bo n c2] w fun e w' => SaysQ e (Mk c T U n) ∧ Go.RowKit.Below w.heap.size w w' := by
  have hord := ord_tab.2 hoU.ord
  go_enter Tryd.func30, Tryd.ntmps30
  go_wp2_with fail
  refine (Apply_any c ao n c1 T _ (ht.step (by go_grown)) (hT.keep (by go_grown)) hc1).mono ?_
  rintro e w1 ⟨hb1, hq⟩
  have h01 : Go.RowKit.Below w.heap.size w w1 := Below.trans (by go_grown) (hb1.mono (by simp))
  rcases hq with ⟨hne, rfl⟩ | ⟨hae, mb, V, hmb, rfl, hV, hperm, hoV⟩
  · have hne2 : (ae c T n == 0) = false := by simp [hne]
    have HF : Hid (SaysQ (.returned (.bool false)) (Mk c T U n)) := says_no fun h => hne h.1
    generalize ae c T n = AE at *
    go_wp2_with fail
    go_ret
    exact ⟨HF.out, h01⟩
  · have hE := equal_any (some ⟨mb, 0, none⟩) bo n n c2 V U w1 h0 hn hV.TL (hU.keep h01)
    have HF : Hid (∀ B : Bool, (B = true ↔ tab V n = tab U n) → (B = true ↔ Mk c T U n)) := fun B hB => ⟨fun h => by
      have e := hB.1 h
      exact ⟨hae, by rw [← e]; exact hperm, hord⟩, fun h => hB.2 (ord_one (hperm.trans h.2.1.symm) hoV hord)⟩
    clear hperm hoV hord hae
    go_wp2_with fail
    refine hE.mono ?_
    rintro e w2 ⟨⟨B, rfl, hB⟩, hb2⟩
    have HB : SaysQ (.returned (.bool B)) (Mk c T U n) := ⟨B, rfl, HF.out B hB⟩
    clear HF hB hE
    go_wp2_with fail
    go_ret
    exact ⟨HB, h01.trans (hb2.mono h01.size)⟩
end Go.Proofs.YtjakaceckmhjiafDoor.Y
