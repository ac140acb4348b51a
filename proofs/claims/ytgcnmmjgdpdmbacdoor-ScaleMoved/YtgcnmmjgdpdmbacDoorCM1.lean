/- What the document's Moved comes to. -/
import Derived.Test.YtgcnmmjgdpdmbacDoorQR4
import Derived.Test.YtgcnmmjgdpdmbacDoorC1
import Derived.Test.YtgcnmmjgdpdmbacDoorCMath5
import Derived.Test.YtgcnmmjgdpdmbacDoorFW2
import Derived.OwnWalk
namespace Go.Proofs.YtgcnmmjgdpdmbacDoor
open Go.RowKit
attribute [local go_sem ↓] Go.wp_at_zero Go.wp_at_succ
set_option linter.unusedSimpArgs false
set_option linter.unusedVariables false

theorem abs_w (s : Int) (w : World) (s1 : -9223372036854775808 ≤ s) (s2 : s ≤ 9223372036854775807) : ∃ v : Int,
    Calls Tryd.prog 28 #[.int .i64 s] w fun e w' => e = .returned (.int .i64 v) ∧ w' = w := by
  by_cases h : -9223372036854775807 ≤ s
  · exact ⟨_, F.abs_q s w h s2⟩
  · obtain rfl : s = -9223372036854775808 := by omega
    refine ⟨wrap64 9223372036854775808, ?_⟩
    go_enter Tryd.func28, Tryd.ntmps28
    go_wp2
    go_ret
    exact ⟨rfl, rfl⟩

/-- A pitch that is moved, as cells. -/
def mvF (L A O : Nat → Int) (s h : Int) (j : Nat) : List Value := [.int .i64 (M.tL (L j) s), .int .i64 (M.tA (L j) (A j) s h), .int .i64 (M.mo (L j) (A j) (O j) s h)]
/-- What comes of it. -/
def MovedRes (L A O : Nat → Int) (n : Nat) (s h : Int) (e : Ending) (w' : World) : Prop :=
  ((∃ j, j < n ∧ M.mk (L j) (A j) (O j) s h = false) ∧ e = .returned (.tuple #[.slice none 0 0, .bool false])) ∨
  ((∀ j, j < n → M.mk (L j) (A j) (O j) s h = true) ∧ ∃ ao c B, e = .returned (.tuple #[.slice ao n c, .bool B]) ∧ n ≤ c ∧ c ≤ 9223372036854775807 ∧ PL w' ao n (fun j => M.tL (L j) s) (fun j => M.tA (L j) (A j) s h) (fun j => M.mo (L j) (A j) (O j) s h))

theorem own_PL {w : World} {base : Nat} {t : TypeId} {v : Value} {n : Nat} {L A O : Nat → Int} {s h : Int} (hn : w.ownsRow base t 3 v n (rows (mvF L A O s h) n)) :
    ∃ ao c, v = .slice ao n c ∧ n ≤ c ∧ c ≤ 9223372036854775807 ∧ PL w ao n (fun j => M.tL (L j) s) (fun j => M.tA (L j) (A j) s h) (fun j => M.mo (L j) (A j) (O j) s h) := by
  by_cases hz : n = 0
  · subst hz
    rcases hn.2 with ⟨rfl, _⟩ | ⟨g, cap, cur, rfl, _, _, _, hm, _⟩
    · exact ⟨none, 0, rfl, by omega, by omega, ⟨fun h => by omega⟩⟩
    · exact ⟨some ⟨g, 0, none⟩, cap, rfl, by omega, by unfold maxLen at hm; omega, ⟨fun h => by omega⟩⟩
  · obtain ⟨g, cap, rfl, h1, h2, h3, h4⟩ := own_cells hn (by omega)
    have hcap : cap ≤ 9223372036854775807 := by
      rcases hn.2 with ⟨h, _⟩ | ⟨g', cap', cur, h, _, _, _, hm, _⟩
      · simp at h
      · simp at h; unfold maxLen at hm; omega
    have hr := fun j i (hj : j < n) (hi : i < 3) => rows_get (F := mvF L A O s h) (s := 3) (fun j => rfl) n j i hj hi
    refine ⟨some ⟨g, 0, none⟩, cap, rfl, h3, hcap, ⟨fun _ => ⟨g, 0, rfl, h2, fun j hj => ?_, fun j hj => ?_, fun j hj => ?_⟩⟩⟩
    · rw [Nat.zero_add, h4 _ (by omega)]; have := hr j 0 hj (by omega); rw [Nat.add_zero] at this; exact this
    · rw [Nat.zero_add, h4 _ (by omega)]; exact hr j 1 hj (by omega)
    · rw [Nat.zero_add, h4 _ (by omega)]; exact hr j 2 hj (by omega)

set_option maxRecDepth 20000 in
set_option maxHeartbeats 4000000 in
theorem Moved_any (ao : Option Addr) (n c : Nat) (L A O : Nat → Int) (s h : Int) (w : World) (hp : PL w ao n L A O) (hc : n ≤ c) (hcm : c ≤ 9223372036854775807) (hA : ∀ j, j < n → -9223372036854775808 ≤ A j ∧ A j ≤ 9223372036854775807)
    (hby : n * 24 ≤ 140737488355328) (s1 : -9223372036854775808 ≤ s) (s2 : s ≤ 9223372036854775807) :
    Calls Tryd.prog 8 #[.slice ao n c, .agg #[.int .i64 s, .int .i64 h]] w fun e w' => MovedRes L A O n s h e w' ∧ Below w.heap.size w w' := by
  obtain ⟨i0, hi, hz0, hz1, hz2⟩ := info_parts info23
  go_enter Tryd.func8, Tryd.ntmps8
  go_wp2_with fail
  have I0 : (w.alloc (Obj.cells #[.int .i64 s, .int .i64 h] 24)).cell? ⟨w.heap.size, 0, none⟩ = some (.int .i64 s) := by simp [go_sem]
  have I1 : (w.alloc (Obj.cells #[.int .i64 s, .int .i64 h] 24)).cell? ⟨w.heap.size, 1, none⟩ = some (.int .i64 h) := by simp [go_sem]
  go_loopw [6, 13] (fun v i wr => ∃ k : Nat, k ≤ n ∧ i = .int .i64 k ∧ Hid (∀ j, j < k → M.mk (L j) (A j) (O j) s h = true) ∧ Below (w.heap.size + 1) (w.alloc (Obj.cells #[.int .i64 s, .int .i64 h] 24)) wr ∧ wr.ownsRow (w.heap.size + 1) 26 3 v k (rows (mvF L A O s h) k))
    (fun _ i _ => n - (intOf i).toNat)
  case atStart => exact ⟨0, by omega, rfl, fun j hj => by omega, Below.refl _ _, World.ownsRow_nil _ _ _ _⟩
  case round =>
    obtain ⟨k, hkn, rfl, hall, hbr, hown⟩ := hrel
    have zr := hbr.size
    simp at zr
    have h0r : Below w.heap.size w wr := ((Below.refl _ _).alloc (Nat.le_refl _) _).trans (hbr.mono (by omega))
    have i0' := keepC hbr (by omega) I0
    have i1' := keepC hbr (by omega) I1
    have si : w.heap.size < wr.heap.size := by omega
    clear I0 I1
    by_cases hlt : k < n
    · obtain ⟨b, off, rfl, hbl, q0, q1, q2⟩ := hp.at' (by omega)
      have r0 := keepC h0r hbl (q0 k hlt)
      have r1 := keepC h0r hbl (q1 k hlt)
      have r2 := keepC h0r hbl (q2 k hlt)
      have hbk : b < wr.heap.size := by omega
      have hAk := hA k hlt
      have hall2 : M.mk (L k) (A k) (O k) s h = true → Hid (∀ j, j < k + 1 → M.mk (L j) (A j) (O j) s h = true) := fun hm j hj => by
        by_cases e : j = k
        · rw [e]; exact hm
        · exact hall.out j (by omega)
      have hcl := fun hm => M.move_class (l := L k) (a := A k) (o := O k) (s := s) (h := h) hm
      have HC : Hid (M.mk (L k) (A k) (O k) s h = true → _) := hcl
      have HA2 : Hid (M.mk (L k) (A k) (O k) s h = true → _) := hall2
      clear q0 q1 q2 hall2 hcl
      go_wp2_with fail
      refine (refMove_any (L k) (A k) (O k) s h _ hAk.1 hAk.2).mono ?_
      rintro e w1 ⟨rfl, hb1⟩
      have z1 := hb1.size
      simp at z1
      have k1 : Below wr.heap.size wr w1 := Below.trans (by go_grown) (hb1.mono (by simp))
      have h01 := h0r.trans (k1.mono (by omega))
      cases hm : M.mk (L k) (A k) (O k) s h
      · have hne : (M.me (L k) (A k) (O k) s h != 0) = true := by
          unfold M.me; rw [hm]
          cases M.rt (L k) (A k) (O k) <;> decide
        generalize M.me (L k) (A k) (O k) s h = E at *
        generalize M.ml (L k) (A k) (O k) s h = U0 at *
        generalize M.ma (L k) (A k) (O k) s h = U1 at *
        generalize M.mo (L k) (A k) (O k) s h = U2 at *
        go_wp2_with fail
        go_returns
        exact ⟨.inl ⟨⟨k, hlt, hm⟩, rfl⟩, h01.alloc h01.size _⟩
      · obtain ⟨e1, e2, _⟩ := HC.out hm
        have e3 : M.me (L k) (A k) (O k) s h = 0 := by unfold M.me; rw [hm]; rfl
        rw [e1, e2, e3]
        have hall3 := HA2.out hm
        have hown1 := own_step hown k1
        have HN : Hid (mvF L A O s h k = [.int .i64 (M.tL (L k) s), .int .i64 (M.tA (L k) (A k) s h), .int .i64 (M.mo (L k) (A k) (O k) s h)]) := rfl
        generalize M.tL (L k) s = U0 at *
        generalize M.tA (L k) (A k) s h = U1 at *
        generalize M.mo (L k) (A k) (O k) s h = U2 at *
        clear HC HA2 e1 e2 e3 hown
        go_wp2_with (at_builtin; refine wpList_append_own _ rfl (.tmp 25) (.tmp 27) 22 rfl (w.heap.size + 1) 26 i0 (.agg #[.int .i64 0, .int .i64 0, .int .i64 0]) 3 24 Tryd.underlying22 hi hz0 hz1 hz2 rfl (by decide) _ k (rows (mvF L A O s h) k) rfl ((hown1.alloc _).alloc _) ⟨w1.heap.size + 1, 0, none⟩ 1 1 [.int .i64 U0, .int .i64 U1, .int .i64 U2] rfl rfl ?c1 ?c2 ?c3 ?c4 ?c5 ?_)
        case c1 =>
          intro j u hj
          match j, hj with
          | 0, hj => simp at hj; subst hj; simp [Addr.add]
          | 1, hj => simp at hj; subst hj; simp [Addr.add]
          | 2, hj => simp at hj; subst hj; simp [Addr.add]
        case c2 => intro u hu; simp at hu; rcases hu with rfl | rfl | rfl <;> rfl
        case c3 => unfold maxLen; omega
        case c4 => omega
        case c5 => simp; omega
        · intro v' w3 hown' hgrow _
          have hr : rows (mvF L A O s h) k ++ [.int .i64 U0, .int .i64 U1, .int .i64 U2] = rows (mvF L A O s h) (k + 1) := by rw [← HN.out]; rfl
          rw [hr] at hown'
          have hb03 : Below (w.heap.size + 1) (w.alloc (Obj.cells #[.int .i64 s, .int .i64 h] 24)) w3 := (((hbr.trans (k1.mono (by omega))).alloc (by omega) _).alloc (by simp; omega) _).grown hgrow (by simp; omega) (own_block hown1)
          clear hgrow hown1 hr
          go_wp2_with fail
          go_roundw
          case rel => exact ⟨k + 1, by omega, by go_num, hall3, hb03, hown'⟩
          case measure => simp [intOf]; omega
    · have ek : k = n := by omega
      subst ek
      obtain ⟨ao', c', rfl, g1, g2, g3⟩ := own_PL hown
      obtain ⟨v, hv⟩ := abs_w s wr s1 s2
      go_wp2_with fail
      refine hv.mono ?_
      rintro e w1 ⟨rfl, hw1⟩
      rw [hw1]
      go_wp2_with fail
      go_returns
      exact ⟨.inr ⟨hall.out, ao', c', _, rfl, g1, g2, g3⟩, h0r⟩
end Go.Proofs.YtgcnmmjgdpdmbacDoor
