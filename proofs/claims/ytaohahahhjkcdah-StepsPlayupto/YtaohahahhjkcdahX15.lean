/- What the document's Next comes to. -/
import Derived.Test.YtaohahahhjkcdahX14
import Derived.Test.YtaohahahhjkcdahX10
namespace Go.Proofs.Ytaohahahhjkcdah.X
open Go.RowKit Go.Maps Go.Sort
set_option linter.unusedVariables false
set_option linter.unusedSimpArgs false

theorem OE.evs {w : World} {base : Nat} {v : Value} {l : List Z.M.Ev} (h : Z.OE w base v l) : EVs w (· < w.heap.size) v l := by
  obtain ⟨ao, c, h1, h2, h3, h4⟩ := h.le
  exact ⟨ao, c, h1, h2, h3, ⟨fun hn => by obtain ⟨b, off, q1, q2, q3⟩ := h4.at' hn; exact ⟨b, off, q1, q2, q3⟩⟩⟩
/-- What the document's Next answers. -/
structure RnQ (w : World) (r : Int × List Z.M.Ev × Int) (e : Ending) (w' : World) : Prop where
  ex : ∃ v, e = .returned (.tuple #[v, .int .i64 r.2.2, .int .i64 r.1]) ∧ EVs w' (· < w'.heap.size) v r.2.1
  b : Below w.heap.size w w'
set_option maxHeartbeats 2000000 in
theorem refNext_any (l : List M.Sc) (hok : ∀ s ∈ l, M.Ok s) (htot : M.tots l ≤ 1125899906842624) (a x : Int) (w : World) (ao : Option Addr) (c : Nat) (hL : LL w (· < w.heap.size) ao l) (hc : l.length ≤ c) (hcm : c ≤ 9223372036854775807) (a0 : 0 ≤ a) (a1 : a ≤ 1125899906842624) (hx : x ≤ 9223372036854775807) :
    Calls Try.prog 10 #[.slice ao l.length c, .int .i64 a, .int .i64 x] w fun e w' => RnQ w (M.nx (M.pls l 0) a x) e w' := by
  have ws : IntKind.i64.wrap (1125899906842624 - a) = 1125899906842624 - a := wid (by omega) (by omega)
  by_cases h : x < 0 ∨ 1125899906842624 - a < x
  · rw [show M.nx (M.pls l 0) a x = (3, [], a) from if_pos h]
    have HR : Hid (∀ e, e = .returned (.tuple #[.slice none 0 0, .int .i64 a, .int .i64 3]) → RnQ w (3, [], a) e w) := fun e he => ⟨⟨_, he, EVs.nil _ _⟩, Below.refl _ _⟩
    rcases (show x < 0 ∨ (¬ x < 0 ∧ 1125899906842624 - a < x) by omega) with h | ⟨h, h'⟩
    all_goals
      clear hL
      go_enter Try.func10, Try.ntmps10
      go_wp2_with fail
      go_returns
      exact HR.out _ rfl
  · have h1 : ¬ x < 0 := by omega
    have h2 : ¬ 1125899906842624 - a < x := by omega
    have wx : IntKind.i64.wrap (a + x) = a + x := wid (by omega) (by omega)
    have HN : Hid (M.nx (M.pls l 0) a x = if (M.win a (a + x) (M.pls l 0)).length ≤ 4096 then (0, M.win a (a + x) (M.pls l 0), a + x) else (5, [], a)) := if_neg h
    have HW := walk_any l 0 a (a + x) w w.heap.size w.heap.size ao c (.slice none 0 0) [] hL (Nat.le_refl _) (Nat.le_refl _) hc hcm hok (by omega) (by omega) (by omega) (Z.OE.nil _ _) (by simp)
    have eG : M.gc a (a + x) [] (M.pls l 0) = (M.win a (a + x) (M.pls l 0)).take 4097 := rfl
    clear h hL
    generalize M.nx (M.pls l 0) a x = R at *
    go_enter Try.func10, Try.ntmps10
    go_wp2_with fail
    refine HW.mono ?_
    rintro e w1 ⟨v1, a1', rfl, o1, g1, _, _, _⟩
    rw [eG] at o1
    have hb1 : Below w.heap.size w w1 := g1.bel (Nat.le_refl _) (fun j hj => by simp [Value.ownBlock] at hj)
    clear g1 HW eG
    generalize M.win a (a + x) (M.pls l 0) = L at *
    obtain ⟨va, vc, hv, hv1, hv2⟩ := own_form o1
    by_cases cL : L.length ≤ 4096
    · have hR := HN.out
      rw [if_pos cL] at hR
      subst hR
      rw [List.take_of_length_le (by omega)] at o1 hv hv1
      have cL' : ¬ (4096 : Int) < (L.length : Int) := by omega
      have HR : Hid (∀ e, e = .returned (.tuple #[v1, .int .i64 (a + x), .int .i64 0]) → RnQ w (0, L, a + x) e w1) := fun e he => ⟨⟨_, he, OE.evs o1⟩, hb1⟩
      clear HN o1
      subst hv
      go_wp2_with fail
      go_returns
      exact HR.out _ rfl
    · have hR := HN.out
      rw [if_neg cL] at hR
      subst hR
      have hl : (L.take 4097).length = 4097 := by rw [List.length_take]; omega
      rw [hl] at hv hv1
      have HR : Hid (∀ e, e = .returned (.tuple #[.slice none 0 0, .int .i64 a, .int .i64 5]) → RnQ w (5, [], a) e w1) := fun e he => ⟨⟨_, he, EVs.nil _ _⟩, hb1⟩
      clear HN o1 hl
      subst hv
      go_wp2_with fail
      go_returns
      exact HR.out _ rfl
end Go.Proofs.Ytaohahahhjkcdah.X
