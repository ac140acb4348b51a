/- What the document's SameAll comes to at the same floats; VoiceSings: the law's text, walked. -/
import Derived.Test.YtjfmpgfpehnnjahVo13
import Derived.Test.YtjfmpgfpehnnjahVoC
namespace Go.Proofs.Ytjfmpgfpehnnjah.Vo
open Go.RowKit Go.Maps Go.Sort
set_option linter.unusedSimpArgs false
set_option linter.unusedVariables false

set_option maxHeartbeats 2000000 in
theorem SameAll_eq (w : World) (S S' : Nat → Prop) (ao bo : Option Addr) (m c d : Nat) (f : Nat → Nat) (ha : FSl w S (.slice ao m c) m f) (hb : FSl w S' (.slice bo m d) m f) (hm : m ≤ 4611686018427387904) :
    Calls Try.prog 16 #[.slice ao m c, .slice bo m d] w fun e w' => e = .returned (.bool true) ∧ Below w.heap.size w w' := by
  have HA : Hid (0 < m → ∃ nb of, ao = some ⟨nb, of, none⟩ ∧ ∀ i, i < m → w.cell? ⟨nb, of + i, none⟩ = some (.float .f64 (f i))) := fun h => by
    obtain ⟨ao', c', e1, _, _, e2⟩ := ha.ex
    cases e1
    obtain ⟨nb, of, g1, _, g3⟩ := e2 h
    exact ⟨nb, of, g1, g3⟩
  have HB : Hid (0 < m → ∃ nb of, bo = some ⟨nb, of, none⟩ ∧ ∀ i, i < m → w.cell? ⟨nb, of + i, none⟩ = some (.float .f64 (f i))) := fun h => by
    obtain ⟨ao', c', e1, _, _, e2⟩ := hb.ex
    cases e1
    obtain ⟨nb, of, g1, _, g3⟩ := e2 h
    exact ⟨nb, of, g1, g3⟩
  have mc : m ≤ c ∧ c ≤ 9223372036854775807 := by
    obtain ⟨ao', c', e1, e2, e3, _⟩ := ha.ex
    cases e1; exact ⟨e2, e3⟩
  have md : m ≤ d ∧ d ≤ 9223372036854775807 := by
    obtain ⟨ao', c', e1, e2, e3, _⟩ := hb.ex
    cases e1; exact ⟨e2, e3⟩
  obtain ⟨mc1, mc2⟩ := mc
  obtain ⟨md1, md2⟩ := md
  clear ha hb
  go_enter Try.func16, Try.ntmps16
  go_wp2_with fail
  go_loopw [13] (fun i ww => ∃ k : Nat, k ≤ m ∧ i = .int .i64 k ∧ Below w.heap.size w ww ∧ Hid (∀ b o v, w.cell? ⟨b, o, none⟩ = some v → ww.cell? ⟨b, o, none⟩ = some v)) (fun i _ => m - (intOf i).toNat)
  case atStart => exact ⟨0, by omega, rfl, Below.refl _ _, fun _ _ _ h => h⟩
  case round =>
    obtain ⟨k, hk, rfl, hbr, hcr⟩ := hrel
    by_cases hlt : k < m
    · obtain ⟨na, oa, rfl, ga⟩ := HA.out (by omega)
      obtain ⟨nb, ob, rfl, gb⟩ := HB.out (by omega)
      have ca := hcr.out _ _ _ (ga k hlt)
      have cb := hcr.out _ _ _ (gb k hlt)
      have hlt' : (k : Int) < (m : Int) := by omega
      have w3 : IntKind.i64.wrap ((k : Int) + 1) = (k : Int) + 1 := wid (by omega) (by omega)
      generalize f k = X at *
      clear ga gb HA HB
      have g1 := cell_regrown ca
      have g2 := cell_regrown cb
      have cS : ∀ dd os, Calls Try.prog 29 #[.float .f64 X, .float .f64 X] (grow (redrawn wr dd) os) fun e w'' => e = .returned (.bool true) ∧ ∃ p : Regrown, w'' = grow (redrawn wr p.d) p.os := fun dd os => Calls.regrown_of ((Same_same X _).mono fun e w' h => ⟨h.1, by rw [h.2]; exact Below.refl _ _⟩)
      go_wp2_with fail
      refine wp_region_quiet_below (by kernel_rfl) (by kernel_rfl) ?_
      repeat (go_big_quiet_step (exact cS _ _))
      refine wpQuiet_nil ?_
      rintro w4 ⟨⟨dq, osq⟩, hw4⟩
      have hb4 : Below wr.heap.size wr w4 := by rw [hw4]; exact below_regrown wr dq osq
      have hc4 : Hid (∀ b o v, w.cell? ⟨b, o, none⟩ = some v → w4.cell? ⟨b, o, none⟩ = some v) := fun b o v h => by rw [hw4]; exact cell_regrown (hcr.out b o v h) _ _
      clear hw4 cS g1 g2
      go_wp2_with fail
      go_roundw
      case rel => exact ⟨k + 1, by omega, by go_num, hbr.trans (hb4.mono hbr.size), hc4⟩
      case measure => simp [intOf]; omega
    · go_wp2_with fail
      go_ret
      exact ⟨rfl, hbr⟩
end Go.Proofs.Ytjfmpgfpehnnjah.Vo
