/- What the document's Named comes to, where no name is looked for: the letters, the number, what is out of form or of range. -/
import Derived.Test.YtmccbokjigjpnaaDoorQD8
import Derived.Test.YtmccbokjigjpnaaDoorQD10
import Derived.LoopTactic
namespace Go.Proofs.YtmccbokjigjpnaaDoor
open Go.RowKit
set_option linter.unusedVariables false
set_option linter.unusedSimpArgs false

/-- One of the five letters. -/
def M.isq (b : Nat) : Prop := b = 80 ∨ b = 77 ∨ b = 109 ∨ b = 65 ∨ b = 100
/-- The letters stand from F up to E. -/
structure M.Lets (s : ByteArray) (F E : Nat) : Prop where
  f1 : F ≤ 1
  fe : F ≤ E
  es : E ≤ s.size
  sg : M.sts s 0 ⟨#[45]⟩ = decide (F = 1)
  q : ∀ j, F ≤ j → j < E → M.isq (M.by s j)
  e : E < s.size → ¬ M.isq (M.by s E)
theorem M.lets_from (s : ByteArray) : ∀ (c F : Nat), F ≤ s.size → s.size ≤ F + c → ∃ E, F ≤ E ∧ E ≤ s.size ∧ (∀ j, F ≤ j → j < E → M.isq (M.by s j)) ∧ (E < s.size → ¬ M.isq (M.by s E))
  | 0, F, h1, h2 => ⟨F, Nat.le_refl _, h1, fun j a b => by omega, fun h => by omega⟩
  | c + 1, F, h1, h2 => by
    by_cases hq : F < s.size ∧ M.isq (M.by s F)
    · obtain ⟨E, e1, e2, e3, e4⟩ := M.lets_from s c (F + 1) (by omega) (by omega)
      refine ⟨E, by omega, e2, fun j a b => ?_, e4⟩
      by_cases ej : j = F
      · rw [ej]; exact hq.2
      · exact e3 j (by omega) b
    · exact ⟨F, Nat.le_refl _, h1, fun j a b => by omega, fun h hh => hq ⟨h, hh⟩⟩
theorem M.lets_some (s : ByteArray) : ∃ F E, M.Lets s F E := by
  cases h : M.sts s 0 ⟨#[45]⟩
  · obtain ⟨E, e1, e2, e3, e4⟩ := M.lets_from s s.size 0 (by omega) (by omega)
    exact ⟨0, E, by omega, e1, e2, by rw [h]; rfl, e3, e4⟩
  · have h1 : 1 ≤ s.size := by
      unfold M.sts at h
      simp only [Bool.and_eq_true, decide_eq_true_eq] at h
      have : (⟨#[45]⟩ : ByteArray).size = 1 := rfl
      omega
    obtain ⟨E, e1, e2, e3, e4⟩ := M.lets_from s s.size 1 h1 (by omega)
    exact ⟨1, E, by omega, e1, e2, by rw [h]; rfl, e3, e4⟩

set_option maxRecDepth 20000 in
set_option maxHeartbeats 4000000 in
theorem refNamed_form (s : ByteArray) (F E : Nat) (w : World) (hs : s.size ≤ 140737488355328) (hl : M.Lets s F E) (hn : M.isN (s.extract E s.size) = false) :
    Calls Tryd.prog 24 #[.string s] w fun e w' => e = .returned (.tuple #[.agg #[.int .i64 0, .int .i64 0], .int .i64 2]) ∧ Below w.heap.size w w' := by
  have hst : ∀ X, Calls Tryd.prog 47 #[.string s, .int .i64 0, .string ⟨#[45]⟩] X fun e w' => e = .returned (.bool (M.sts s 0 ⟨#[45]⟩)) ∧ w' = X := fun X => starts_any s ⟨#[45]⟩ 0 X hs (by decide) (by omega)
  rw [hl.sg] at hst
  have hNum := fun X => Number_any (s.extract E s.size) X (by rw [ByteArray.size_extract]; omega)
  rw [hn] at hNum
  replace hNum : ∀ X, Calls Tryd.prog 48 #[.string (s.extract E s.size)] X fun e w' => e = .returned (.tuple #[.int .i64 0, .bool false]) ∧ w' = X := hNum
  have HL : Hid (M.Lets s F E) := hl
  have b1 := hl.f1
  have b2 := hl.fe
  have b3 := hl.es
  have k0 : (0 : Int) ≤ (E : Nat) := by omega
  have k1 : ((E : Nat) : Int) ≤ s.size := by omega
  clear hl hn
  have I0 : (w.alloc (Obj.cells #[.int .i64 0, .int .i64 0] 25)).cell? ⟨w.heap.size, 0, none⟩ = some (.int .i64 0) := by simp [go_sem]
  rcases (show F = 0 ∨ F = 1 by omega) with rfl | rfl
  all_goals
    go_enter Tryd.func24, Tryd.ntmps24
    go_wp2_with (go_at_call 47; refine (hst _).mono ?_; rintro e w' ⟨rfl, hw⟩; rw [hw])
    go_loopw [4] (fun i wr => ∃ k : Nat, i = .int .i64 k ∧ k ≤ E ∧ Hid (∀ j, k ≤ j → j < E → M.isq (M.by s j)) ∧ wr = w.alloc (Obj.cells #[.int .i64 0, .int .i64 0] 25)) (fun i _ => E - (intOf i).toNat)
    case atStart => exact ⟨_, by first | rfl | go_num, by omega, fun j h1 h2 => HL.out.q j (by omega) h2, rfl⟩
    case round =>
      obtain ⟨k, rfl, hk2, hq, rfl⟩ := hrel
      by_cases hlt : k < E
      · have hks : k < s.size := by omega
        have hbk := M.by_is s k hks
        have hkI : (k : Int) < (s.size : Int) := by omega
        have hq2 : Hid (∀ j, k + 1 ≤ j → j < E → M.isq (M.by s j)) := fun j h1 h2 => hq.out j (by omega) h2
        rcases hq.out k (Nat.le_refl _) hlt with q | q | q | q | q
        all_goals
          rw [q] at hbk
          clear q hq
          go_wp2_with fail
          go_roundw
          case rel => exact ⟨k + 1, by go_num, by omega, hq2, by first | rfl | trivial | simp⟩
          case measure => simp [intOf]; omega
      · obtain rfl : k = E := by omega
        by_cases hE : k < s.size
        · have hbk := M.by_is s k hE
          have hkI : (k : Int) < (s.size : Int) := by omega
          have hne := HL.out.e hE
          have c1 : ((M.by s k : Int) == 80) = false := by simpa using fun h => hne (.inl (by omega))
          have c2 : ((M.by s k : Int) == 77) = false := by simpa using fun h => hne (.inr (.inl (by omega)))
          have c3 : ((M.by s k : Int) == 109) = false := by simpa using fun h => hne (.inr (.inr (.inl (by omega))))
          have c4 : ((M.by s k : Int) == 65) = false := by simpa using fun h => hne (.inr (.inr (.inr (.inl (by omega)))))
          have c5 : ((M.by s k : Int) == 100) = false := by simpa using fun h => hne (.inr (.inr (.inr (.inr (by omega)))))
          clear hne hq HL
          generalize M.by s k = B at *
          go_wp2_with (go_at_call 48; refine (hNum _).mono ?_; rintro e w' ⟨rfl, hw⟩; rw [hw])
          refine bodyPost_ret (v := .tuple #[.agg #[.int .i64 0, .int .i64 0], .int .i64 2]) (by simp [results, Tryd.results24, go_sem]) rfl ⟨rfl, ?_⟩
          go_grown
        · have hkI : ¬ (k : Int) < (s.size : Int) := by omega
          clear hq HL
          go_wp2_with (go_at_call 48; refine (hNum _).mono ?_; rintro e w' ⟨rfl, hw⟩; rw [hw])
          refine bodyPost_ret (v := .tuple #[.agg #[.int .i64 0, .int .i64 0], .int .i64 2]) (by simp [results, Tryd.results24, go_sem]) rfl ⟨rfl, ?_⟩
          go_grown
end Go.Proofs.YtmccbokjigjpnaaDoor
