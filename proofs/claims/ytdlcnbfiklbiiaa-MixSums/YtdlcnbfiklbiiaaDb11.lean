/- Both Rounds agree at no number. -/
import Derived.Test.YtdlcnbfiklbiiaaDb10
import Derived.Test.YtdlcnbfiklbiiaaFi1
namespace Go.Proofs.Ytdlcnbfiklbiiaa.Db
open Go.RowKit Go.Maps Go.Sort Ieee
set_option linter.unusedVariables false
set_option linter.unusedSimpArgs false

theorem quiet_nan (s : Bool) (t : Nat) : (Format.read double (Format.write double (.nan s (Format.quiet double t)))).isNaN = true := by
  show (Format.read double (Format.word double s (Format.infRung double + Format.quiet double t % Format.binade double))).isNaN = true
  have hq : Format.quiet double t % Format.binade double ≠ 0 := by
    intro h
    have h1 : (Format.quiet double t % 2 ^ 52).testBit 51 = true := by
      rw [Nat.testBit_mod_two_pow]
      unfold Format.quiet
      rw [Nat.testBit_or]
      show (decide (51 < 52) && (t.testBit 51 || (2 ^ 51).testBit 51)) = true
      rw [Nat.testBit_two_pow_self]; simp
    have h2 : Format.quiet double t % 2 ^ 52 = 0 := h
    rw [h2] at h1
    simp at h1
  have hb := Nat.mod_lt (Format.quiet double t) (show 0 < Format.binade double by rw [binR]; omega)
  rw [binR] at hq hb ⊢
  generalize Format.quiet double t % 4503599627370496 = q at *
  have hw : Format.word double s (Format.infRung double + q) / 9223372036854775808 % 2 = s.toNat ∧ Format.word double s (Format.infRung double + q) % 9223372036854775808 = 2047 * 4503599627370496 + q := by
    unfold Format.word
    rw [signR, infR]
    cases s
    · simp; omega
    · simp; omega
  obtain ⟨w1, w2⟩ := hw
  unfold Format.read
  simp only [signR, binR, infR, least] at w1 w2 ⊢
  simp only [w1, w2]
  rw [if_neg (by omega), if_neg (by omega), if_neg (by omega)]; rfl
theorem toN (P : Program) (nm : String) (way : Ieee.Toward) (y : Nat) (s : Bool) (t : Nat) (hd : FloatKind.decode FloatKind.f64 y = .nan s t) (w : World) :
    ∃ r d, (Extern.MathFloor.toIntegral nm way #[.float .f64 y]).run P w = .ok (.float .f64 r) (w.drewN d) ∧ (r = y ∨ r = FloatKind.encode FloatKind.f64 (.nan s (FloatKind.f64.format.quiet t))) := by
  delta Extern.MathFloor.toIntegral
  generalize FloatKind.encode FloatKind.f64 = E
  generalize hQ : FloatKind.f64.format.quiet t = Q
  generalize FloatKind.decode FloatKind.f64 = D at hd ⊢
  have e : ∀ X : Sem Value, X = X := fun _ => rfl
  conv => arg 1; ext r; arg 1; ext d; lhs; lhs; arg 2; whnf
  rw [hd]
  dsimp only
  rw [hQ]
  by_cases c : Q = t
  · rw [if_pos c]; exact ⟨y, 0, rfl, .inl rfl⟩
  · rw [if_neg c]
    have h : ∀ k : Nat, (if (k == 1) = true then y else E (.nan s Q)) = y ∨ (if (k == 1) = true then y else E (.nan s Q)) = E (.nan s Q) := fun k => by
      by_cases q : (k == 1) = true
      · rw [if_pos q]; exact .inl rfl
      · rw [if_neg q]; exact .inr rfl
    exact ⟨_, 1, rfl, h _⟩
end Go.Proofs.Ytdlcnbfiklbiiaa.Db
