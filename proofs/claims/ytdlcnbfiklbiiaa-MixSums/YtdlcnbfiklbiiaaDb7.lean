/- Round, the document's: the walk, from what the floats come to. -/
import Derived.Test.YtdlcnbfiklbiiaaDb4
import Derived.Test.YtdlcnbfiklbiiaaDb6
namespace Go.Proofs.Ytdlcnbfiklbiiaa.Db
open Go.RowKit Go.Maps Go.Sort
set_option linter.unusedVariables false
set_option linter.unusedSimpArgs false

theorem wid {x : Int} (h1 : -9223372036854775808 ≤ x) (h2 : x ≤ 9223372036854775807) : IntKind.i64.wrap x = x := by rw [IntKind.wrap_i64]; omega
theorem tmod2 (n : Int) : (Int.tmod n 2 = 0 ↔ n % 2 = 0) ∧ -1 ≤ Int.tmod n 2 ∧ Int.tmod n 2 ≤ 1 := by
  by_cases h : 0 ≤ n
  · rw [Int.tmod_eq_emod_of_nonneg h]; omega
  · have e := Int.neg_tmod (-n) 2
    have e2 : Int.tmod (-n) 2 = (-n) % 2 := Int.tmod_eq_emod_of_nonneg (by omega)
    rw [Int.neg_neg, e2] at e
    rw [e]; omega
theorem conv_run (r : Nat) (n : Int) (h : floatToIntVal .f64 r .i64 = some n) (w : World) : (convert 24 3 (.float .f64 r)).run Try.prog w = .ok (.int .i64 n) w :=
  run_convert_float_int w 24 3 .f64 .i64 r n (by rw [Try.underlying24]; rfl) Try.underlying3 h
set_option maxHeartbeats 4000000 in
theorem ref_nan (b : Nat) (w : World) (hn : (Ieee.double.order b b != some .eq) = true) :
    Calls Try.prog 13 #[.float .f64 b] w fun e w' => e = .returned (.int .i64 0) ∧ Below w.heap.size w w' := by
  have hn' : (FloatKind.f64.format.order b b != some .eq) = true := hn
  go_enter Try.func13, Try.ntmps13
  go_wp2_with (simp only [hn'])
  go_ret
  exact ⟨rfl, Below.refl _ _⟩
set_option maxHeartbeats 4000000 in
theorem ref_high (b : Nat) (w : World) (hn : (Ieee.double.order b b != some .eq) = false) (h1 : (Ieee.double.order b 4607182418800017408 == some .gt || Ieee.double.order b 4607182418800017408 == some .eq) = true) :
    Calls Try.prog 13 #[.float .f64 b] w fun e w' => e = .returned (.int .i64 32767) ∧ Below w.heap.size w w' := by
  have hn' : (FloatKind.f64.format.order b b != some .eq) = false := hn
  have h1' : (FloatKind.f64.format.order b 4607182418800017408 == some .gt || FloatKind.f64.format.order b 4607182418800017408 == some .eq) = true := h1
  go_enter Try.func13, Try.ntmps13
  go_wp2_with (simp only [hn', h1'])
  go_ret
  exact ⟨rfl, Below.refl _ _⟩
set_option maxHeartbeats 4000000 in
theorem ref_low (b : Nat) (w : World) (hn : (Ieee.double.order b b != some .eq) = false) (h1 : (Ieee.double.order b 4607182418800017408 == some .gt || Ieee.double.order b 4607182418800017408 == some .eq) = false)
    (h2 : (Ieee.double.order b 13830554455654793216 == some .lt || Ieee.double.order b 13830554455654793216 == some .eq) = true) :
    Calls Try.prog 13 #[.float .f64 b] w fun e w' => e = .returned (.int .i64 (-32768)) ∧ Below w.heap.size w w' := by
  have hn' : (FloatKind.f64.format.order b b != some .eq) = false := hn
  have h1' : (FloatKind.f64.format.order b 4607182418800017408 == some .gt || FloatKind.f64.format.order b 4607182418800017408 == some .eq) = false := h1
  have h2' : (FloatKind.f64.format.order b 13830554455654793216 == some .lt || FloatKind.f64.format.order b 13830554455654793216 == some .eq) = true := h2
  go_enter Try.func13, Try.ntmps13
  go_wp2_with (simp only [hn', h1', h2'])
  go_ret
  exact ⟨rfl, Below.refl _ _⟩
set_option maxRecDepth 8000 in
set_option maxHeartbeats 4000000 in
theorem ref_mid (b y f z : Nat) (c : Ordering) (n0 : Int) (w : World) (hn : (Ieee.double.order b b != some .eq) = false) (h1 : (Ieee.double.order b 4607182418800017408 == some .gt || Ieee.double.order b 4607182418800017408 == some .eq) = false)
    (h2 : (Ieee.double.order b 13830554455654793216 == some .lt || Ieee.double.order b 13830554455654793216 == some .eq) = false)
    (hm : Ieee.double.mul b 4674736413210574848 = some y) (hf : ∀ w, (callFunc 48 #[.float .f64 y]).run Try.prog w = .ok (.value (.float .f64 f)) w) (hc : floatToIntVal .f64 f .i64 = some n0)
    (hz : Ieee.double.sub y f = some z) (ho : Ieee.double.order z 4602678819172646912 = some c) (hn1 : -32768 ≤ n0) (hn2 : n0 ≤ 32767) :
    Calls Try.prog 13 #[.float .f64 b] w fun e w' => e = .returned (.int .i64 (min (if c = .gt ∨ (c = .eq ∧ n0 % 2 ≠ 0) then n0 + 1 else n0) 32767)) ∧ Below w.heap.size w w' := by
  have hn' : (FloatKind.f64.format.order b b != some .eq) = false := hn
  have h1' : (FloatKind.f64.format.order b 4607182418800017408 == some .gt || FloatKind.f64.format.order b 4607182418800017408 == some .eq) = false := h1
  have h2' : (FloatKind.f64.format.order b 13830554455654793216 == some .lt || FloatKind.f64.format.order b 13830554455654793216 == some .eq) = false := h2
  have hm' := fmul hm
  have hs' := fsub hz
  have hcv := conv_run f n0 hc
  have hfl := fun w => floor_any y f w hf
  have hg : (FloatKind.f64.format.order z 4602678819172646912 == some .gt) = (c == .gt) := by
    show (Ieee.double.order z 4602678819172646912 == some .gt) = _
    rw [ho]; cases c <;> rfl
  have he : (FloatKind.f64.format.order z 4602678819172646912 == some .eq) = (c == .eq) := by
    show (Ieee.double.order z 4602678819172646912 == some .eq) = _
    rw [ho]; cases c <;> rfl
  have w1 : IntKind.i64.wrap (n0 + 1) = n0 + 1 := wid (by omega) (by omega)
  obtain ⟨R, hR⟩ : ∃ R, R = Int.tmod n0 2 := ⟨_, rfl⟩
  have htm := tmod2 n0
  rw [← hR] at htm
  have w2 : IntKind.i64.wrap R = R := wid (by omega) (by omega)
  have hR' : Int.tmod n0 2 = R := hR.symm
  obtain ⟨RES, hRES⟩ : ∃ RES, RES = min (if c = .gt ∨ (c = .eq ∧ n0 % 2 ≠ 0) then n0 + 1 else n0) 32767 := ⟨_, rfl⟩
  rw [← hRES]
  have hcases : (c = .gt ∧ n0 + 1 ≤ 32767 ∧ RES = n0 + 1) ∨ (c = .gt ∧ 32767 < n0 + 1 ∧ RES = 32767) ∨ (c = .eq ∧ R ≠ 0 ∧ n0 + 1 ≤ 32767 ∧ RES = n0 + 1) ∨ (c = .eq ∧ R ≠ 0 ∧ 32767 < n0 + 1 ∧ RES = 32767) ∨ (c = .eq ∧ R = 0 ∧ RES = n0) ∨ (c = .lt ∧ RES = n0) := by
    cases c
    · refine .inr (.inr (.inr (.inr (.inr ⟨rfl, ?_⟩)))); rw [hRES, if_neg (by simp)]; omega
    · by_cases q : R = 0
      · refine .inr (.inr (.inr (.inr (.inl ⟨rfl, q, ?_⟩)))); rw [hRES, if_neg (by simp; omega)]; omega
      · have e : (if (Ordering.eq = .gt ∨ (Ordering.eq = .eq ∧ n0 % 2 ≠ 0)) then n0 + 1 else n0) = n0 + 1 := if_pos (.inr ⟨rfl, by omega⟩)
        rw [e] at hRES
        by_cases g : n0 + 1 ≤ 32767
        · exact .inr (.inr (.inl ⟨rfl, q, g, by omega⟩))
        · exact .inr (.inr (.inr (.inl ⟨rfl, q, by omega, by omega⟩)))
    · have e : (if (Ordering.gt = .gt ∨ (Ordering.gt = .eq ∧ n0 % 2 ≠ 0)) then n0 + 1 else n0) = n0 + 1 := if_pos (.inl rfl)
      rw [e] at hRES
      by_cases g : n0 + 1 ≤ 32767
      · exact .inl ⟨rfl, g, by omega⟩
      · exact .inr (.inl ⟨rfl, by omega, by omega⟩)
  clear hRES htm ho hc hm hf hz hn h1 h2 hR
  rcases hcases with ⟨rfl, g, hr⟩ | ⟨rfl, g, hr⟩ | ⟨rfl, q, g, hr⟩ | ⟨rfl, q, g, hr⟩ | ⟨rfl, q, hr⟩ | ⟨rfl, hr⟩
  all_goals
    have HR : Hid (Value.int .i64 RES = Value.int .i64 RES) := rfl
    have g1 : (Ordering.gt == Ordering.gt) = true := rfl
    have g2 : (Ordering.eq == Ordering.gt) = false := rfl
    have g3 : (Ordering.lt == Ordering.gt) = false := rfl
    have g4 : (Ordering.eq == Ordering.eq) = true := rfl
    have g5 : (Ordering.lt == Ordering.eq) = false := rfl
    have g6 : (Ordering.gt == Ordering.eq) = false := rfl
    simp only [g1, g2, g3, g4, g5, g6] at hg he
    clear g1 g2 g3 g4 g5 g6 HR
    have HRR : Hid (RES = RES) := rfl
    go_enter Try.func13, Try.ntmps13
    go_wp2_with (simp only [hn', h1', h2', hm'])
    refine (hfl _).mono ?_
    rintro e w5 ⟨rfl, rfl⟩
    go_wp2_with (simp only [hcv, hs', hg, he, hR', w2])
    try go_region
    try go_wp2_with (simp only [hcv, hs', hg, he, hR', w2])
    go_ret
    exact ⟨congrArg (fun x => Ending.returned (Value.int .i64 x)) (by omega), by go_grown⟩
end Go.Proofs.Ytdlcnbfiklbiiaa.Db
