/- What noise, split and clip come to. -/
import Derived.Test.YtdlcnbfiklbiiaaMx1
namespace Go.Proofs.Ytdlcnbfiklbiiaa.Mx
open Go.RowKit Go.Maps Go.Sort
set_option linter.unusedVariables false
set_option linter.unusedSimpArgs false

theorem sd_wrap (S : Nat) : IntKind.u32.wrap (IntKind.u32.wrap (1664525 * (S : Int)) + 1013904223) = ((sd S : Nat) : Int) := by
  simp only [IntKind.wrap_u32]; unfold sd; omega
theorem sd_wrap' (S : Nat) : IntKind.u32.wrap (IntKind.u32.wrap ((S : Int) * 1664525) + 1013904223) = ((sd S : Nat) : Int) := by
  simp only [IntKind.wrap_u32]; unfold sd; omega
set_option maxHeartbeats 2000000 in
theorem noise_any (s : Dt) (b : Nat) (w : World) (hD : DL w b s) :
    Calls Try.prog 66 #[.pointer (some ⟨b, 0, none⟩)] w fun e w' => e = .returned (.int .i64 (sd s.seed / 65536 : Nat)) ∧ w' = w.setCell ⟨b, 0, none⟩ (.int .u32 (sd s.seed)) := by
  have c0 := hD.c0
  have f0 := hD.f 0
  have hlt := hD.lt
  obtain ⟨Z, hZ⟩ : ∃ Z, Z = sd s.seed := ⟨_, rfl⟩
  have hs : (1664525 * (s.seed : Int) + 1013904223) % 4294967296 = ((Z : Nat) : Int) := by rw [hZ]; unfold sd; omega
  have Hs : Hid ((1664525 * (s.seed : Int) + 1013904223) % 4294967296 = ((Z : Nat) : Int)) := hs
  rw [← hZ]
  generalize s.seed = S at *
  clear hD hZ hs
  go_enter Try.func66, Try.ntmps66
  go_wp2_with fail
  go_ret
  rw [Hs.out]
  exact ⟨by rw [show ((Z / 65536 : Nat) : Int) = (Z : Int) / 65536 by omega]; rfl, rfl⟩
theorem cut_is (n : Int) : (if 32767 < (if n < -32768 then -32768 else n) then 32767 else (if n < -32768 then -32768 else n)) = cut n := by
  unfold cut
  by_cases h1 : n < -32768
  · simp only [if_pos h1]; rw [if_neg (by omega), if_neg (by omega)]
  · simp only [if_neg h1]
set_option maxHeartbeats 2000000 in
theorem clip_any (s : Dt) (b : Nat) (n : Int) (w : World) (hD : DL w b s) (hn1 : -9223372036854775808 ≤ n) (hn2 : n ≤ 9223372036854775807) (hcl : s.clip < 4611686018427387904) :
    Calls Try.prog 50 #[.pointer (some ⟨b, 0, none⟩), .int .i64 n] w fun e w' => e = .returned (.int .i64 (cut n)) ∧ DL w' b ⟨s.seed, if cut n = n then s.rest else 0, s.loud, if cut n = n then s.clip else s.clip + 1⟩ ∧ Kn w b w.heap.size w' := by
  have c1 := hD.c1
  have c3 := hD.c3
  have f1 := hD.f 1
  have f3 := hD.f 3
  have hlt := hD.lt
  have hmm := cut_is n
  generalize cut n = Z at *
  have HD : Hid (DL w b s) := hD
  have w3 : IntKind.i64.wrap ((s.clip : Int) + 1) = (s.clip : Int) + 1 := wid (by omega) (by omega)
  clear hD
  by_cases hc : Z = n
  · have hc' : (Z != n) = false := by simp [hc]
    have HZ : Hid (Z = n) := hc
    rw [if_pos hc, if_pos hc]
    clear hc
    go_enter Try.func50, Try.ntmps50
    go_wp2_with fail
    all_goals
      go_ret
      exact ⟨rfl, HD.out, Kn.refl _ _ _⟩
  · rw [if_neg hc, if_neg hc]
    have hc' : (Z != n) = true := by simp [hc]
    clear hc
    go_enter Try.func50, Try.ntmps50
    go_wp2_with fail
    all_goals
      go_ret
      exact ⟨rfl, (HD.out.put1 0).put3 (s.clip + 1), (Kn.put (.inl rfl) (Nat.le_refl _)).trans (Kn.put (.inl rfl) (Nat.le_refl _))⟩
set_option maxHeartbeats 2000000 in
theorem split_any (s : Dt) (hg : Gd s) (b : Nat) (x : Int) (hx1 : -4503599627370496 ≤ x) (hx2 : x ≤ 4503599627370496) (w : World) (hD : DL w b s) :
    Calls Try.prog 51 #[.pointer (some ⟨b, 0, none⟩), .int .i64 x] w fun e w' => e = .returned (.int .i64 (raw s x)) ∧ DL w' b ⟨sd s.seed, x + s.rest - 65536 * raw s x, s.loud, s.clip⟩ ∧ Kn w b w.heap.size w' := by
  have c1 := hD.c1
  have f1 := hD.f 1
  have hlt := hD.lt
  have g1 := hg.r1
  have g2 := hg.r2
  have hq := noise_any s b w hD
  have HD : Hid (DL w b s) := hD
  obtain ⟨m, m0, m1, me⟩ := raw_eq s x
  have nl := noise_lt s.seed
  have HR : Hid ((x + s.rest + ((sd s.seed / 65536 : Nat) : Int)) / 65536 = raw s x) := rfl
  obtain ⟨R, hR⟩ : ∃ R, R = raw s x := ⟨_, rfl⟩
  rw [← hR] at HR me ⊢
  obtain ⟨N, hN⟩ : ∃ N, N = sd s.seed / 65536 := ⟨_, rfl⟩
  rw [← hN] at hq HR me nl
  generalize sd s.seed = Z at *
  have HP : Hid (∀ v, DL (((w.setCell ⟨b, 0, none⟩ (.int .u32 Z))).setCell ⟨b, 1, none⟩ (.int .i64 v)) b ⟨Z, v, s.loud, s.clip⟩) := fun v => (HD.out.put0 Z).put1 v
  generalize s.rest = T at *
  have wa : IntKind.i64.wrap (x + T) = x + T := wid (by omega) (by omega)
  have wb : IntKind.i64.wrap (x + T + (N : Int)) = x + T + (N : Int) := wid (by omega) (by omega)
  clear hD hR hN hg
  go_enter Try.func51, Try.ntmps51
  go_wp2_with fail
  refine hq.mono ?_
  rintro e w1 ⟨rfl, hw⟩
  rw [hw]
  clear hw hq
  go_wp2_with fail
  go_ret
  have hd : (65536 * R + m) / 65536 = R := by omega
  have hv := HP.out (x + T - (65536 * R + m) / 65536 * 65536)
  rw [hd] at hv ⊢
  refine ⟨rfl, ?_, (Kn.put (.inl rfl) (Nat.le_refl _)).trans (Kn.put (.inl rfl) (Nat.le_refl _))⟩
  rw [show x + T - 65536 * R = x + T - R * 65536 by omega]
  exact hv
end Go.Proofs.Ytdlcnbfiklbiiaa.Mx
