/- The law ClockTells. -/
import Derived.Test.YtmccbokjigjpnaeK13
namespace Go.Proofs.Ytmccbokjigjpnae.F
open Go.RowKit
set_option linter.unusedVariables false
set_option linter.unusedSimpArgs false

/-- What Back tells, whatever comes. -/
def BackR (A P : Nat → Int) (R : Nat → Bool) (n : Nat) (u d p : Int) (e : Ending) : Prop :=
  (K.M.wr A P n ≠ 0 ∧ e = .returned (.tuple #[.int .i64 0, .int .i64 (K.M.wr A P n)])) ∨
  (K.M.wr A P n = 0 ∧ K.M.rte (M.ok u d) u d ≠ 0 ∧ e = .returned (.tuple #[.int .i64 0, .int .i64 (K.M.rte (M.ok u d) u d)])) ∨
  (K.M.wr A P n = 0 ∧ K.M.rte (M.ok u d) u d = 0 ∧ BackOk A P R n u d p e)
theorem BackR.one {A P : Nat → Int} {R : Nat → Bool} {n : Nat} {u d p : Int} {e e' : Ending} (h : BackR A P R n u d p e) (h' : BackR A P R n u d p e') : e = e' := by
  rcases h with ⟨a, rfl⟩ | ⟨a, b, rfl⟩ | ⟨a, b, c⟩ <;> rcases h' with ⟨a', rfl⟩ | ⟨a', b', rfl⟩ | ⟨a', b', c'⟩
  · rfl
  · exact absurd a' a
  · exact absurd a' a
  · exact absurd a a'
  · rfl
  · exact absurd b' b
  · exact absurd a a'
  · exact absurd b b'
  · exact c.one c'
theorem BackR.form {A P : Nat → Int} {R : Nat → Bool} {n : Nat} {u d p : Int} {e : Ending} (h : BackR A P R n u d p e) : ∃ x y : Int, e = .returned (.tuple #[.int .i64 x, .int .i64 y]) := by
  rcases h with ⟨a, rfl⟩ | ⟨a, b, rfl⟩ | ⟨a, b, H, _, (⟨_, rfl⟩ | ⟨_, rfl⟩)⟩
  · exact ⟨_, _, rfl⟩
  · exact ⟨_, _, rfl⟩
  · exact ⟨_, _, rfl⟩
  · exact ⟨_, _, rfl⟩
theorem Back_any (ao : Option Addr) (n c : Nat) (A P : Nat → Int) (R : Nat → Bool) (p u d : Int) (w : World) (hp : ML w ao n A P R) (hc : n ≤ c) (hcm : c ≤ 9223372036854775807) (h1 : -9223372036854775808 ≤ u) (h2 : u ≤ 9223372036854775807) (h3 : -9223372036854775808 ≤ d) (h4 : d ≤ 9223372036854775807) :
    Calls Try.prog 13 #[.slice ao n c, .int .i64 p, .agg #[.int .i64 u, .int .i64 d]] w fun e w' => BackR A P R n u d p e ∧ Below w.heap.size w w' := by
  by_cases a : K.M.wr A P n = 0
  · by_cases b : K.M.rte (M.ok u d) u d = 0
    · exact (Back_yes ao n c A P R p u d w hp hc hcm h1 h2 h3 h4 a b).mono fun e w' h => ⟨.inr (.inr ⟨a, b, h.1⟩), h.2⟩
    · exact (Back_no ao n c A P R p u d _ w hp hc hcm h1 h2 h3 h4 b (.inr ⟨a, rfl⟩)).mono fun e w' h => ⟨.inr (.inl ⟨a, b, h.1⟩), h.2⟩
  · exact (Back_no ao n c A P R p u d _ w hp hc hcm h1 h2 h3 h4 a (.inl rfl)).mono fun e w' h => ⟨.inl ⟨a, h.1⟩, h.2⟩
theorem refBack_any (ao : Option Addr) (n c : Nat) (A P : Nat → Int) (R : Nat → Bool) (p u d : Int) (w : World) (hp : ML w ao n A P R) (hc : n ≤ c) (hcm : c ≤ 9223372036854775807) (h1 : -9223372036854775808 ≤ u) (h2 : u ≤ 9223372036854775807) (h3 : -9223372036854775808 ≤ d) (h4 : d ≤ 9223372036854775807) :
    Calls Try.prog 14 #[.slice ao n c, .int .i64 p, .agg #[.int .i64 u, .int .i64 d]] w fun e w' => BackR A P R n u d p e ∧ Below w.heap.size w w' := by
  by_cases a : K.M.wr A P n = 0
  · by_cases b : K.M.rte (M.ok u d) u d = 0
    · exact (refBack_yes ao n c A P R p u d w hp hc hcm h1 h2 h3 h4 a b).mono fun e w' h => ⟨.inr (.inr ⟨a, b, h.1⟩), h.2⟩
    · exact (refBack_no ao n c A P R p u d _ w hp hc hcm h1 h2 h3 h4 b (.inr ⟨a, rfl⟩)).mono fun e w' h => ⟨.inr (.inl ⟨a, b, h.1⟩), h.2⟩
  · exact (refBack_no ao n c A P R p u d _ w hp hc hcm h1 h2 h3 h4 a (.inl rfl)).mono fun e w' h => ⟨.inl ⟨a, h.1⟩, h.2⟩

set_option maxRecDepth 20000 in
set_option maxHeartbeats 4000000 in
theorem tells_walk (ao : Option Addr) (n c : Nat) (A P : Nat → Int) (R : Nat → Bool) (t p u d : Int) (w : World) (hp : ML w ao n A P R) (hc : n ≤ c) (hcm : c ≤ 9223372036854775807) (h1 : -9223372036854775808 ≤ u) (h2 : u ≤ 9223372036854775807) (h3 : -9223372036854775808 ≤ d) (h4 : d ≤ 9223372036854775807) :
    Calls Try.prog 3 #[.slice ao n c, .int .i64 t, .int .i64 p, .agg #[.int .i64 u, .int .i64 d]] w fun e w' => e = .returned (.bool true) ∧ Below w.heap.size w w' := by
  have HW := fun w hp => Wrong_any ao n c A P R w hp hc hcm
  have HW' := fun w hp => refWrong7_any ao n c A P R w hp hc hcm
  have HT := fun w hp => Twice_any ao n c A P R t w hp hc hcm
  have HP := fun w hp => Place_any ao n c A P R t u d w hp hc hcm h1 h2 h3 h4
  have HP' := fun w hp => refPlace_any ao n c A P R t u d w hp hc hcm h1 h2 h3 h4
  have HB := fun w hp => Back_any ao n c A P R p u d w hp hc hcm h1 h2 h3 h4
  have HB' := fun w hp => refBack_any ao n c A P R p u d w hp hc hcm h1 h2 h3 h4
  have HO : Hid (∀ e e', BackR A P R n u d p e → BackR A P R n u d p e' → e = e') := fun e e' a b => a.one b
  have HF : Hid (∀ e, BackR A P R n u d p e → ∃ x y : Int, e = .returned (.tuple #[.int .i64 x, .int .i64 y])) := fun e a => a.form
  obtain ⟨Q, hQ⟩ : ∃ Q, BackR A P R n u d p = Q := ⟨_, rfl⟩
  simp only [hQ] at HB HB' HO HF
  clear hQ
  by_cases c0 : K.M.wr A P n = 0
  · rw [c0] at HW HW'
    by_cases c1 : t < 0 ∨ 1048576 < t
    · obtain ⟨e1, e2⟩ := K.M.te_range (R := R) c0 c1
      rw [e1, e2] at HT
      rcases (show t < 0 ∨ (0 ≤ t ∧ 1048576 < t) by omega) with y | ⟨y, y'⟩
      all_goals
        clear e1 e2 c1 c0
        generalize K.M.pv A P R n t (M.ok u d) u d = X1 at *
        generalize K.M.pe A P n t (M.ok u d) u d = X2 at *
        go_enter Try.func3, Try.ntmps3
        go_wp2_with fail
        refine (HW _ (hp.step (by go_grown))).mono ?_
        rintro e w1 ⟨rfl, hb⟩
        have c0 : w1.cell? ⟨w.heap.size, 0, none⟩ = some (.int .i64 u) := keepC hb (by simp) (by simp [go_sem])
        have c1 : w1.cell? ⟨w.heap.size, 1, none⟩ = some (.int .i64 d) := keepC hb (by simp) (by simp [go_sem])
        have k1 : Below w.heap.size w w1 := Below.trans (by go_grown) (hb.mono (by simp))
        have s1 : w.heap.size < w1.heap.size := by have := hb.size; simp at this; omega
        clear hb
        go_wp2_with fail
        refine (HW' _ (hp.step k1)).mono ?_
        rintro e w2 ⟨rfl, hb⟩
        replace c0 := keepC hb s1 c0
        replace c1 := keepC hb s1 c1
        have s2 : w.heap.size < w2.heap.size := by have := hb.size; omega
        have k2 := k1.trans (hb.mono k1.size)
        clear hb
        go_wp2_with fail
        refine (HT _ (hp.step k2)).mono ?_
        rintro e w3 ⟨rfl, hb⟩
        replace c0 := keepC hb s2 c0
        replace c1 := keepC hb s2 c1
        have s3 : w.heap.size < w3.heap.size := by have := hb.size; omega
        have k3 := k2.trans (hb.mono k2.size)
        clear hb
        go_wp2_with fail
        refine (HW' _ (hp.step k3)).mono ?_
        rintro e w4 ⟨rfl, hb⟩
        replace c0 := keepC hb s3 c0
        replace c1 := keepC hb s3 c1
        have s4 : w.heap.size < w4.heap.size := by have := hb.size; omega
        have k4 := k3.trans (hb.mono k3.size)
        clear hb
        go_wp2_with fail
        refine (HP _ (hp.step k4)).mono ?_
        rintro e w5 ⟨rfl, hb⟩
        replace c0 := keepC hb s4 c0
        replace c1 := keepC hb s4 c1
        have s5 : w.heap.size < w5.heap.size := by have := hb.size; omega
        have k5 := k4.trans (hb.mono k4.size)
        clear hb
        go_wp2_with fail
        refine (HP' _ (hp.step k5)).mono ?_
        rintro e w6 ⟨rfl, hb⟩
        replace c0 := keepC hb s5 c0
        replace c1 := keepC hb s5 c1
        have s6 : w.heap.size < w6.heap.size := by have := hb.size; omega
        have k6 := k5.trans (hb.mono k5.size)
        clear hb
        go_wp2_with fail
        refine (HB _ (hp.step k6)).mono ?_
        rintro e w7 ⟨hB, hb⟩
        obtain ⟨x, y, rfl⟩ := HF.out e hB
        replace hB : Hid (Q (.returned (.tuple #[.int .i64 x, .int .i64 y]))) := hB
        replace c0 := keepC hb s6 c0
        replace c1 := keepC hb s6 c1
        have s7 : w.heap.size < w7.heap.size := by have := hb.size; omega
        have k7 := k6.trans (hb.mono k6.size)
        clear hb
        go_wp2_with fail
        refine (HB' _ (hp.step k7)).mono ?_
        rintro e w8 ⟨hB2, hb⟩
        obtain rfl := HO.out _ _ hB2 hB.out
        clear hB2 hB
        replace c0 := keepC hb s7 c0
        replace c1 := keepC hb s7 c1
        have s8 : w.heap.size < w8.heap.size := by have := hb.size; omega
        have k8 := k7.trans (hb.mono k7.size)
        clear hb
        go_wp2_with fail
        go_returns
        exact ⟨by simp, k8⟩
    · obtain ⟨e1, e2⟩ := K.M.te_yes (R := R) c0 c1
      rw [e1, e2] at HT
      have t1 : 0 ≤ t := by omega
      have t2 : t ≤ 1048576 := by omega
      have HU := fun w hp => refTwice_any ao n c A P R t w hp hc hcm (K.M.wr_rt c0) t1 t2
      clear e1 e2 c1 c0
      generalize K.M.tw A P R n n t = X at *
      generalize K.M.pv A P R n t (M.ok u d) u d = X1 at *
      generalize K.M.pe A P n t (M.ok u d) u d = X2 at *
      go_enter Try.func3, Try.ntmps3
      go_wp2_with fail
      refine (HW _ (hp.step (by go_grown))).mono ?_
      rintro e w1 ⟨rfl, hb⟩
      have c0 : w1.cell? ⟨w.heap.size, 0, none⟩ = some (.int .i64 u) := keepC hb (by simp) (by simp [go_sem])
      have c1 : w1.cell? ⟨w.heap.size, 1, none⟩ = some (.int .i64 d) := keepC hb (by simp) (by simp [go_sem])
      have k1 : Below w.heap.size w w1 := Below.trans (by go_grown) (hb.mono (by simp))
      have s1 : w.heap.size < w1.heap.size := by have := hb.size; simp at this; omega
      clear hb
      go_wp2_with fail
      refine (HW' _ (hp.step k1)).mono ?_
      rintro e w2 ⟨rfl, hb⟩
      replace c0 := keepC hb s1 c0
      replace c1 := keepC hb s1 c1
      have s2 : w.heap.size < w2.heap.size := by have := hb.size; omega
      have k2 := k1.trans (hb.mono k1.size)
      clear hb
      go_wp2_with fail
      refine (HT _ (hp.step k2)).mono ?_
      rintro e w3 ⟨rfl, hb⟩
      replace c0 := keepC hb s2 c0
      replace c1 := keepC hb s2 c1
      have s3 : w.heap.size < w3.heap.size := by have := hb.size; omega
      have k3 := k2.trans (hb.mono k2.size)
      clear hb
      go_wp2_with fail
      refine (HW' _ (hp.step k3)).mono ?_
      rintro e w4 ⟨rfl, hb⟩
      replace c0 := keepC hb s3 c0
      replace c1 := keepC hb s3 c1
      have s4 : w.heap.size < w4.heap.size := by have := hb.size; omega
      have k4 := k3.trans (hb.mono k3.size)
      clear hb
      go_wp2_with fail
      refine (HU _ (hp.step k4)).mono ?_
      rintro e w5 ⟨rfl, hb⟩
      replace c0 := keepC hb s4 c0
      replace c1 := keepC hb s4 c1
      have s5 : w.heap.size < w5.heap.size := by have := hb.size; omega
      have k5 := k4.trans (hb.mono k4.size)
      clear hb
      go_wp2_with fail
      refine (HP _ (hp.step k5)).mono ?_
      rintro e w6 ⟨rfl, hb⟩
      replace c0 := keepC hb s5 c0
      replace c1 := keepC hb s5 c1
      have s6 : w.heap.size < w6.heap.size := by have := hb.size; omega
      have k6 := k5.trans (hb.mono k5.size)
      clear hb
      go_wp2_with fail
      refine (HP' _ (hp.step k6)).mono ?_
      rintro e w7 ⟨rfl, hb⟩
      replace c0 := keepC hb s6 c0
      replace c1 := keepC hb s6 c1
      have s7 : w.heap.size < w7.heap.size := by have := hb.size; omega
      have k7 := k6.trans (hb.mono k6.size)
      clear hb
      go_wp2_with fail
      refine (HB _ (hp.step k7)).mono ?_
      rintro e w8 ⟨hB, hb⟩
      obtain ⟨x, y, rfl⟩ := HF.out e hB
      replace hB : Hid (Q (.returned (.tuple #[.int .i64 x, .int .i64 y]))) := hB
      replace c0 := keepC hb s7 c0
      replace c1 := keepC hb s7 c1
      have s8 : w.heap.size < w8.heap.size := by have := hb.size; omega
      have k8 := k7.trans (hb.mono k7.size)
      clear hb
      go_wp2_with fail
      refine (HB' _ (hp.step k8)).mono ?_
      rintro e w9 ⟨hB2, hb⟩
      obtain rfl := HO.out _ _ hB2 hB.out
      clear hB2 hB
      replace c0 := keepC hb s8 c0
      replace c1 := keepC hb s8 c1
      have s9 : w.heap.size < w9.heap.size := by have := hb.size; omega
      have k9 := k8.trans (hb.mono k8.size)
      clear hb
      go_wp2_with fail
      go_returns
      exact ⟨by simp, k9⟩
  · obtain ⟨e1, e2⟩ := K.M.te_wrong (R := R) (t := t) c0
    rw [e1, e2] at HT
    have hne : (K.M.wr A P n != 0) = true := by simp [c0]
    clear e1 e2
    generalize K.M.wr A P n = V at *
    generalize K.M.pv A P R n t (M.ok u d) u d = X1 at *
    generalize K.M.pe A P n t (M.ok u d) u d = X2 at *
    go_enter Try.func3, Try.ntmps3
    go_wp2_with fail
    refine (HW _ (hp.step (by go_grown))).mono ?_
    rintro e w1 ⟨rfl, hb⟩
    have c0 : w1.cell? ⟨w.heap.size, 0, none⟩ = some (.int .i64 u) := keepC hb (by simp) (by simp [go_sem])
    have c1 : w1.cell? ⟨w.heap.size, 1, none⟩ = some (.int .i64 d) := keepC hb (by simp) (by simp [go_sem])
    have k1 : Below w.heap.size w w1 := Below.trans (by go_grown) (hb.mono (by simp))
    have s1 : w.heap.size < w1.heap.size := by have := hb.size; simp at this; omega
    clear hb
    go_wp2_with fail
    refine (HW' _ (hp.step k1)).mono ?_
    rintro e w2 ⟨rfl, hb⟩
    replace c0 := keepC hb s1 c0
    replace c1 := keepC hb s1 c1
    have s2 : w.heap.size < w2.heap.size := by have := hb.size; omega
    have k2 := k1.trans (hb.mono k1.size)
    clear hb
    go_wp2_with fail
    refine (HT _ (hp.step k2)).mono ?_
    rintro e w3 ⟨rfl, hb⟩
    replace c0 := keepC hb s2 c0
    replace c1 := keepC hb s2 c1
    have s3 : w.heap.size < w3.heap.size := by have := hb.size; omega
    have k3 := k2.trans (hb.mono k2.size)
    clear hb
    go_wp2_with fail
    refine (HW' _ (hp.step k3)).mono ?_
    rintro e w4 ⟨rfl, hb⟩
    replace c0 := keepC hb s3 c0
    replace c1 := keepC hb s3 c1
    have s4 : w.heap.size < w4.heap.size := by have := hb.size; omega
    have k4 := k3.trans (hb.mono k3.size)
    clear hb
    go_wp2_with fail
    refine (HP _ (hp.step k4)).mono ?_
    rintro e w5 ⟨rfl, hb⟩
    replace c0 := keepC hb s4 c0
    replace c1 := keepC hb s4 c1
    have s5 : w.heap.size < w5.heap.size := by have := hb.size; omega
    have k5 := k4.trans (hb.mono k4.size)
    clear hb
    go_wp2_with fail
    refine (HP' _ (hp.step k5)).mono ?_
    rintro e w6 ⟨rfl, hb⟩
    replace c0 := keepC hb s5 c0
    replace c1 := keepC hb s5 c1
    have s6 : w.heap.size < w6.heap.size := by have := hb.size; omega
    have k6 := k5.trans (hb.mono k5.size)
    clear hb
    go_wp2_with fail
    refine (HB _ (hp.step k6)).mono ?_
    rintro e w7 ⟨hB, hb⟩
    obtain ⟨x, y, rfl⟩ := HF.out e hB
    replace hB : Hid (Q (.returned (.tuple #[.int .i64 x, .int .i64 y]))) := hB
    replace c0 := keepC hb s6 c0
    replace c1 := keepC hb s6 c1
    have s7 : w.heap.size < w7.heap.size := by have := hb.size; omega
    have k7 := k6.trans (hb.mono k6.size)
    clear hb
    go_wp2_with fail
    refine (HB' _ (hp.step k7)).mono ?_
    rintro e w8 ⟨hB2, hb⟩
    obtain rfl := HO.out _ _ hB2 hB.out
    clear hB2 hB
    replace c0 := keepC hb s7 c0
    replace c1 := keepC hb s7 c1
    have s8 : w.heap.size < w8.heap.size := by have := hb.size; omega
    have k8 := k7.trans (hb.mono k7.size)
    clear hb
    go_wp2_with fail
    go_returns
    exact ⟨by simp, k8⟩
end Go.Proofs.Ytmccbokjigjpnae.F
