/- What is packed is read as it was, and what can be read is packed to just these bytes. -/
import Derived.Test.YtaohahahhjkcdahZMath
namespace Go.Proofs.Ytaohahahhjkcdah.Z.M
set_option linter.unusedVariables false
set_option linter.unusedSimpArgs false

theorem rw_last {j acc c : Nat} {t : List Nat} (h : c < 128) : rw' (j + 1) acc (c :: t) = (true, acc * 128 + c, t) := by
  rw [rw', if_neg (by omega), if_pos h, Nat.mod_eq_of_lt h]
theorem rw_more {j acc c : Nat} {t : List Nat} (h : 128 ≤ c) (h3 : j = 3 → c ≠ 128) (h0 : j ≠ 0) : rw' (j + 1) acc (c :: t) = rw' j (acc * 128 + c % 128) t := by
  rw [rw', if_neg (by omega), if_neg (by omega)]
theorem rw_wt {n : Nat} (h : n ≤ 268435455) (r : List Nat) : rw' 4 0 (wt n ++ r) = (true, n, r) := by
  unfold wt
  by_cases c3 : 0 < n / 2097152
  · rw [if_pos c3, if_pos (by omega), if_pos (by omega)]
    simp only [List.cons_append, List.nil_append]
    rw [rw_more (by omega) (by omega) (by omega), rw_more (by omega) (by omega) (by omega), rw_more (by omega) (by omega) (by omega), rw_last (by omega)]
    refine Prod.ext rfl (Prod.ext ?_ rfl)
    simp only; omega
  rw [if_neg c3]
  by_cases c2 : 0 < n / 16384
  · rw [if_pos c2, if_pos (by omega)]
    simp only [List.cons_append, List.nil_append]
    rw [rw_more (by omega) (by omega) (by omega), rw_more (by omega) (by omega) (by omega), rw_last (by omega)]
    refine Prod.ext rfl (Prod.ext ?_ rfl)
    simp only; omega
  rw [if_neg c2]
  by_cases c1 : 0 < n / 128
  · rw [if_pos c1]
    simp only [List.cons_append, List.nil_append]
    rw [rw_more (by omega) (by omega) (by omega), rw_last (by omega)]
    refine Prod.ext rfl (Prod.ext ?_ rfl)
    simp only; omega
  rw [if_neg c1]
  simp only [List.cons_append, List.nil_append]
  rw [rw_last (by omega)]
  refine Prod.ext rfl (Prod.ext ?_ rfl)
  simp only; omega
theorem isK_cases {k : Int} (h : isK k = true) : k = 8 ∨ k = 9 ∨ k = 11 ∨ k = 12 ∨ k = 14 := by
  unfold isK at h; simpa [or_assoc] using h
theorem isK_of {k : Int} (h : k = 8 ∨ k = 9 ∨ k = 11 ∨ k = 12 ∨ k = 14) : isK k = true := by
  unfold isK; simpa [or_assoc] using h
/-- An event that is right, packed, is read as it was. -/
theorem re_eb {ah e : Ev} (h : we e ah.t = 0) (r : List Nat) : re ah (eb ah e ++ r) = (true, e, r) := by
  obtain ⟨h1, ⟨h2, h3, h4, h5⟩, h6, h7⟩ := we_ok.1 h
  have hk := isK_cases h1
  obtain ⟨et, ek, ec, ea, ebb⟩ := e
  simp only at *
  have e1 : rw' 4 0 (eb ah ⟨et, ek, ec, ea, ebb⟩ ++ r) = (true, (et - ah.t).toNat, ((if ek = ah.k ∧ ec = ah.c then [] else [(16 * ek + ec).toNat]) ++ (ea.toNat :: (if ek = 12 then [] else [ebb.toNat]))) ++ r) := by
    unfold eb
    rw [List.append_assoc]
    exact rw_wt (by simp only; omega) _
  have e2 : rh ah (((if ek = ah.k ∧ ec = ah.c then [] else [(16 * ek + ec).toNat]) ++ (ea.toNat :: (if ek = 12 then [] else [ebb.toNat]))) ++ r) = (true, ek, ec, (ea.toNat :: (if ek = 12 then [] else [ebb.toNat])) ++ r) := by
    by_cases c : ek = ah.k ∧ ec = ah.c
    · rw [if_pos c]
      simp only [List.nil_append, List.cons_append, rh]
      rw [if_pos (by omega), ← c.1, ← c.2, h1]
    · rw [if_neg c]
      simp only [List.nil_append, List.cons_append, rh]
      have d1 : (((16 * ek + ec).toNat / 16 : Nat) : Int) = ek := by omega
      have d2 : (((16 * ek + ec).toNat % 16 : Nat) : Int) = ec := by omega
      rw [if_neg (by omega), d1, d2, if_neg (by rw [h1]; simpa using c)]
  have e3 : rp ((ea.toNat :: (if ek = 12 then [] else [ebb.toNat])) ++ r) = (true, ea.toNat, (if ek = 12 then [] else [ebb.toNat]) ++ r) := by
    simp only [List.cons_append, rp]
    rw [if_pos (by omega)]
  unfold re
  rw [e1]
  simp only
  rw [e2]
  simp only
  rw [e3]
  simp only
  rw [if_neg (by decide), if_neg (by decide), if_neg (by decide)]
  by_cases c : ek = 12
  · have := h5 c
    rw [if_pos c, if_pos c]
    refine Prod.ext rfl (Prod.ext ?_ rfl)
    simp only [Ev.mk.injEq]
    exact ⟨by omega, trivial, trivial, by omega, by omega⟩
  · rw [if_neg c, if_neg c]
    have e4 : rp ([ebb.toNat] ++ r) = (true, ebb.toNat, r) := by
      simp only [List.cons_append, List.nil_append, rp]
      rw [if_pos (by omega)]
    rw [if_neg (by rw [e4]; simp), e4]
    refine Prod.ext rfl (Prod.ext ?_ rfl)
    simp only [Ev.mk.injEq]
    exact ⟨by omega, trivial, trivial, by omega, by omega⟩
theorem un_pk {f : Nat} {ah : Ev} {l : List Ev} (h : wl ah.t l = 0) (hf : l.length ≤ f) : un f ah (pk ah l) = (l, 0, []) := by
  induction l generalizing f ah with
  | nil => exact un_nil _ _
  | cons e t ih =>
    obtain ⟨h1, h2⟩ := wl_ok.1 h
    obtain ⟨f, rfl⟩ : ∃ g, f = g + 1 := ⟨f - 1, by simp at hf; omega⟩
    have hr := re_eb h1 (pk e t)
    have hne : pk ah (e :: t) ≠ [] := by
      intro hn
      have := (eb_len ah e).1
      have h3 : (pk ah (e :: t)).length = 0 := by rw [hn]; rfl
      simp only [pk, List.length_append] at h3
      omega
    have hr' : re ah (pk ah (e :: t)) = (true, e, pk e t) := hr
    rw [un_on hne (by rw [hr']), hr']
    simp only
    rw [ih h2 (by simp at hf; omega)]
    rfl
/-- What is read as a wait is that wait's bytes. -/
theorem rw_back {l : List Nat} {n : Nat} {r : List Nat} (hb : ∀ x ∈ l, x < 256) (h : rw' 4 0 l = (true, n, r)) : l = wt n ++ r ∧ n ≤ 268435455 := by
  have step : ∀ {j acc : Nat} {l : List Nat}, rw' (j + 1) acc l = (true, n, r) → ∃ c t, l = c :: t ∧ ¬ (j = 3 ∧ c = 128) ∧ ((c < 128 ∧ n = acc * 128 + c ∧ r = t) ∨ (128 ≤ c ∧ j ≠ 0 ∧ rw' j (acc * 128 + c % 128) t = (true, n, r))) := fun {j acc l} h => by
    cases l with
    | nil => simp [rw'] at h
    | cons c t =>
      rw [rw'] at h
      split at h
      · simp at h
      rename_i g
      split at h
      · rename_i g2
        simp only [Prod.mk.injEq, true_and] at h
        exact ⟨c, t, rfl, by omega, Or.inl ⟨g2, by omega, h.2.symm⟩⟩
      · exact ⟨c, t, rfl, by omega, Or.inr ⟨by omega, by omega, h⟩⟩
  obtain ⟨c1, t1, rfl, g1, p1⟩ := step h
  have b1 := hb c1 (by simp)
  rcases p1 with ⟨q1, rfl, rfl⟩ | ⟨q1, _, h2⟩
  · refine ⟨?_, by omega⟩
    unfold wt
    rw [if_neg (by omega), if_neg (by omega), if_neg (by omega)]
    simp only [List.nil_append, List.cons_append]
    congr 1; omega
  obtain ⟨c2, t2, rfl, g2, p2⟩ := step h2
  have b2 := hb c2 (by simp)
  rcases p2 with ⟨q2, rfl, rfl⟩ | ⟨q2, _, h3⟩
  · refine ⟨?_, by omega⟩
    unfold wt
    rw [if_neg (by omega), if_neg (by omega), if_pos (by omega)]
    simp only [List.nil_append, List.cons_append]
    congr 1; · omega
    congr 1; omega
  obtain ⟨c3, t3, rfl, g3, p3⟩ := step h3
  have b3 := hb c3 (by simp)
  rcases p3 with ⟨q3, rfl, rfl⟩ | ⟨q3, _, h4⟩
  · refine ⟨?_, by omega⟩
    unfold wt
    rw [if_neg (by omega), if_pos (by omega), if_pos (by omega)]
    simp only [List.nil_append, List.cons_append]
    congr 1; · omega
    congr 1; · omega
    congr 1; omega
  obtain ⟨c4, t4, rfl, g4, p4⟩ := step h4
  have b4 := hb c4 (by simp)
  rcases p4 with ⟨q4, rfl, rfl⟩ | ⟨q4, q, h5⟩
  · refine ⟨?_, by omega⟩
    unfold wt
    rw [if_pos (by omega), if_pos (by omega), if_pos (by omega)]
    simp only [List.nil_append, List.cons_append]
    congr 1; · omega
    congr 1; · omega
    congr 1; · omega
    congr 1; omega
  · exact absurd rfl q
theorem rh_back {ah : Ev} {l : List Nat} {k c : Int} {r : List Nat} (hb : ∀ x ∈ l, x < 256) (h : rh ah l = (true, k, c, r)) (hc : isK ah.k = true → 0 ≤ ah.c ∧ ah.c ≤ 15) :
    l = (if k = ah.k ∧ c = ah.c then [] else [(16 * k + c).toNat]) ++ r ∧ isK k = true ∧ 0 ≤ c ∧ c ≤ 15 := by
  cases l with
  | nil => simp [rh] at h
  | cons x t =>
    simp only [rh] at h
    split at h
    · rename_i g
      simp only [Prod.mk.injEq] at h
      obtain ⟨h1, rfl, rfl, rfl⟩ := h
      rw [if_pos ⟨rfl, rfl⟩]
      exact ⟨rfl, h1, hc h1⟩
    · rename_i g
      split at h
      · simp at h
      · rename_i g2
        simp only [Prod.mk.injEq, true_and] at h
        obtain ⟨rfl, rfl, rfl⟩ := h
        have hx := hb x (by simp)
        rw [if_neg (fun q => g2 (Or.inr q))]
        refine ⟨?_, ?_, by omega, by omega⟩
        · simp only [List.cons_append, List.nil_append]; congr 1; omega
        · cases hq : isK ((x / 16 : Nat) : Int)
          · exact absurd (Or.inl hq) g2
          · rfl
theorem rp_back {l : List Nat} {a : Nat} {r : List Nat} (h : rp l = (true, a, r)) : l = a :: r ∧ a < 128 := by
  cases l with
  | nil => simp [rp] at h
  | cons x t =>
    simp only [rp] at h
    split at h
    · rename_i g
      simp only [Prod.mk.injEq, true_and] at h
      obtain ⟨rfl, rfl⟩ := h
      exact ⟨rfl, g⟩
    · simp at h
theorem re_back {ah e : Ev} {l r : List Nat} (hb : ∀ x ∈ l, x < 256) (hc : isK ah.k = true → 0 ≤ ah.c ∧ ah.c ≤ 15) (h : re ah l = (true, e, r)) : l = eb ah e ++ r ∧ we e ah.t = 0 := by
  unfold re at h
  rcases hw : rw' 4 0 l with ⟨o1, n, l1⟩
  rw [hw] at h
  simp only at h
  split at h
  · simp at h
  rename_i g1
  obtain rfl : o1 = true := by simpa using g1
  obtain ⟨rfl, hn⟩ := rw_back hb hw
  rcases hh : rh ah l1 with ⟨o2, k, c, l2⟩
  rw [hh] at h
  simp only at h
  split at h
  · simp at h
  rename_i g2
  obtain rfl : o2 = true := by simpa using g2
  obtain ⟨rfl, hk, hc1, hc2⟩ := rh_back (fun x hx => hb x (by simp [hx])) hh hc
  rcases hp : rp l2 with ⟨o3, a, l3⟩
  rw [hp] at h
  simp only at h
  split at h
  · simp at h
  rename_i g3
  obtain rfl : o3 = true := by simpa using g3
  obtain ⟨rfl, ha⟩ := rp_back hp
  split at h
  · rename_i g4
    subst g4
    simp only [Prod.mk.injEq, true_and] at h
    obtain ⟨rfl, rfl⟩ := h
    refine ⟨?_, we_ok.2 ⟨hk, ⟨⟨hc1, hc2⟩, ⟨by simp only; omega, by simp only; omega⟩, ⟨by simp, by simp⟩, fun _ => rfl⟩, by simp only; omega, by simp only; omega⟩⟩
    unfold eb
    simp only
    rw [show (ah.t + (n : Int) - ah.t).toNat = n by omega]
    simp
  · rename_i g4
    rcases hq : rp l3 with ⟨o4, b, l4⟩
    rw [hq] at h
    simp only at h
    split at h
    · simp at h
    rename_i g5
    obtain rfl : o4 = true := by simpa using g5
    obtain ⟨rfl, hb'⟩ := rp_back hq
    simp only [Prod.mk.injEq, true_and] at h
    obtain ⟨rfl, rfl⟩ := h
    refine ⟨?_, we_ok.2 ⟨hk, ⟨⟨hc1, hc2⟩, ⟨by simp only; omega, by simp only; omega⟩, ⟨by simp only; omega, by simp only; omega⟩, fun h => absurd h g4⟩, by simp only; omega, by simp only; omega⟩⟩
    unfold eb
    simp only
    rw [show (ah.t + (n : Int) - ah.t).toNat = n by omega, if_neg g4]
    simp
theorem un_back {f : Nat} {ah : Ev} {l : List Nat} {es : List Ev} {r : List Nat} (hb : ∀ x ∈ l, x < 256) (hc : isK ah.k = true → 0 ≤ ah.c ∧ ah.c ≤ 15) (h : un f ah l = (es, 0, r)) : l = pk ah es ∧ wl ah.t es = 0 ∧ es.length ≤ f := by
  induction f generalizing ah l es r with
  | zero =>
    cases l with
    | nil => simp only [un, Prod.mk.injEq] at h; obtain ⟨rfl, _⟩ := h; exact ⟨rfl, rfl, by simp⟩
    | cons c t => simp [un] at h
  | succ f ih =>
    by_cases hl : l = []
    · subst hl
      rw [un_nil] at h
      simp only [Prod.mk.injEq] at h; obtain ⟨rfl, _⟩ := h; exact ⟨rfl, rfl, by simp⟩
    · cases hr : (re ah l).1
      · rw [un_bad hl hr] at h; simp at h
      · rw [un_on hl hr] at h
        rcases hq : re ah l with ⟨o, e, r1⟩
        rw [hq] at hr h
        simp only at hr h
        subst hr
        obtain ⟨rfl, h2⟩ := re_back hb hc hq
        rcases hu : un f e r1 with ⟨es1, er, r2⟩
        rw [hu] at h
        unfold pre at h
        simp only at h
        split at h
        · rename_i h0
          subst h0
          simp only [Prod.mk.injEq, true_and] at h
          obtain ⟨rfl, _⟩ := h
          obtain ⟨w1, w2, w3, w4⟩ := we_ok.1 h2
          obtain ⟨q1, q2, q3⟩ := ih (fun x hx => hb x (by simp [hx])) (fun _ => w2.1) hu
          subst q1
          exact ⟨rfl, wl_ok.2 ⟨h2, q2⟩, by simp; omega⟩
        · rename_i h0
          simp only [Prod.mk.injEq] at h
          exact absurd h.2.1 h0
theorem wt_bytes (n : Nat) : ∀ x ∈ wt n, x < 256 := by
  intro x hx
  unfold wt at hx
  simp only [List.mem_append] at hx
  rcases hx with hx | hx | hx | hx
  · split at hx
    · simp at hx; omega
    · simp at hx
  · split at hx
    · simp at hx; omega
    · simp at hx
  · split at hx
    · simp at hx; omega
    · simp at hx
  · simp at hx; omega
theorem eb_bytes {ah e : Ev} (h1 : isK e.k = true) (h2 : Rg e) : ∀ x ∈ eb ah e, x < 256 := by
  intro x hx
  have hk := isK_cases h1
  obtain ⟨r1, r2, r3, r4⟩ := h2
  unfold eb at hx
  simp only [List.mem_append, List.mem_cons] at hx
  rcases hx with hx | hx | hx | hx
  · exact wt_bytes _ x hx
  · split at hx
    · simp at hx
    · simp at hx; omega
  · omega
  · split at hx
    · simp at hx
    · simp at hx; omega
theorem pk_bytes {ah : Ev} {l : List Ev} (h : ∀ e ∈ l, isK e.k = true ∧ Rg e ∧ 0 ≤ e.t) : ∀ x ∈ pk ah l, x < 256 := by
  induction l generalizing ah with
  | nil => intro x hx; simp [pk] at hx
  | cons e t ih =>
    intro x hx
    simp only [pk, List.mem_append] at hx
    have he := h e (by simp)
    rcases hx with hx | hx
    · exact eb_bytes he.1 he.2.1 x hx
    · exact ih (fun y hy => h y (by simp [hy])) x hx
end Go.Proofs.Ytaohahahhjkcdah.Z.M
