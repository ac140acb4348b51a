/- All pitches of a right piece's notes are right. -/
import Derived.Test.YthfjbjcdhgajfadGreatDoorSM37
namespace Go.Proofs.YthfjbjcdhgajfadGreatDoor.G.M
set_option linter.unusedVariables false
set_option linter.unusedSimpArgs false

def RtN (l : List Nt) : Prop := ∀ x ∈ l, Proofs.YthfjbjcdhgajfadGreatDoor.M.rt x.pl x.pa x.po = true
theorem mv1_rt {p : Int × Int × Int} {s h : Int} (h0 : (mv1 p s h).2 = 0) : Proofs.YthfjbjcdhgajfadGreatDoor.M.rt (mv1 p s h).1.1 (mv1 p s h).1.2.1 (mv1 p s h).1.2.2 = true := by
  unfold mv1 at *
  split at h0
  · cases h0
  · rename_i c1
    split at h0
    · cases h0
    · rename_i c2
      rw [if_neg c1, if_neg c2]
      simp only at h0 ⊢
      have hm : Proofs.YthfjbjcdhgajfadGreatDoor.M.mk p.1 p.2.1 p.2.2 s h = true := by
        cases hk : Proofs.YthfjbjcdhgajfadGreatDoor.M.mk p.1 p.2.1 p.2.2 s h
        · rw [Proofs.YthfjbjcdhgajfadGreatDoor.M.me_no hk (by simpa using c1)] at h0; cases h0
        · rfl
      rw [Proofs.YthfjbjcdhgajfadGreatDoor.M.ml_yes hm, Proofs.YthfjbjcdhgajfadGreatDoor.M.ma_yes hm, Proofs.YthfjbjcdhgajfadGreatDoor.M.mo_yes hm]
      exact Proofs.YthfjbjcdhgajfadGreatDoor.M.rt_pl (Proofs.YthfjbjcdhgajfadGreatDoor.M.mk_yes hm).2.2
theorem mvd_rt {ms mh : Nat → Int} : ∀ {k : Nat} {p : Int × Int × Int}, Proofs.YthfjbjcdhgajfadGreatDoor.M.rt p.1 p.2.1 p.2.2 = true → (mvd ms mh k p).2 = 0 → Proofs.YthfjbjcdhgajfadGreatDoor.M.rt (mvd ms mh k p).1.1 (mvd ms mh k p).1.2.1 (mvd ms mh k p).1.2.2 = true
  | 0, p, h, _ => h
  | k + 1, p, h, h0 => by
    rw [mvd] at h0 ⊢
    split at h0
    · rename_i c; exact absurd h0 c
    · rename_i c
      rw [if_neg c]
      exact mvd_rt (mv1_rt (by simpa using c)) h0
theorem mvp_rt {mv : List (Int × Int)} {p : Int × Int × Int} (h : Proofs.YthfjbjcdhgajfadGreatDoor.M.rt p.1 p.2.1 p.2.2 = true) (h0 : (mvp mv p).2 = 0) : Proofs.YthfjbjcdhgajfadGreatDoor.M.rt (mvp mv p).1.1 (mvp mv p).1.2.1 (mvp mv p).1.2.2 = true := mvd_rt h h0
theorem tl_rt {lg : Int × Int} : ∀ {l l' : List Nt}, tl lg l = some l' → RtN l → RtN l'
  | [], l', h, _ => by simp [tl] at h; subst h; intro x hx; simp at hx
  | x :: l, l', h, hr => by
    rw [tl] at h
    cases hp : F.M.pl x.lg lg with
    | none => rw [hp] at h; simp at h
    | some f =>
      rw [hp] at h
      simp only [Option.bind_some] at h
      cases ht : tl lg l with
      | none => rw [ht] at h; simp at h
      | some l2 =>
        rw [ht] at h
        simp only [Option.map_some, Option.some.injEq] at h
        subst h
        have h2 := tl_rt ht (fun y hy => hr y (by simp [hy]))
        intro y hy
        rcases List.mem_cons.1 hy with rfl | hy
        · exact hr x (by simp)
        · exact h2 y hy
theorem ra_ch {t : It} (h : raI t = true) (hk : t.k = 1) : ch t.np t.pl t.pa t.po = true := by
  unfold raI ra at h
  split at h
  · cases h
  · simp only [Bool.and_eq_true] at h
    exact h.1.1.1.2
theorem ch_at {np : Nat} {pl pa po : Nat → Int} (h : ch np pl pa po = true) {j : Nat} (hj : j < np) : Proofs.YthfjbjcdhgajfadGreatDoor.M.rt (pl j) (pa j) (po j) = true := by
  unfold ch at h
  rw [List.all_eq_true] at h
  exact h j (by simpa using hj)
theorem lf_rt {vo : Int} {av : Int × Int} {mv : List (Int × Int)} {t : It} {z : Zs} (hr : raI t = true) (hz : RtN z.ns) (h0 : (lf vo av mv t z).2 = 0) : RtN (lf vo av mv t z).1.ns := by
  unfold lf at *
  cases htm : z.tm with
  | nil => rw [htm] at h0; cases h0
  | cons sp tm =>
    rw [htm] at h0
    simp only at h0 ⊢
    cases hp : F.M.pl av sp.1 with
    | none => rw [hp] at h0; cases h0
    | some st =>
      rw [hp] at h0
      simp only at h0 ⊢
      by_cases hk : t.k = 1
      · rw [if_pos hk] at h0 ⊢
        simp only at h0 ⊢
        unfold cdn at h0 ⊢
        obtain ⟨c1, c2⟩ := cdl_all h0
        rw [c2]
        intro x hx
        rcases List.mem_append.1 hx with hx | hx
        · exact hz x hx
        · obtain ⟨j, hj, rfl⟩ := List.mem_map.1 hx
          have hj' := List.mem_range.1 hj
          exact mvp_rt (p := (t.pl j, t.pa j, t.po j)) (ch_at (ra_ch hr hk) hj') (c1 j hj')
      · rw [if_neg hk] at h0 ⊢
        by_cases hk3 : t.k = 3
        · rw [if_pos hk3] at h0 ⊢
          cases ht : tl sp.2.1 (z.ns.drop (z.ns.length - z.hd)) with
          | none => rw [ht] at h0; cases h0
          | some l =>
            simp only
            intro x hx
            rcases List.mem_append.1 hx with hx | hx
            · exact hz x (List.mem_of_mem_take hx)
            · exact tl_rt ht (fun y hy => hz y (List.mem_of_mem_drop hy)) x hx
        · rw [if_neg hk3]; exact hz
theorem sk_rt {f : Nat → Zs → Zs × Int} {n : Nat} (hf : ∀ j, j < n → ∀ z, RtN z.ns → (f j z).2 = 0 → RtN (f j z).1.ns) : ∀ (c i : Nat), i + c ≤ n → ∀ z, RtN z.ns → (sk f c i z).2 = 0 → RtN (sk f c i z).1.ns
  | 0, i, _, z, hz, _ => hz
  | c + 1, i, hi, z, hz, h0 => by
    rw [sk] at h0 ⊢
    split at h0
    · rename_i q; exact absurd h0 q
    · rename_i q
      rw [if_neg q]
      exact sk_rt hf c (i + 1) (by omega) _ (hf i (by omega) z hz (by simpa using q)) h0
theorem sg_rt (vo : Int) (av : Int × Int) (t : It) : ∀ (lev m : Int), 0 ≤ m → m ≤ 4095 → (ri t lev m).1 = true → ∀ (mv : List (Int × Int)) (z : Zs), RtN z.ns → (sg vo av t mv z).2 = 0 → RtN (sg vo av t mv z).1.ns := by
  induction t using It.ind with
  | nil => intro lev m _ _ h; simp [ri] at h
  | mk k s np pl pa po b1 b2 ly n kid ih =>
    intro lev m h1 h2 h mv z hz h0
    obtain ⟨_, _, hk⟩ := ri_kids _ _ _ _ _ _ _ _ _ _ _ _ _ h1 h2 h
    rw [sg_mk] at h0 ⊢
    refine sk_rt (n := n) (fun j hj z hz h0 => ?_) n 0 (by omega) z hz h0
    obtain ⟨r1, r2⟩ := hk j hj
    unfold s1 at h0 ⊢
    by_cases c4 : (kid j).k = 4
    · rw [if_pos c4] at h0 ⊢
      obtain ⟨m', q1, q2, q3⟩ := r2 (Or.inl c4)
      exact ih j _ _ q1 q2 q3 _ _ hz h0
    · rw [if_neg c4] at h0 ⊢
      by_cases c5 : (kid j).k = 5
      · rw [if_pos c5] at h0 ⊢
        obtain ⟨m', q1, q2, q3⟩ := r2 (Or.inr c5)
        exact ih j _ _ q1 q2 q3 _ _ hz h0
      · rw [if_neg c5] at h0 ⊢
        exact lf_rt r1 hz h0
theorem br_rt {vo : Int} {x : List Nt × Nat × (Int × Int)} {u d : Int} {t : It} (hr : (ri t 1 0).1 = true) (hx : RtN x.1) (h0 : (br vo x u d t).2 = 0) : RtN (br vo x u d t).1.1 := by
  unfold br at *
  split at h0
  · rename_i q; exact absurd h0 q
  · rename_i q1
    rw [if_neg q1]
    split at h0
    · rename_i q; exact absurd h0 q
    · rename_i q2
      rw [if_neg q2]
      cases hp : F.M.pl x.2.2 (F.M.mu u d, F.M.md u d) with
      | none => rw [hp] at h0; cases h0
      | some a =>
        simp only
        exact sg_rt vo _ t 1 0 (by omega) (by omega) hr [] _ hx (by simpa using q2)
theorem bf_rt {vo : Int} {x : List Nt × Nat × (Int × Int)} {up dn : Nat → Int} {t : Nat → It} {n : Nat} (hr : ∀ j, j < n → (ri (t j) 1 0).1 = true) (hx : RtN x.1) : ∀ k, k ≤ n → (bf vo x up dn t k).2 = 0 → RtN (bf vo x up dn t k).1.1
  | 0, _, _ => hx
  | k + 1, hk, h0 => by
    rw [bf] at h0 ⊢
    split at h0
    · rename_i q; exact absurd h0 q
    · rename_i q
      rw [if_neg q]
      exact br_rt (hr k (by omega)) (bf_rt hr hx k (by omega) (by simpa using q)) h0
theorem vf_rt {n : Nat → Nat} {up dn : Nat → Nat → Int} {t : Nat → Nat → It} {nv : Nat} (hr : ∀ i, i < nv → ∀ j, j < n i → (ri (t i j) 1 0).1 = true) : ∀ k, k ≤ nv → (vf n up dn t k).2 = 0 → RtN (vf n up dn t k).1
  | 0, _, _ => by intro x hx; simp [vf] at hx
  | k + 1, hk, h0 => by
    rw [vf] at h0 ⊢
    split at h0
    · rename_i q; exact absurd h0 q
    · rename_i q
      rw [if_neg q]
      exact bf_rt (hr k (by omega)) (vf_rt hr k (by omega) (by simpa using q)) (n k) (Nat.le_refl _) h0
theorem nts_rt {nv : Nat} {sn : Nat → ByteArray} {n : Nat → Nat} {up dn : Nat → Nat → Int} {t : Nat → Nat → It} (h0 : (nts nv sn n up dn t).2 = 0) : RtN (nts nv sn n up dn t).1 := by
  have hp := pw_of h0
  obtain ⟨_, q⟩ := pw_ok hp
  unfold nts at h0 ⊢
  rw [if_neg (by simp [hp])] at h0 ⊢
  by_cases c : (vf n up dn t nv).2 ≠ 0
  · rw [if_pos c] at h0; exact absurd h0 c
  · rw [if_neg c]
    exact vf_rt (fun i hi j hj => ((q i hi).2 j hj).2.2.2.2) nv (Nat.le_refl _) (by simpa using c)
end Go.Proofs.YthfjbjcdhgajfadGreatDoor.G.M
