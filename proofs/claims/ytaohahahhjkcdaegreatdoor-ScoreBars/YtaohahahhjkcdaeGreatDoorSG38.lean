/- A voice cut in two, plain: the whole's notes are the first half's and the second half's, as much later as the first one lasts. -/
import Derived.Test.YtaohahahhjkcdaeGreatDoorSG37
import Derived.Test.YtaohahahhjkcdaeGreatDoorSG34
import Derived.Test.YtaohahahhjkcdaeGreatDoorSG20
import Derived.Test.YtaohahahhjkcdaeGreatDoorSG4
namespace Go.Proofs.YtaohahahhjkcdaeGreatDoor.G.M
set_option linter.unusedVariables false
set_option linter.unusedSimpArgs false

structure Xw (B : Int × Int) (xs : List Nt) (xw x2 : List Nt × Nat × (Int × Int)) : Prop where
  ns : xw.1 = xs ++ x2.1.map (sft B)
  tol : Tol B x2.1
  at' : F.M.pl x2.2.2 B = some xw.2.2
  d : 1 ≤ x2.2.2.2
def HdX (xw x2 : List Nt × Nat × (Int × Int)) : Prop := xw.2.1 = x2.2.1 ∧ x2.2.1 ≤ x2.1.length
theorem br_tw {B : Int × Int} {xs : List Nt} {vo : Int} {xw x2 : List Nt × Nat × (Int × Int)} {u d : Int} {t : It} (hB : 1 ≤ B.2) (h : Xw B xs xw x2) (hh : HdX xw x2 ∨ td t = false) (hr : (ri t 1 0).1 = true) (u1 : 1 ≤ u) (u2 : u ≤ 65536) (d1 : 1 ≤ d) (d2 : d ≤ 65536) (h0 : (br vo xw u d t).2 = 0) :
    (br vo x2 u d t).2 = 4 ∨ ((br vo x2 u d t).2 = 0 ∧ Xw B xs (br vo xw u d t).1 (br vo x2 u d t).1 ∧ HdX (br vo xw u d t).1 (br vo x2 u d t).1) := by
  obtain ⟨nw, hw, A⟩ := xw
  obtain ⟨n2, h2, a⟩ := x2
  obtain ⟨e1, e2, e3, e4⟩ := h
  simp only at e1 e2 e3 e4
  have hf := (foot u1 u2 d1 d2).2
  unfold br at h0 ⊢
  simp only at h0 ⊢
  by_cases q1 : (bs u d t).1 ≠ 0
  · rw [if_pos q1] at h0; exact absurd h0 q1
  · simp only [if_neg q1] at h0 ⊢
    obtain ⟨hso, _, _⟩ := bs_ok hf (by simpa using q1)
    have hok : ∀ p ∈ (bs u d t).2, 1 ≤ p.1.2 := fun p hp => (F.M.Ok.low (hso p hp).1).1.1
    by_cases q2 : (sg vo A t [] ⟨nw, hw, (bs u d t).2⟩).2 ≠ 0
    · rw [if_pos q2] at h0; exact absurd h0 q2
    · simp only [if_neg q2] at h0 ⊢
      have hT : Tw B xs ⟨nw, hw, (bs u d t).2⟩ ⟨n2, h2, (bs u d t).2⟩ := ⟨e1, e2, rfl, hok⟩
      have hS : (sg vo a t [] ⟨n2, h2, (bs u d t).2⟩).2 = 4 ∨ ((sg vo a t [] ⟨n2, h2, (bs u d t).2⟩).2 = 0 ∧ Tw B xs (sg vo A t [] ⟨nw, hw, (bs u d t).2⟩).1 (sg vo a t [] ⟨n2, h2, (bs u d t).2⟩).1 ∧ Hd (sg vo A t [] ⟨nw, hw, (bs u d t).2⟩).1 (sg vo a t [] ⟨n2, h2, (bs u d t).2⟩).1) := by
        rcases hh with hh | hh
        · exact sg_tw e4 hB e3 t [] _ _ hT hh (by simpa using q2)
        · exact sg_first e4 hB e3 t 1 0 (by omega) (by omega) hr hh [] _ _ hT (by simpa using q2)
      rcases hS with h4 | ⟨g1, g2, g3⟩
      · left; rw [if_pos (by omega)]; exact h4
      · simp only [if_neg (show ¬ (sg vo a t [] ⟨n2, h2, (bs u d t).2⟩).2 ≠ 0 by simp [g1])]
        cases hp : F.M.pl A (F.M.mu u d, F.M.md u d) with
        | none => rw [hp] at h0; simp at h0
        | some A' =>
          cases hq : F.M.pl a (F.M.mu u d, F.M.md u d) with
          | none => left; rfl
          | some a' =>
            right
            have hm := (F.M.Ok.low hf).1.1
            refine ⟨rfl, ⟨g2.ns, g2.tol, pl_shift e4 hB hm e3 hq hp, (pl_val hq e4 hm).2⟩, g3⟩
theorem bf_tw {B : Int × Int} {xs : List Nt} {vo : Int} {x : List Nt × Nat × (Int × Int)} {up dn : Nat → Int} {t : Nat → It} {k n : Nat} (hB : 1 ≤ B.2) (hBt : F.M.tell B.1 B.2 = some B) (hx : (bf vo x up dn t k).1.1 = xs) (hb : (bf vo x up dn t k).1.2.2 = B) (htd : k < n → td (t k) = false)
    (hr : ∀ j, j < n → (ri (t j) 1 0).1 = true ∧ 1 ≤ up j ∧ up j ≤ 65536 ∧ 1 ≤ dn j ∧ dn j ≤ 65536) : ∀ j, k + j ≤ n → (bf vo x up dn t (k + j)).2 = 0 →
    (bf vo ([], 0, (0, 1)) (fun m => up (k + m)) (fun m => dn (k + m)) (fun m => t (k + m)) j).2 = 4 ∨ ((bf vo ([], 0, (0, 1)) (fun m => up (k + m)) (fun m => dn (k + m)) (fun m => t (k + m)) j).2 = 0 ∧ Xw B xs (bf vo x up dn t (k + j)).1 (bf vo ([], 0, (0, 1)) (fun m => up (k + m)) (fun m => dn (k + m)) (fun m => t (k + m)) j).1 ∧ (1 ≤ j → HdX (bf vo x up dn t (k + j)).1 (bf vo ([], 0, (0, 1)) (fun m => up (k + m)) (fun m => dn (k + m)) (fun m => t (k + m)) j).1))
  | 0, _, _ => by
    right
    refine ⟨rfl, ⟨?_, ?_, ?_, ?_⟩, fun h => by omega⟩
    · rw [Nat.add_zero, hx]; simp [bf]
    · intro y hy; simp [bf] at hy
    · rw [Nat.add_zero, hb]
      show F.M.pl (0, 1) B = some B
      unfold F.M.pl
      simp only [Int.zero_mul, Int.zero_add, Int.mul_one, Int.one_mul]
      exact hBt
    · show (1 : Int) ≤ 1; omega
  | j + 1, hj, h0 => by
    have e : k + (j + 1) = (k + j) + 1 := by omega
    rw [e] at h0 ⊢
    have hw : (bf vo x up dn t (k + j)).2 = 0 := by
      by_cases q : (bf vo x up dn t (k + j)).2 ≠ 0
      · rw [bf, if_pos q] at h0; exact absurd h0 q
      · simpa using q
    have hw2 : bf vo x up dn t (k + j + 1) = br vo (bf vo x up dn t (k + j)).1 (up (k + j)) (dn (k + j)) (t (k + j)) := bf_on hw
    rw [hw2] at h0 ⊢
    obtain ⟨r1, r2, r3, r4, r5⟩ := hr (k + j) (by omega)
    rcases bf_tw hB hBt hx hb htd hr j (by omega) hw with h4 | ⟨g1, g2, g3⟩
    · left
      rw [bf_stop (k := j) (by omega) (j + 1) (by omega)]; exact h4
    · rw [bf_on g1]
      have hh : HdX (bf vo x up dn t (k + j)).1 (bf vo ([], 0, (0, 1)) (fun m => up (k + m)) (fun m => dn (k + m)) (fun m => t (k + m)) j).1 ∨ td (t (k + j)) = false := by
        by_cases hj0 : j = 0
        · right; subst hj0; rw [Nat.add_zero]; exact htd (by omega)
        · left; exact g3 (by omega)
      rcases br_tw hB g2 hh r1 r2 r3 r4 r5 h0 with h4 | ⟨q1, q2, q3⟩
      · exact Or.inl h4
      · exact Or.inr ⟨q1, q2, fun _ => q3⟩
end Go.Proofs.YtaohahahhjkcdaeGreatDoor.G.M

/- ScoreBars, plain: a voice of its own, cut in two between bars. -/
namespace Go.Proofs.YtaohahahhjkcdaeGreatDoor.G.M
set_option linter.unusedVariables false
set_option linter.unusedSimpArgs false

theorem fe_zero {f : Nat → Int} : ∀ {n : Nat}, (∀ i, i < n → f i = 0) → fe f n = 0
  | 0, _ => rfl
  | n + 1, h => fe_next n (fe_zero (fun i hi => h i (by omega))) (h n (by omega))
theorem ok_tell {f : Int × Int} (h : F.M.Ok f) : F.M.tell f.1 f.2 = some f := by
  obtain ⟨h1, h2⟩ := F.M.Ok.low h
  obtain ⟨e1, e2⟩ := F.M.low_val h1
  unfold F.M.tell
  rw [e1, e2, if_pos h2]
/-- How long the first k bars last together. -/
def bk (up dn : Nat → Int) : Nat → Option (Int × Int)
  | 0 => some (0, 1)
  | k + 1 => (bk up dn k).bind fun b => F.M.pl b (F.M.mu (up k) (dn k), F.M.md (up k) (dn k))
theorem br_by {vo : Int} {x : List Nt × Nat × (Int × Int)} {u d : Int} {t : It} (h : (br vo x u d t).2 = 0) : F.M.pl x.2.2 (F.M.mu u d, F.M.md u d) = some (br vo x u d t).1.2.2 := by
  unfold br at h ⊢
  by_cases c1 : (bs u d t).1 ≠ 0
  · rw [if_pos c1] at h; exact absurd h c1
  · rw [if_neg c1] at h ⊢
    by_cases c2 : (sg vo x.2.2 t [] ⟨x.1, x.2.1, (bs u d t).2⟩).2 ≠ 0
    · rw [if_pos c2] at h; exact absurd h c2
    · rw [if_neg c2] at h ⊢
      cases hp : F.M.pl x.2.2 (F.M.mu u d, F.M.md u d) with
      | none => rw [hp] at h; simp at h
      | some a => rfl
theorem bf_before {vo : Int} {x : List Nt × Nat × (Int × Int)} {up dn : Nat → Int} {t : Nat → It} {n k : Nat} (h : (bf vo x up dn t n).2 = 0) (hk : k ≤ n) : (bf vo x up dn t k).2 = 0 := by
  by_cases c : (bf vo x up dn t k).2 ≠ 0
  · rw [bf_stop c n hk] at h; exact absurd h c
  · simpa using c
theorem bf_by {vo : Int} {ns : List Nt} {hd : Nat} {up dn : Nat → Int} {t : Nat → It} {n : Nat} (hr : ∀ j, j < n → 1 ≤ up j ∧ up j ≤ 65536 ∧ 1 ≤ dn j ∧ dn j ≤ 65536) (h : (bf vo (ns, hd, (0, 1)) up dn t n).2 = 0) : ∀ k, k ≤ n → bk up dn k = some (bf vo (ns, hd, (0, 1)) up dn t k).1.2.2 ∧ F.M.Ok (bf vo (ns, hd, (0, 1)) up dn t k).1.2.2
  | 0, _ => ⟨rfl, by show F.M.ok 0 1 = true; decide⟩
  | k + 1, hk => by
    obtain ⟨h1, h2⟩ := bf_by hr h k (by omega)
    have h3 := bf_before h hk
    rw [bf_on (bf_before h (by omega))] at h3 ⊢
    have h4 := br_by h3
    obtain ⟨a, b, c, d⟩ := hr k (by omega)
    have h5 := (foot a b c d).2
    rw [bk, h1]
    exact ⟨h4, F.M.tell_ok h4 (F.M.mul_pos' _ _ h2.low.1.1 h5.low.1.1)⟩
/-- A voice alone: what its notes are. -/
theorem one_voice {s : ByteArray} {n : Nat} {up dn : Nat → Int} {t : Nat → It} (h : (nts 1 (fun _ => s) (fun _ => n) (fun _ => up) (fun _ => dn) (fun _ => t)).2 = 0) : (nts 1 (fun _ => s) (fun _ => n) (fun _ => up) (fun _ => dn) (fun _ => t)).1 = (bf 0 ([], 0, (0, 1)) up dn t n).1.1 ∧ (bf 0 ([], 0, (0, 1)) up dn t n).2 = 0 := by
  have hp := pw_of h
  unfold nts at h ⊢
  rw [if_neg (by simp [hp])] at h ⊢
  by_cases c : (vf (fun _ => n) (fun _ => up) (fun _ => dn) (fun _ => t) 1).2 ≠ 0
  · rw [if_pos c] at h; exact absurd h c
  · rw [if_neg c]
    exact ⟨rfl, Classical.not_not.1 c⟩
theorem one_of {s : ByteArray} {n : Nat} {up dn : Nat → Int} {t : Nat → It} (hp : pw 1 (fun _ => s) (fun _ => n) (fun _ => up) (fun _ => dn) (fun _ => t) = 0) : nts 1 (fun _ => s) (fun _ => n) (fun _ => up) (fun _ => dn) (fun _ => t) = if (bf 0 ([], 0, (0, 1)) up dn t n).2 ≠ 0 then ([], (bf 0 ([], 0, (0, 1)) up dn t n).2) else ((bf 0 ([], 0, (0, 1)) up dn t n).1.1, 0) := by
  unfold nts
  rw [if_neg (by simp [hp])]
  rfl
theorem vw_bars {s : ByteArray} {n k o : Nat} {up dn : Nat → Int} {t : Nat → It} (h : pw 1 (fun _ => s) (fun _ => n) (fun _ => up) (fun _ => dn) (fun _ => t) = 0) (hk : o + k ≤ n) : pw 1 (fun _ => s) (fun _ => k) (fun _ m => up (o + m)) (fun _ m => dn (o + m)) (fun _ m => t (o + m)) = 0 := by
  have h1 : vw s n up dn t = 0 := by
    have := h
    unfold pw at this
    rw [if_neg (by omega)] at this
    exact fe_all this 0 (by omega)
  have h2 : vw s k (fun m => up (o + m)) (fun m => dn (o + m)) (fun m => t (o + m)) = 0 := by
    unfold vw at h1 ⊢
    by_cases c2 : nm s = false
    · rw [if_pos c2] at h1; exact absurd h1 (by decide)
    · rw [if_neg c2] at h1 ⊢
      by_cases c3 : 1024 < n
      · rw [if_pos c3] at h1; exact absurd h1 (by decide)
      · rw [if_neg c3] at h1
        rw [if_neg (by omega)]
        exact fe_zero (fun i hi => fe_all h1 (o + i) (by omega))
  unfold pw
  rw [if_neg (by omega)]
  exact fe_zero (fun i hi => h2)
/-- BOTH HALVES: the first has no fault; the second's times can't be told, or it has none either, and the whole's notes are the first one's and then the second one's, as much later as the first one lasts. -/
theorem cut_two {s : ByteArray} {n k : Nat} {up dn : Nat → Int} {t : Nat → It} (h : (nts 1 (fun _ => s) (fun _ => n) (fun _ => up) (fun _ => dn) (fun _ => t)).2 = 0) (hk : k ≤ n) (htd : k < n → td (t k) = false) :
    (nts 1 (fun _ => s) (fun _ => k) (fun _ => up) (fun _ => dn) (fun _ => t)).2 = 0 ∧ ∃ B, bk up dn k = some B ∧ F.M.Ok B ∧
      ((nts 1 (fun _ => s) (fun _ => n - k) (fun _ m => up (k + m)) (fun _ m => dn (k + m)) (fun _ m => t (k + m))).2 = 4 ∨
       ((nts 1 (fun _ => s) (fun _ => n - k) (fun _ m => up (k + m)) (fun _ m => dn (k + m)) (fun _ m => t (k + m))).2 = 0 ∧
        (nts 1 (fun _ => s) (fun _ => n) (fun _ => up) (fun _ => dn) (fun _ => t)).1 = (nts 1 (fun _ => s) (fun _ => k) (fun _ => up) (fun _ => dn) (fun _ => t)).1 ++ (nts 1 (fun _ => s) (fun _ => n - k) (fun _ m => up (k + m)) (fun _ m => dn (k + m)) (fun _ m => t (k + m))).1.map (sft B) ∧
        Tol B (nts 1 (fun _ => s) (fun _ => n - k) (fun _ m => up (k + m)) (fun _ m => dn (k + m)) (fun _ m => t (k + m))).1)) := by
  have hp := pw_of h
  obtain ⟨w1, w2⟩ := one_voice h
  obtain ⟨_, hr⟩ := pw_ok hp
  have hr' : ∀ j, j < n → (ri (t j) 1 0).1 = true ∧ 1 ≤ up j ∧ up j ≤ 65536 ∧ 1 ≤ dn j ∧ dn j ≤ 65536 := fun j hj => by
    obtain ⟨a, b, c, d, e⟩ := (hr 0 (by omega)).2 j hj
    exact ⟨e, a, b, c, d⟩
  have p1 := vw_bars (k := k) (o := 0) hp (by omega)
  simp only [Nat.zero_add] at p1
  have p2 := vw_bars (k := n - k) (o := k) hp (by omega)
  obtain ⟨b1, b2⟩ := bf_by (fun j hj => (hr' j hj).2) w2 k hk
  have e1 := one_of p1
  rw [if_neg (by simp [bf_before w2 hk])] at e1
  have e2 := one_of p2
  rw [e1, w1]
  refine ⟨rfl, _, b1, b2, ?_⟩
  have key := bf_tw (n := n) (k := k) b2.low.1.1 (ok_tell b2) rfl rfl htd hr' (n - k) (by omega) (by rw [show k + (n - k) = n by omega]; exact w2)
  rw [show k + (n - k) = n by omega] at key
  rw [e2]
  rcases key with h4 | ⟨g1, g2, _⟩
  · left; rw [if_pos (by rw [h4]; decide)]; exact h4
  · right
    rw [if_neg (by simp [g1])]
    exact ⟨rfl, g2.ns, g2.tol⟩
end Go.Proofs.YtaohahahhjkcdaeGreatDoor.G.M

/- The starts of all notes of a voice are fractions that can be told; how many notes there are at most. -/
namespace Go.Proofs.YtaohahahhjkcdaeGreatDoor.G.M
set_option linter.unusedVariables false
set_option linter.unusedSimpArgs false

def StN (l : List Nt) : Prop := ∀ x ∈ l, F.M.Ok x.st
theorem tl_st {lg : Int × Int} : ∀ {l l' : List Nt}, tl lg l = some l' → StN l → StN l'
  | [], l', h, _ => by simp [tl] at h; subst h; intro x hx; simp at hx
  | x :: l, l', h, hr => by
    rw [tl] at h
    cases hp : F.M.pl x.lg lg with
    | none => rw [hp] at h; simp at h
    | some f =>
      rw [hp] at h
      simp only [Option.bind_some] at h
      cases ht : tl lg l with
      | none => rw [ht] at h; simp at h
      | some l2 =>
        rw [ht] at h
        simp only [Option.map_some, Option.some.injEq] at h
        subst h
        have h2 := tl_st ht (fun y hy => hr y (by simp [hy]))
        intro y hy
        rcases List.mem_cons.1 hy with rfl | hy
        · exact hr x (by simp)
        · exact h2 y hy
structure SO (z : Zs) : Prop where
  st : StN z.ns
  tm : ∀ p ∈ z.tm, 1 ≤ p.1.2
theorem lf_st {vo : Int} {av : Int × Int} {mv : List (Int × Int)} {t : It} {z : Zs} (ha : 1 ≤ av.2) (hz : SO z) (h0 : (lf vo av mv t z).2 = 0) : SO (lf vo av mv t z).1 := by
  obtain ⟨ns, hd, tm⟩ := z
  obtain ⟨z1, z2⟩ := hz
  simp only at z1 z2
  unfold lf at h0 ⊢
  simp only at h0 ⊢
  cases tm with
  | nil => cases h0
  | cons sp tm =>
    simp only at h0 ⊢
    have ok2 : ∀ p ∈ tm, 1 ≤ p.1.2 := fun p hp => z2 p (by simp [hp])
    cases hp : F.M.pl av sp.1 with
    | none => rw [hp] at h0; cases h0
    | some st =>
      rw [hp] at h0
      simp only at h0 ⊢
      have hst : F.M.Ok st := F.M.tell_ok hp (F.M.mul_pos' _ _ ha (z2 sp (by simp)))
      by_cases hk : t.k = 1
      · simp only [if_pos hk] at h0 ⊢
        unfold cdn at h0 ⊢
        obtain ⟨c1, c2⟩ := cdl_all h0
        rw [c2]
        refine ⟨fun x hx => ?_, ok2⟩
        rcases List.mem_append.1 hx with hx | hx
        · exact z1 x hx
        · obtain ⟨j, hj, rfl⟩ := List.mem_map.1 hx
          exact hst
      · simp only [if_neg hk] at h0 ⊢
        by_cases hk3 : t.k = 3
        · simp only [if_pos hk3] at h0 ⊢
          cases ht : tl sp.2.1 (ns.drop (ns.length - hd)) with
          | none => rw [ht] at h0; cases h0
          | some l =>
            simp only
            refine ⟨fun x hx => ?_, ok2⟩
            rcases List.mem_append.1 hx with hx | hx
            · exact z1 x (List.mem_of_mem_take hx)
            · exact tl_st ht (fun y hy => z1 y (List.mem_of_mem_drop hy)) x hx
        · simp only [if_neg hk3]; exact ⟨z1, ok2⟩
theorem sk_st {f : Nat → Zs → Zs × Int} (hf : ∀ j, ∀ z, SO z → (f j z).2 = 0 → SO (f j z).1) : ∀ (c i : Nat), ∀ z, SO z → (sk f c i z).2 = 0 → SO (sk f c i z).1
  | 0, i, z, hz, _ => hz
  | c + 1, i, z, hz, h0 => by
    rw [sk] at h0 ⊢
    split at h0
    · rename_i q; exact absurd h0 q
    · rename_i q
      rw [if_neg q]
      exact sk_st hf c (i + 1) _ (hf i z hz (by simpa using q)) h0
theorem sg_st (vo : Int) {av : Int × Int} (ha : 1 ≤ av.2) (t : It) : ∀ (mv : List (Int × Int)) (z : Zs), SO z → (sg vo av t mv z).2 = 0 → SO (sg vo av t mv z).1 := by
  induction t using It.ind with
  | nil => intro mv z _ h; simp [sg] at h
  | mk k s np pl pa po b1 b2 ly n kid ih =>
    intro mv z hz h0
    rw [sg_mk] at h0 ⊢
    refine sk_st (fun j z hz h0 => ?_) n 0 z hz h0
    unfold s1 at h0 ⊢
    by_cases c4 : (kid j).k = 4
    · rw [if_pos c4] at h0 ⊢
      exact ih j _ _ hz h0
    · rw [if_neg c4] at h0 ⊢
      by_cases c5 : (kid j).k = 5
      · rw [if_pos c5] at h0 ⊢
        exact ih j _ _ hz h0
      · rw [if_neg c5] at h0 ⊢
        exact lf_st ha hz h0
theorem br_st {vo : Int} {x : List Nt × Nat × (Int × Int)} {u d : Int} {t : It} (u1 : 1 ≤ u) (u2 : u ≤ 65536) (d1 : 1 ≤ d) (d2 : d ≤ 65536) (ha : 1 ≤ x.2.2.2) (hx : StN x.1) (h0 : (br vo x u d t).2 = 0) : StN (br vo x u d t).1.1 := by
  have hf := (foot u1 u2 d1 d2).2
  unfold br at *
  by_cases q1 : (bs u d t).1 ≠ 0
  · rw [if_pos q1] at h0; exact absurd h0 q1
  · rw [if_neg q1] at h0 ⊢
    obtain ⟨hso, _, _⟩ := bs_ok hf (by simpa using q1)
    by_cases q2 : (sg vo x.2.2 t [] ⟨x.1, x.2.1, (bs u d t).2⟩).2 ≠ 0
    · rw [if_pos q2] at h0; exact absurd h0 q2
    · rw [if_neg q2] at h0 ⊢
      cases hp : F.M.pl x.2.2 (F.M.mu u d, F.M.md u d) with
      | none => rw [hp] at h0; cases h0
      | some a =>
        simp only
        exact (sg_st vo ha t [] _ ⟨hx, fun p hp => (F.M.Ok.low (hso p hp).1).1.1⟩ (by simpa using q2)).st
theorem bf_st {up dn : Nat → Int} {t : Nat → It} {n : Nat} (hr : ∀ j, j < n → 1 ≤ up j ∧ up j ≤ 65536 ∧ 1 ≤ dn j ∧ dn j ≤ 65536) (h : (bf 0 ([], 0, (0, 1)) up dn t n).2 = 0) : ∀ k, k ≤ n → StN (bf 0 ([], 0, (0, 1)) up dn t k).1.1
  | 0, _ => by intro x hx; simp [bf] at hx
  | k + 1, hk => by
    have h3 := bf_before h hk
    rw [bf_on (bf_before h (by omega))] at h3 ⊢
    obtain ⟨a, b, c, d⟩ := hr k (by omega)
    exact br_st a b c d (bf_by hr h k (by omega)).2.low.1.1 (bf_st hr h k (by omega)) h3
theorem bf_bo {up dn : Nat → Int} {t : Nat → It} {n : Nat} (hr : ∀ j, j < n → (ri (t j) 1 0).1 = true ∧ 1 ≤ up j ∧ up j ≤ 65536 ∧ 1 ≤ dn j ∧ dn j ≤ 65536) (h : (bf 0 ([], 0, (0, 1)) up dn t n).2 = 0) : ∀ k, k ≤ n → Bo (bf 0 ([], 0, (0, 1)) up dn t k).1 (k * 65536)
  | 0, _ => ⟨Nat.le_refl _, fun y hy => by simp [bf] at hy, (by show F.M.ok 0 1 = true; decide), by simp [bf]⟩
  | k + 1, hk => by
    have h3 := bf_before h hk
    rw [bf_on (bf_before h (by omega))] at h3 ⊢
    obtain ⟨e, a, b, c, d⟩ := hr k (by omega)
    have := br_ok (bf_bo hr h k (by omega)) (foot a b c d).2 (by omega) (by omega) e h3
    rw [show (k + 1) * 65536 = k * 65536 + 65536 by omega]
    exact this
theorem one_st {s : ByteArray} {n : Nat} {up dn : Nat → Int} {t : Nat → It} (h : (nts 1 (fun _ => s) (fun _ => n) (fun _ => up) (fun _ => dn) (fun _ => t)).2 = 0) : StN (nts 1 (fun _ => s) (fun _ => n) (fun _ => up) (fun _ => dn) (fun _ => t)).1 ∧ (nts 1 (fun _ => s) (fun _ => n) (fun _ => up) (fun _ => dn) (fun _ => t)).1.length ≤ 67108864 := by
  obtain ⟨w1, w2⟩ := one_voice h
  obtain ⟨_, hr⟩ := pw_ok (pw_of h)
  have hn := (hr 0 (by omega)).1
  have hr' : ∀ j, j < n → (ri (t j) 1 0).1 = true ∧ 1 ≤ up j ∧ up j ≤ 65536 ∧ 1 ≤ dn j ∧ dn j ≤ 65536 := fun j hj => by
    obtain ⟨a, b, c, d, e⟩ := (hr 0 (by omega)).2 j hj
    exact ⟨e, a, b, c, d⟩
  rw [w1]
  have hl := (bf_bo hr' w2 n (Nat.le_refl _)).len
  exact ⟨bf_st (fun j hj => (hr' j hj).2) w2 n (Nat.le_refl _), by omega⟩
end Go.Proofs.YtaohahahhjkcdaeGreatDoor.G.M

/- What the program's pitch comes to, at every word. -/
namespace Go.Proofs.YtaohahahhjkcdaeGreatDoor.J
open Go.RowKit
set_option linter.unusedVariables false
set_option linter.unusedSimpArgs false

theorem rd_at (s : ByteArray) : 0 ≤ (P.M.rd s).2.2.2.2 ∧ (P.M.rd s).2.2.2.2 ≤ s.size + 1 := by
  unfold P.M.rd
  have h := M.sg_bd (M.r1 s)
  have h2 : (M.r1 s).size ≤ s.size := by unfold M.r1; rw [ByteArray.size_extract]; omega
  repeat' split
  all_goals (dsimp only; omega)

theorem TK.alloc {w w' : World} {p : Nat} (h : TK w p w') (hp : p < w.heap.size) (o : Obj) : TK w p (w'.alloc o) :=
  h.trans (TK.below ((Below.refl _ _).alloc (Nat.le_refl _) _) (Nat.lt_of_lt_of_le hp (h.bel.size)))
theorem Rt.alloc {w : World} {p k : Nat} {s : ByteArray} (h : Rt w p s k) (o : Obj) : Rt (w.alloc o) p s k :=
  h.step ((Below.refl _ _).alloc (Nat.le_refl _) _)
theorem TK.put {w w' : World} {p b i : Nat} {v : Value} (h : TK w p w') (hp : p < w.heap.size) (hb : w.heap.size ≤ b) : TK w p (w'.setCell ⟨b, i, none⟩ v) :=
  ⟨h.bel.setCell (p := ⟨b, i, none⟩) (by show p ≤ b; omega) _, fun c h1 h2 => (heap_setCell_other _ _ _ _ (by show c ≠ b; omega)).trans (h.blk c h1 h2), fun j hj => (World.cell?_setCell_other _ _ _ _ (by intro e; cases e; omega)).trans (h.oth j hj), fun j => (World.frozen?_setCell _ _ _ _).trans (h.fz j)⟩
theorem Rt.put {w : World} {p k b i : Nat} {v : Value} {s : ByteArray} (h : Rt w p s k) (hb : b ≠ p) : Rt (w.setCell ⟨b, i, none⟩ v) p s k :=
  ⟨by simpa using h.lt, (World.cell?_setCell_other _ _ _ _ (by intro e; cases e; exact hb rfl)).trans h.c0, (World.cell?_setCell_other _ _ _ _ (by intro e; cases e; exact hb rfl)).trans h.c1, (World.frozen?_setCell _ _ _ _).trans h.f1⟩
theorem put3 {w2 : World} {p b : Nat} {d : Value} {x0 x1 x2 L A O : Value} (o1 o2 : Obj) (m0 : w2.cell? ⟨b, 0, none⟩ = some x0) (m1 : w2.cell? ⟨b, 1, none⟩ = some x1) (m2 : w2.cell? ⟨b, 2, none⟩ = some x2) (hb : b < w2.heap.size) (hne : b ≠ p) :
    (((((((w2.setCell ⟨p, 1, none⟩ d).setCell ⟨b, 0, none⟩ L).setCell ⟨b, 1, none⟩ A).setCell ⟨b, 2, none⟩ O).alloc o1).alloc o2).cell? ⟨b, 0, none⟩ = some L) ∧
    (((((((w2.setCell ⟨p, 1, none⟩ d).setCell ⟨b, 0, none⟩ L).setCell ⟨b, 1, none⟩ A).setCell ⟨b, 2, none⟩ O).alloc o1).alloc o2).cell? ⟨b, 1, none⟩ = some A) ∧
    (((((((w2.setCell ⟨p, 1, none⟩ d).setCell ⟨b, 0, none⟩ L).setCell ⟨b, 1, none⟩ A).setCell ⟨b, 2, none⟩ O).alloc o1).alloc o2).cell? ⟨b, 2, none⟩ = some O) := by
  have al : ∀ (w : World) (o : Obj) (i : Nat), b < w.heap.size → (w.alloc o).cell? ⟨b, i, none⟩ = w.cell? ⟨b, i, none⟩ := fun w o i h => ((Below.refl w.heap.size w).alloc (Nat.le_refl _) o).cell (p := ⟨b, i, none⟩) h
  have q0 : (w2.setCell ⟨p, 1, none⟩ d).cell? ⟨b, 0, none⟩ = some x0 := (World.cell?_setCell_other _ _ _ _ (by intro e; cases e)).trans m0
  have q1 : (w2.setCell ⟨p, 1, none⟩ d).cell? ⟨b, 1, none⟩ = some x1 := (World.cell?_setCell_other _ _ _ _ (by intro e; cases e; exact hne rfl)).trans m1
  have q2 : (w2.setCell ⟨p, 1, none⟩ d).cell? ⟨b, 2, none⟩ = some x2 := (World.cell?_setCell_other _ _ _ _ (by intro e; cases e)).trans m2
  refine ⟨?_, ?_, ?_⟩
  all_goals rw [al _ _ _ (by simpa using Nat.lt_succ_of_lt hb), al _ _ _ (by simpa using hb)]
  · rw [World.cell?_setCell_other _ _ _ _ (by intro e; cases e), World.cell?_setCell_other _ _ _ _ (by intro e; cases e)]
    exact World.cell?_setCell_same _ _ _ q0
  · rw [World.cell?_setCell_other _ _ _ _ (by intro e; cases e)]
    exact World.cell?_setCell_same _ _ _ ((World.cell?_setCell_other _ _ _ _ (by intro e; cases e)).trans q1)
  · exact World.cell?_setCell_same _ _ _ ((World.cell?_setCell_other _ _ _ _ (by intro e; cases e)).trans ((World.cell?_setCell_other _ _ _ _ (by intro e; cases e)).trans q2))
theorem TK.drew (w : World) (p n : Nat) : TK w p (w.drewN n) := ⟨⟨rfl, rfl, rfl, Nat.le_refl _, fun _ _ => rfl⟩, fun _ _ _ => rfl, fun _ _ => rfl, fun _ => rfl⟩
theorem TK.new {w w1 : World} {p : Nat} {o : Obj} (h : TK (w.alloc o) p w1) (hp : p < w.heap.size) : TK w p w1 ∧ w1.heap[w.heap.size]? = (w.alloc o).heap[w.heap.size]? :=
  ⟨((TK.refl w p).alloc hp o).trans h, h.blk _ (by simp) (by omega)⟩

set_option maxHeartbeats 2000000 in
theorem pitch_any (p k : Nat) (s : ByteArray) (w : World) (hR : Rt w p s k) (hk : k ≤ s.size) (hs : s.size ≤ 65536) (hIA : IA (s.extract (M.skp s k) s.size)) :
    Calls Tryz.prog 94 #[.pointer (some ⟨p, 0, none⟩)] w fun x w' => ((P.M.rd (M.wt s k)).2.2.2.1 = 0 → x = .returned (.agg #[.int .i64 (P.M.rd (M.wt s k)).1, .int .i64 (P.M.rd (M.wt s k)).2.1, .int .i64 (P.M.rd (M.wt s k)).2.2.1]) ∧ Rt w' p s (M.wn s k) ∧ TK w p w') ∧ ((P.M.rd (M.wt s k)).2.2.2.1 ≠ 0 → x = thr (P.M.rd (M.wt s k)).2.2.2.1 ((M.skp s k : Nat) + (P.M.rd (M.wt s k)).2.2.2.2) ∧ TK w p w') := by
  have HW := fun W (h : Rt W p s k) => word_any p k s W h hk hs hIA
  have hz := M.wt_size hk
  have hwt : M.wt s k = s.extract (M.skp s k) (M.wd s (M.skp s k)) := rfl
  rw [← hwt] at HW
  clear hwt
  generalize M.wt s k = t at *
  generalize M.wn s k = d at *
  generalize M.skp s k = j at *
  have HN := fun W => P.Read_any t W (by omega)
  have hat := rd_at t
  obtain ⟨⟨L, A, O, E, T⟩, hr⟩ : ∃ r, P.M.rd t = r := ⟨_, rfl⟩
  rw [hr] at HN hat ⊢
  dsimp only at hat ⊢
  have HN2 : ∀ W, Calls Tryz.prog 115 #[.string t] W fun e w' => e = .returned (.tuple #[.agg #[.int .i64 L, .int .i64 A, .int .i64 O], .agg #[.int .i64 E, .int .i64 T]]) ∧ Below W.heap.size W w' := HN
  clear HN hr
  have w5 : (j : Int) + ((d - j : Nat) : Int) = (d : Int) := by omega
  by_cases hE : E = 0
  · subst hE
    go_enter Tryz.func94, Tryz.ntmps94
    go_wp2_with fail
    refine (HW _ (hR.alloc _)).mono ?_
    rintro e w1 ⟨rfl, h1, t1⟩
    have tn := t1.new hR.lt
    have HT : Hid (TK w p w1) := tn.1
    have n0 : w1.cell? ⟨w.heap.size, 0, none⟩ = some (.int .i64 0) := (G.cell_of tn.2).trans (by simp [go_sem])
    have n1 : w1.cell? ⟨w.heap.size, 1, none⟩ = some (.int .i64 0) := (G.cell_of tn.2).trans (by simp [go_sem])
    have n2 : w1.cell? ⟨w.heap.size, 2, none⟩ = some (.int .i64 0) := (G.cell_of tn.2).trans (by simp [go_sem])
    have g0 : w1.frozen? ⟨w.heap.size, 0, none⟩ = false := (G.frozen_of tn.2).trans (by simp [go_sem])
    have g1 : w1.frozen? ⟨w.heap.size, 1, none⟩ = false := (G.frozen_of tn.2).trans (by simp [go_sem])
    have g2 : w1.frozen? ⟨w.heap.size, 2, none⟩ = false := (G.frozen_of tn.2).trans (by simp [go_sem])
    have zl : w.heap.size < w1.heap.size := Nat.lt_of_lt_of_le (by simp) t1.bel.size
    have hpw := hR.lt
    clear tn
    have HR : Hid (Rt w1 p s j) := h1
    clear t1 h1
    go_wp2_with fail
    refine (HN2 _).mono ?_
    rintro e w2 ⟨rfl, hb2⟩
    have HR2 : Hid (Rt w2 p s j) := HR.out.step hb2
    have HT2 : Hid (TK w p w2) := HT.out.trans (TK.below hb2 HR.out.lt)
    have m0 := keepC hb2 zl n0
    have m1 := keepC hb2 zl n1
    have m2 := keepC hb2 zl n2
    have z2 : w.heap.size < w2.heap.size := Nat.lt_of_lt_of_le zl hb2.size
    have gg0 : w2.frozen? ⟨w.heap.size, 0, none⟩ = false := keepF hb2 zl g0
    have gg1 : w2.frozen? ⟨w.heap.size, 1, none⟩ = false := keepF hb2 zl g1
    have gg2 : w2.frozen? ⟨w.heap.size, 2, none⟩ = false := keepF hb2 zl g2
    have nep : w.heap.size ≠ p := by omega
    have nep' : p ≠ w.heap.size := by omega
    clear hb2 HT HR n0 n1 n2 g0 g1 g2 zl
    have c1 := HR2.out.c1
    have f1 := HR2.out.f1
    have lt := HR2.out.lt
    go_wp2_with fail
    try rw [w5]
    have R := put3 (d := .int .i64 (d : Int)) (L := .int .i64 L) (A := .int .i64 A) (O := .int .i64 O) (.cells #[.int .i64 L, .int .i64 A, .int .i64 O] 41) (.cells #[.int .i64 0, .int .i64 T] 47) m0 m1 m2 z2 nep
    refine bodyPost_ret (v := .agg #[.int .i64 L, .int .i64 A, .int .i64 O]) (by simp [results, Tryz.results94, go_sem, R.1, R.2.1, R.2.2]) rfl ⟨fun _ => ⟨rfl, ?_, ?_⟩, fun h => absurd rfl h⟩
    · exact (((((HR2.out.set d).put nep).put nep).put nep).alloc _).alloc _
    · exact (((((HT2.out.trans (TK.set _ _ _)).put hpw (Nat.le_refl _)).put hpw (Nat.le_refl _)).put hpw (Nat.le_refl _)).alloc hpw _).alloc hpw _
  · have HE : Hid (E ≠ 0) := hE
    have w6 : IntKind.i64.wrap ((j : Int) + T) = (j : Int) + T := wid (by omega) (by omega)
    go_enter Tryz.func94, Tryz.ntmps94
    go_wp2_with fail
    refine (HW _ (hR.alloc _)).mono ?_
    rintro e w1 ⟨rfl, h1, t1⟩
    have tn := t1.new hR.lt
    have HT : Hid (TK w p w1) := tn.1
    have n0 : w1.cell? ⟨w.heap.size, 0, none⟩ = some (.int .i64 0) := (G.cell_of tn.2).trans (by simp [go_sem])
    have n1 : w1.cell? ⟨w.heap.size, 1, none⟩ = some (.int .i64 0) := (G.cell_of tn.2).trans (by simp [go_sem])
    have n2 : w1.cell? ⟨w.heap.size, 2, none⟩ = some (.int .i64 0) := (G.cell_of tn.2).trans (by simp [go_sem])
    have g0 : w1.frozen? ⟨w.heap.size, 0, none⟩ = false := (G.frozen_of tn.2).trans (by simp [go_sem])
    have g1 : w1.frozen? ⟨w.heap.size, 1, none⟩ = false := (G.frozen_of tn.2).trans (by simp [go_sem])
    have g2 : w1.frozen? ⟨w.heap.size, 2, none⟩ = false := (G.frozen_of tn.2).trans (by simp [go_sem])
    have zl : w.heap.size < w1.heap.size := Nat.lt_of_lt_of_le (by simp) t1.bel.size
    have hpw := hR.lt
    clear tn
    have HR : Hid (Rt w1 p s j) := h1
    clear t1 h1
    go_wp2_with fail
    refine (HN2 _).mono ?_
    rintro e w2 ⟨rfl, hb2⟩
    have HR2 : Hid (Rt w2 p s j) := HR.out.step hb2
    have HT2 : Hid (TK w p w2) := HT.out.trans (TK.below hb2 HR.out.lt)
    have m0 := keepC hb2 zl n0
    have m1 := keepC hb2 zl n1
    have m2 := keepC hb2 zl n2
    have z2 : w.heap.size < w2.heap.size := Nat.lt_of_lt_of_le zl hb2.size
    have gg0 : w2.frozen? ⟨w.heap.size, 0, none⟩ = false := keepF hb2 zl g0
    have gg1 : w2.frozen? ⟨w.heap.size, 1, none⟩ = false := keepF hb2 zl g1
    have gg2 : w2.frozen? ⟨w.heap.size, 2, none⟩ = false := keepF hb2 zl g2
    have nep : w.heap.size ≠ p := by omega
    have nep' : p ≠ w.heap.size := by omega
    clear hb2 HT HR n0 n1 n2 g0 g1 g2 zl
    have c1 := HR2.out.c1
    have f1 := HR2.out.f1
    have lt := HR2.out.lt
    go_wp2_with fail
    refine U2.wp_region_tail_read 13 (by decide) (by kernel_rfl) (by kernel_rfl) (by kernel_rfl) (by kernel_rfl) ?_
    dsimp only [List.take, List.drop]
    repeat (go_big_quiet_step (fail))
    refine wpQuiet_nil ?_
    rintro w3 ⟨nq, rfl⟩
    go_wp2_with fail
    refine (failAt_any p ((j : Int) + T) E _).mono ?_
    rintro x w' ⟨rfl, rfl⟩
    exact ⟨rfl, fun h => absurd h HE.out, fun _ => ⟨rfl, ((HT2.out.alloc hpw _).alloc hpw _).trans (TK.drew _ _ _)⟩⟩
end Go.Proofs.YtaohahahhjkcdaeGreatDoor.J

/- What the program's thing comes to where it is one pitch. -/
namespace Go.Proofs.YtaohahahhjkcdaeGreatDoor.J
open Go.RowKit
set_option linter.unusedVariables false
set_option linter.unusedSimpArgs false

/-- A walk stops ahead of a region's last operation. -/
theorem stop1 {P : Program} {ops : Array Oper} {Q : Exit → Act → World → Prop} {o : Oper} {a : Act} {w : World} (h : Hid (wpList P ops Q [o] a w)) : wpList P ops Q [o] a w := h
theorem put7o {W : World} {h b i : Nat} {v0 v1 v2 v3 v4 v5 v6 : Value} (hb : h < b) :
    (((((((W.setCell ⟨h, 0, none⟩ v0).setCell ⟨h, 1, none⟩ v1).setCell ⟨h, 2, none⟩ v2).setCell ⟨h, 3, none⟩ v3).setCell ⟨h, 4, none⟩ v4).setCell ⟨h, 5, none⟩ v5).setCell ⟨h, 6, none⟩ v6).cell? ⟨b, i, none⟩ = W.cell? ⟨b, i, none⟩ := by
  have ne : ∀ j, (⟨h, j, none⟩ : Addr) ≠ ⟨b, i, none⟩ := fun j e => by injection e; omega
  rw [World.cell?_setCell_other _ _ _ _ (ne _), World.cell?_setCell_other _ _ _ _ (ne _), World.cell?_setCell_other _ _ _ _ (ne _), World.cell?_setCell_other _ _ _ _ (ne _), World.cell?_setCell_other _ _ _ _ (ne _), World.cell?_setCell_other _ _ _ _ (ne _), World.cell?_setCell_other _ _ _ _ (ne _)]
theorem TK.size {w w' : World} {p : Nat} (h : TK w p w') : w.heap.size ≤ w'.heap.size := h.bel.size
theorem M.sb_bl (s : ByteArray) : ∀ (c k : Nat), s.size ≤ k + c → M.bl s (M.sb s c k) = false
  | 0, k, h => by
    rw [M.sb]
    cases hb : M.bl s k
    · rfl
    · have := M.bl_lt hb; omega
  | c + 1, k, h => by
    rw [M.sb]
    by_cases hb : M.bl s k = true
    · rw [if_pos hb]; exact M.sb_bl s c (k + 1) (by omega)
    · rw [if_neg hb]; cases hq : M.bl s k
      · rfl
      · exact absurd hq hb
theorem M.skp_skp (s : ByteArray) (k : Nat) : M.skp s (M.skp s k) = M.skp s k := M.skp_off (M.sb_bl s _ k (by omega))
theorem M.wt_skp (s : ByteArray) (k : Nat) : M.wt s (M.skp s k) = M.wt s k := by unfold M.wt; rw [M.skp_skp]
theorem M.wn_skp (s : ByteArray) (k : Nat) : M.wn s (M.skp s k) = M.wn s k := by unfold M.wn; rw [M.skp_skp]

set_option maxHeartbeats 2000000 in
theorem thing_note (p k : Nat) (s : ByteArray) (lv : Int) (w : World) (hR : Rt w p s k) (hk : k ≤ s.size) (hs : s.size ≤ 65536) (hIA : IA (s.extract (M.skp s k) s.size)) (k0 : (M.wt s k).toList.isEmpty = false) (k1 : ((M.wt s k).toList == [45]) = false) (k2 : ((M.wt s k).toList == [117, 112]) = false) (hE : (P.M.rd (M.wt s k)).2.2.2.1 = 0) :
    Calls Tryz.prog 75 #[.pointer (some ⟨p, 0, none⟩), .int .i64 lv] w fun x w' => (∃ b, w.heap.size ≤ b ∧ x = .returned (.agg #[.int .i64 1, .int .i64 0, .slice (some ⟨b, 0, none⟩) 1 1, .int .i64 0, .int .i64 0, .string ⟨#[]⟩, .slice none 0 0]) ∧ w'.cell? ⟨b, 0, none⟩ = some (.int .i64 (P.M.rd (M.wt s k)).1) ∧ w'.cell? ⟨b, 1, none⟩ = some (.int .i64 (P.M.rd (M.wt s k)).2.1) ∧ w'.cell? ⟨b, 2, none⟩ = some (.int .i64 (P.M.rd (M.wt s k)).2.2.1)) ∧ Rt w' p s (M.wn s k) ∧ TK w p w' := by
  have hle := M.skp_le hk
  have HW := fun W (h : Rt W p s k) => word_any p k s W h hk hs hIA
  have HP := fun W (h : Rt W p s (M.skp s k)) => pitch_any p (M.skp s k) s W h hle.2 hs (by rw [M.skp_skp]; exact hIA)
  rw [M.wt_skp, M.wn_skp, M.skp_skp] at HP
  have hwt : M.wt s k = s.extract (M.skp s k) (M.wd s (M.skp s k)) := rfl
  rw [← hwt] at HW
  clear hwt
  obtain ⟨⟨L, A, O, E, T⟩, hr⟩ : ∃ r, P.M.rd (M.wt s k) = r := ⟨_, rfl⟩
  rw [hr] at HP hE ⊢
  dsimp only at HP hE ⊢
  subst hE
  generalize M.wt s k = t at *
  generalize M.wn s k = d at *
  generalize M.skp s k = j at *
  have HP2 : ∀ W, Rt W p s j → Calls Tryz.prog 94 #[.pointer (some ⟨p, 0, none⟩)] W fun x w' => x = .returned (.agg #[.int .i64 L, .int .i64 A, .int .i64 O]) ∧ Rt w' p s d ∧ TK W p w' := fun W h => (HP W h).mono fun x w' h => h.1 rfl
  clear HP hr hIA
  go_enter Tryz.func75, Tryz.ntmps75
  go_wp2_with fail
  refine (HW _ (hR.alloc _)).mono ?_
  rintro e w1 ⟨rfl, h1, t1⟩
  have tn := t1.new hR.lt
  have HT : Hid (TK w p w1) := tn.1
  have HB : Hid (w1.heap[w.heap.size]? = _) := tn.2
  have zl : w.heap.size < w1.heap.size := Nat.lt_of_lt_of_le (by simp) t1.bel.size
  have hpw := hR.lt
  have HR : Hid (Rt w1 p s j) := h1
  clear tn t1 h1
  go_wp2_with fail
  refine (HP2 _ HR.out).mono ?_
  rintro e w2 ⟨rfl, h2, t2⟩
  have hB2 := (t2.blk _ zl (by omega)).trans HB.out
  have m0 : w2.cell? ⟨w.heap.size, 0, none⟩ = some (.int .i64 0) := (G.cell_of hB2).trans (by simp [go_sem])
  have m1 : w2.cell? ⟨w.heap.size, 1, none⟩ = some (.int .i64 0) := (G.cell_of hB2).trans (by simp [go_sem])
  have m2 : w2.cell? ⟨w.heap.size, 2, none⟩ = some (.slice none 0 0) := (G.cell_of hB2).trans (by simp [go_sem])
  have m3 : w2.cell? ⟨w.heap.size, 3, none⟩ = some (.int .i64 0) := (G.cell_of hB2).trans (by simp [go_sem])
  have m4 : w2.cell? ⟨w.heap.size, 4, none⟩ = some (.int .i64 0) := (G.cell_of hB2).trans (by simp [go_sem])
  have m5 : w2.cell? ⟨w.heap.size, 5, none⟩ = some (.string ⟨#[]⟩) := (G.cell_of hB2).trans (by simp [go_sem])
  have m6 : w2.cell? ⟨w.heap.size, 6, none⟩ = some (.slice none 0 0) := (G.cell_of hB2).trans (by simp [go_sem])
  have gz : ∀ i, w2.frozen? ⟨w.heap.size, i, none⟩ = false := fun i => (G.frozen_of hB2).trans (by simp [go_sem])
  have gz0 := gz 0
  have gz1 := gz 1
  have gz2 := gz 2
  have gz3 := gz 3
  have gz4 := gz 4
  have gz5 := gz 5
  have gz6 := gz 6
  have z2 : w.heap.size < w2.heap.size := Nat.lt_of_lt_of_le zl t2.size
  have nep : w.heap.size ≠ p := by omega
  have HR2 : Hid (Rt w2 p s d) := h2
  have HT2 : Hid (TK w p w2) := HT.out.trans t2
  clear h2 t2 hB2 HB HT HR zl gz
  have HM : Hid (w2.cell? ⟨w.heap.size, 0, none⟩ = some (.int .i64 0) ∧ w2.cell? ⟨w.heap.size, 1, none⟩ = some (.int .i64 0) ∧ w2.cell? ⟨w.heap.size, 2, none⟩ = some (.slice none 0 0) ∧ w2.cell? ⟨w.heap.size, 3, none⟩ = some (.int .i64 0) ∧ w2.cell? ⟨w.heap.size, 4, none⟩ = some (.int .i64 0) ∧ w2.cell? ⟨w.heap.size, 5, none⟩ = some (.string ⟨#[]⟩) ∧ w2.cell? ⟨w.heap.size, 6, none⟩ = some (.slice none 0 0)) := ⟨m0, m1, m2, m3, m4, m5, m6⟩
  have HG : Hid (∀ i, i < 7 → w2.frozen? ⟨w.heap.size, i, none⟩ = false) := fun i hi => by
    rcases (show i = 0 ∨ i = 1 ∨ i = 2 ∨ i = 3 ∨ i = 4 ∨ i = 5 ∨ i = 6 by omega) with rfl | rfl | rfl | rfl | rfl | rfl | rfl <;> assumption
  clear m0 m1 m2 m3 m4 m5 m6 gz0 gz1 gz2 gz3 gz4 gz5 gz6
  go_wp2_with (with_reducible refine stop1 ?_)
  obtain ⟨W3, hW3⟩ : ∃ W, w2.alloc (Obj.cells #[.int .i64 L, .int .i64 A, .int .i64 O] 41) = W := ⟨_, rfl⟩
  rw [hW3]
  have hb3 : Below w2.heap.size w2 W3 := hW3 ▸ (Below.refl _ _).alloc (Nat.le_refl _) _
  have q0 : W3.cell? ⟨w2.heap.size, 0, none⟩ = some (.int .i64 L) := by rw [← hW3]; simp [go_sem]
  have q1 : W3.cell? ⟨w2.heap.size, 1, none⟩ = some (.int .i64 A) := by rw [← hW3]; simp [go_sem]
  have q2 : W3.cell? ⟨w2.heap.size, 2, none⟩ = some (.int .i64 O) := by rw [← hW3]; simp [go_sem]
  clear hW3
  obtain ⟨m0, m1, m2, m3, m4, m5, m6⟩ := HM.out
  have n0 := keepC hb3 z2 m0
  have n1 := keepC hb3 z2 m1
  have n2 := keepC hb3 z2 m2
  have n3 := keepC hb3 z2 m3
  have n4 := keepC hb3 z2 m4
  have n5 := keepC hb3 z2 m5
  have n6 := keepC hb3 z2 m6
  have g0 := keepF hb3 z2 (HG.out 0 (by decide))
  have g1 := keepF hb3 z2 (HG.out 1 (by decide))
  have g2 := keepF hb3 z2 (HG.out 2 (by decide))
  have g3 := keepF hb3 z2 (HG.out 3 (by decide))
  have g4 := keepF hb3 z2 (HG.out 4 (by decide))
  have g5 := keepF hb3 z2 (HG.out 5 (by decide))
  have g6 := keepF hb3 z2 (HG.out 6 (by decide))
  have HR3 : Hid (Rt W3 p s d) := HR2.out.step hb3
  have HT3 : Hid (TK w p W3) := HT2.out.trans (TK.below hb3 HR2.out.lt)
  have HQ : Hid (W3.cell? ⟨w2.heap.size, 0, none⟩ = some (.int .i64 L) ∧ W3.cell? ⟨w2.heap.size, 1, none⟩ = some (.int .i64 A) ∧ W3.cell? ⟨w2.heap.size, 2, none⟩ = some (.int .i64 O)) := ⟨q0, q1, q2⟩
  clear m0 m1 m2 m3 m4 m5 m6 q0 q1 q2 hb3 HM HG HR2 HT2
  unfold Hid
  go_wp2_with fail
  refine bodyPost_ret (v := .agg #[.int .i64 1, .int .i64 0, .slice (some ⟨w2.heap.size, 0, none⟩) 1 1, .int .i64 0, .int .i64 0, .string ⟨#[]⟩, .slice none 0 0]) (by simp [results, Tryz.results75, go_sem, n0, n1, n2, n3, n4, n5, n6]) rfl ⟨⟨w2.heap.size, by omega, rfl, ?_, ?_, ?_⟩, ?_, ?_⟩
  · exact (put7o z2).trans HQ.out.1
  · exact (put7o z2).trans HQ.out.2.1
  · exact (put7o z2).trans HQ.out.2.2
  · exact ((((((HR3.out.put nep).put nep).put nep).put nep).put nep).put nep).put nep
  · exact ((((((HT3.out.put hpw (Nat.le_refl _)).put hpw (Nat.le_refl _)).put hpw (Nat.le_refl _)).put hpw (Nat.le_refl _)).put hpw (Nat.le_refl _)).put hpw (Nat.le_refl _)).put hpw (Nat.le_refl _)
end Go.Proofs.YtaohahahhjkcdaeGreatDoor.J
