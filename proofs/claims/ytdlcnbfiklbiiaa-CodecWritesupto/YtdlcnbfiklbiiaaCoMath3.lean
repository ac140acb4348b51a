/- The codec in plain words: what is written is read; what is read is written in no more bits. -/
import Derived.Test.YtdlcnbfiklbiiaaCoMath2
namespace Go.Proofs.Ytdlcnbfiklbiiaa.Co
set_option linter.unusedVariables false
set_option linter.unusedSimpArgs false

theorem bn_app (a b j k : Nat) (hb : b < 2 ^ k) : bn (a * 2 ^ k + b) (j + k) = bn a j ++ bn b k := by
  induction j with
  | zero => rw [Nat.zero_add]; exact bn_add a b k
  | succ j ih =>
    rw [show j + 1 + k = (j + k) + 1 by omega]
    show ((a * 2 ^ k + b) / 2 ^ (j + k) % 2) :: bn _ (j + k) = (a / 2 ^ j % 2) :: (bn a j ++ bn b k)
    rw [ih, Nat.pow_add, Nat.mul_comm (2 ^ j), ← Nat.div_div_eq_div_mul, Nat.mul_comm a, Nat.mul_add_div (Nat.two_pow_pos k), Nat.div_eq_of_lt hb, Nat.add_zero]
/-- What is told of a frame from place i on. -/
def rest (f : List Int) (o k i : Nat) : List Nat := ((f.take o).drop i).flatMap sw ++ ((fal f o).drop (i - o)).flatMap fun m => fw m k
theorem fr_rest (f : List Int) (o k : Nat) (ho : o < 4) (hk : k < 16) : fr f o k = bn (16 * o + k) 6 ++ rest f o k 0 := by
  have h := bn_app o k 2 4 hk
  rw [show o * 2 ^ 4 + k = 16 * o + k by omega] at h
  unfold fr rest
  rw [show 6 = 2 + 4 from rfl, h]
  simp
theorem rest_end (f : List Int) (o k i : Nat) (h : f.length ≤ i) : rest f o k i = [] := by
  unfold rest fal
  rw [List.drop_of_length_le (by rw [List.length_take]; omega), List.drop_of_length_le (by rw [fa_len]; omega)]; rfl
theorem rest_lo (f : List Int) (o k i : Nat) (x : Int) (h : i < o) (hx : f[i]? = some x) : rest f o k i = sw x ++ rest f o k (i + 1) := by
  have hi : i < f.length := (List.getElem?_eq_some_iff.1 hx).1
  unfold rest
  have e : (f.take o).drop i = x :: (f.take o).drop (i + 1) := by
    rw [List.drop_eq_getElem_cons (by rw [List.length_take]; omega)]
    congr 1
    have h2 : (f.take o)[i]? = some x := by rw [List.getElem?_take_of_lt h, hx]
    rw [List.getElem?_eq_getElem (by rw [List.length_take]; omega)] at h2
    exact Option.some.inj h2
  rw [e, List.flatMap_cons, show i - o = 0 by omega, show i + 1 - o = 0 by omega, List.append_assoc]
theorem rest_hi (f : List Int) (o k i : Nat) (x : Int) (h : o ≤ i) (hx : f[i]? = some x) : rest f o k i = fw (fo (x - ge f i o)) k ++ rest f o k (i + 1) := by
  have hi : i < f.length := (List.getElem?_eq_some_iff.1 hx).1
  unfold rest
  have e0 : (f.take o).drop i = [] := List.drop_of_length_le (by rw [List.length_take]; omega)
  have e1 : (f.take o).drop (i + 1) = [] := List.drop_of_length_le (by rw [List.length_take]; omega)
  rw [e0, e1]
  have e : (fal f o).drop (i - o) = fo (x - ge f i o) :: (fal f o).drop (i + 1 - o) := by
    have hl : i - o < (fal f o).length := by unfold fal; rw [fa_len]; omega
    rw [List.drop_eq_getElem_cons hl, show i - o + 1 = i + 1 - o by omega]
    congr 1
    have h2 : (fal f o)[i - o]? = some (fo (x - ge f i o)) := by
      unfold fal fa
      rw [List.getElem?_map, List.getElem?_range (by omega)]
      simp only [Option.map_some]
      rw [show o + (i - o) = i by omega, List.getD_eq_getElem?_getD, hx]; rfl
    rw [List.getElem?_eq_getElem hl] at h2
    exact Option.some.inj h2
  rw [e, List.flatMap_cons]; rfl
theorem ge_pre (out p q : List Int) (o : Nat) (ho : o ≤ p.length) : ge (out ++ p) (out ++ p).length o = ge (p ++ q) p.length o := by
  have g : ∀ j, 0 < j → j ≤ p.length → (out ++ p).getD ((out ++ p).length - j) 0 = (p ++ q).getD (p.length - j) 0 := fun j hj hj2 => by
    rw [List.getD_eq_getElem?_getD, List.getD_eq_getElem?_getD, List.length_append, List.getElem?_append_right (by omega), List.getElem?_append_left (by omega)]
    rw [show out.length + p.length - j - out.length = p.length - j by omega]
  unfold ge
  by_cases c1 : o = 1
  · rw [if_pos c1, if_pos c1, g 1 (by omega) (by omega)]
  · rw [if_neg c1, if_neg c1]
    by_cases c2 : o = 2
    · rw [if_pos c2, if_pos c2, g 1 (by omega) (by omega), g 2 (by omega) (by omega)]
    · rw [if_neg c2, if_neg c2]
      by_cases c3 : o = 3
      · rw [if_pos c3, if_pos c3, g 1 (by omega) (by omega), g 2 (by omega) (by omega), g 3 (by omega) (by omega)]
      · rw [if_neg c3, if_neg c3]
theorem rs_eq {o k n i : Nat} {out : List Int} {r : List Nat} : rs o k (n + 1) out i r = if (r1 o k out i r).1 = true then rs o k n (out ++ [(r1 o k out i r).2.1]) (i + 1) (r1 o k out i r).2.2 else none := rfl
theorem gcap (m k : Nat) (hm : m < 524288) (hk : k ≤ 15) : m / 2 ^ k < 524288 / 2 ^ k := by
  have h1 : (524288 : Nat) = 2 ^ k * 2 ^ (19 - k) := by rw [← Nat.pow_add, show k + (19 - k) = 19 by omega]
  have h2 : 524288 / 2 ^ k = 2 ^ (19 - k) := by
    rw [show (524288 : Nat) / 2 ^ k = (2 ^ k * 2 ^ (19 - k)) / 2 ^ k from by rw [← h1]]
    exact Nat.mul_div_cancel_left _ (Nat.two_pow_pos k)
  rw [h2]
  exact Nat.div_lt_of_lt_mul (by rw [← h1]; exact hm)
/-- One sample is read as it was written. -/
theorem r1_rest (o k : Nat) (out p q : List Int) (x : Int) (r : List Nat) (ho : o < 4) (hk : k < 16) (hr : ∀ y ∈ p ++ x :: q, inR y) :
    r1 o k (out ++ p) p.length (rest (p ++ x :: q) o k p.length ++ r) = (true, x, rest (p ++ x :: q) o k (p.length + 1) ++ r) := by
  have hx : (p ++ x :: q)[p.length]? = some x := by rw [List.getElem?_append_right (Nat.le_refl _)]; simp
  have hxr := hr x (by simp)
  have h1 := hxr.1
  have h2 := hxr.2
  by_cases c : p.length < o
  · rw [rest_lo _ o k _ x c hx, List.append_assoc]
    unfold r1
    rw [if_pos c]
    unfold sw
    rw [rn_bn 16 _ _ (by omega)]
    simp only [Prod.mk.injEq, true_and, and_true]
    omega
  · rw [rest_hi _ o k _ x (by omega) hx, List.append_assoc]
    unfold r1
    rw [if_neg c, ge_pre out p (x :: q) o (by omega)]
    have hm : fo (x - ge (p ++ x :: q) p.length o) < 524288 := by
      have hg := ge_in _ hr p.length o
      exact fo_lt _ 262144 (by omega) (by omega)
    rw [rf_fw' k _ _ _ (gcap _ k hm (by omega))]
    simp only [un_fo]
    rw [show ge (p ++ x :: q) p.length o + (x - ge (p ++ x :: q) p.length o) = x by omega, (sok_iff x).2 hxr]
    rfl
theorem rs_rest (o k : Nat) (out q : List Int) (r : List Nat) (ho : o < 4) (hk : k < 16) : ∀ p : List Int, (∀ y ∈ p ++ q, inR y) → rs o k q.length (out ++ p) p.length (rest (p ++ q) o k p.length ++ r) = some (out ++ (p ++ q), r) := by
  induction q with
  | nil => intro p hr; rw [List.append_nil, rest_end _ _ _ _ (Nat.le_refl _)]; rfl
  | cons x q ih =>
    intro p hr
    rw [List.length_cons, rs_eq, r1_rest o k out p q x r ho hk hr]
    simp only [if_true]
    have e : p ++ x :: q = (p ++ [x]) ++ q := by simp
    have h := ih (p ++ [x]) (by rw [← e]; exact hr)
    rw [← e, List.length_append, List.length_singleton, ← List.append_assoc] at h
    exact h
theorem rr_fr (out f : List Int) (o k : Nat) (r : List Nat) (ho : o < 4) (hk : k < 16) (hr : ∀ y ∈ f, inR y) : rr out f.length (fr f o k ++ r) = some (out ++ f, r) := by
  have h := rs_rest o k out f r ho hk [] hr
  simp only [List.append_nil, List.nil_append, List.length_nil] at h
  unfold rr
  rw [fr_rest f o k ho hk, List.append_assoc, rn_bn 6 _ _ (by omega)]
  show (if true = true then rs ((16 * o + k) / 16) ((16 * o + k) % 16) f.length out 0 (rest f o k 0 ++ r) else none) = _
  rw [if_pos rfl, show (16 * o + k) / 16 = o by omega, show (16 * o + k) % 16 = k by omega]
  exact h
/-- Frames from the j-th on. -/
def fzf (l : List Int) (j m : Nat) : List Nat := (List.range m).flatMap fun i => fx (ch l (j + i))
theorem fzf_zero (l : List Int) (n : Nat) : fzf l 0 n = fz l n := by unfold fzf fz; simp only [Nat.zero_add]
theorem fzf_succ (l : List Int) (j m : Nat) : fzf l j (m + 1) = fx (ch l j) ++ fzf l (j + 1) m := by
  unfold fzf
  have e : (fun i => fx (ch l (j + Nat.succ i))) = fun i => fx (ch l (j + 1 + i)) := funext fun i => by rw [show j + Nat.succ i = j + 1 + i by omega]
  rw [List.range_succ_eq_map, List.flatMap_cons, List.flatMap_map, Nat.add_zero, e]
theorem take_ch (l : List Int) (j : Nat) : l.take (256 * j) ++ ch l j = l.take (256 * (j + 1)) := by
  unfold ch
  rw [show 256 * (j + 1) = 256 * j + 256 by omega, List.take_add]
theorem ch_in' (l : List Int) (hr : ∀ x ∈ l, inR x) (j : Nat) : ∀ x ∈ ch l j, inR x := fun x hx => hr x (List.mem_of_mem_drop (List.mem_of_mem_take hx))
theorem ra_eq {many g : Nat} {out : List Int} {r : List Nat} : ra many (g + 1) out r = if out.length < many then (match rr out (min (many - out.length) 256) r with | some (out', r') => ra many g out' r' | none => none) else some (out, r) := rfl
theorem ra_fz (l : List Int) (z : List Nat) (hr : ∀ x ∈ l, inR x) : ∀ m j g, j + m = nf l → m < g → ra l.length g (l.take (256 * j)) (fzf l j m ++ z) = some (l, z) := by
  intro m
  induction m with
  | zero =>
    intro j g hj hg
    obtain ⟨g, rfl⟩ : ∃ g', g = g' + 1 := ⟨g - 1, by omega⟩
    have hn : l.length ≤ 256 * j := by unfold nf at hj; omega
    rw [ra_eq, List.take_of_length_le hn, if_neg (by omega)]
    rfl
  | succ m ih =>
    intro j g hj hg
    obtain ⟨g, rfl⟩ : ∃ g', g = g' + 1 := ⟨g - 1, by omega⟩
    have hn : 256 * j < l.length := by unfold nf at hj; omega
    have hlt : (l.take (256 * j)).length = 256 * j := by rw [List.length_take]; omega
    have hcl : (ch l j).length = min (l.length - 256 * j) 256 := by unfold ch; rw [List.length_take, List.length_drop]; omega
    rw [ra_eq, hlt, if_pos hn, fzf_succ, List.append_assoc, ← hcl]
    have ok := be_ok (ch l j)
    have h := rr_fr (l.take (256 * j)) (ch l j) (be (ch l j)).1 (be (ch l j)).2 (fzf l (j + 1) m ++ z) ok.1 ok.2 (ch_in' l hr j)
    rw [show fx (ch l j) = fr (ch l j) (be (ch l j)).1 (be (ch l j)).2 from rfl, h, take_ch]
    exact ih (j + 1) g (by omega) (by omega)
/-- Soundness: a frame that is read is one that was written. -/
theorem rs_sound (o k : Nat) (out : List Int) (ho : o < 4) (hk : k < 16) : ∀ (n : Nat) (p : List Int) (r r' : List Nat) (out' : List Int), bits2 r → rs o k n (out ++ p) p.length r = some (out', r') → ∃ q, q.length = n ∧ out' = out ++ (p ++ q) ∧ r = rest (p ++ q) o k p.length ++ r' := by
  intro n
  induction n with
  | zero =>
    intro p r r' out' hb h
    cases h
    exact ⟨[], rfl, by simp, by rw [List.append_nil, rest_end _ _ _ _ (Nat.le_refl _)]; rfl⟩
  | succ n ih =>
    intro p r r' out' hb h
    rw [rs_eq] at h
    by_cases c : (r1 o k (out ++ p) p.length r).1 = true
    · rw [if_pos c] at h
      obtain ⟨x, hx⟩ : ∃ x, x = (r1 o k (out ++ p) p.length r).2.1 := ⟨_, rfl⟩
      obtain ⟨r2, hr2⟩ : ∃ r2, r2 = (r1 o k (out ++ p) p.length r).2.2 := ⟨_, rfl⟩
      rw [← hx, ← hr2] at h
      by_cases d : p.length < o
      · have e : r1 o k (out ++ p) p.length r = ((rn 16 r).1, ((rn 16 r).2.1 : Int) - 32768, (rn 16 r).2.2) := by unfold r1; exact if_pos d
        rw [e] at c hx hr2
        have hs := rn_sound (n := 16) (x := (rn 16 r).2.1) (r' := r2) hb (by rw [hr2]; simp only at c ⊢; rw [← c])
        have h3 := ih (p ++ [x]) r2 r' out' hs.2.2 (by rw [List.length_append, List.length_singleton, ← List.append_assoc]; exact h)
        obtain ⟨q, q1, q2, q3⟩ := h3
        refine ⟨x :: q, by rw [List.length_cons, q1], by rw [q2]; simp, ?_⟩
        have e2 : p ++ x :: q = (p ++ [x]) ++ q := by simp
        have hx2 : (p ++ x :: q)[p.length]? = some x := by rw [List.getElem?_append_right (Nat.le_refl _)]; simp
        rw [rest_lo _ o k _ x d hx2, List.append_assoc, e2]
        rw [List.length_append, List.length_singleton] at q3
        rw [← q3, hs.1]
        congr 1
        unfold sw
        rw [hx]
        simp only
        congr 1
        omega
      · have e : r1 o k (out ++ p) p.length r = ((rf k (524288 / 2 ^ k) 0 r).1 && sok (ge (out ++ p) (out ++ p).length o + un (rf k (524288 / 2 ^ k) 0 r).2.1), ge (out ++ p) (out ++ p).length o + un (rf k (524288 / 2 ^ k) 0 r).2.1, (rf k (524288 / 2 ^ k) 0 r).2.2) := by unfold r1; exact if_neg d
        rw [e] at c hx hr2
        simp only [Bool.and_eq_true] at c
        have hs := rf_sound' (k := k) (g := 524288 / 2 ^ k) (m := (rf k (524288 / 2 ^ k) 0 r).2.1) (r' := r2) hb (by rw [hr2, ← c.1])
        have h3 := ih (p ++ [x]) r2 r' out' hs.2 (by rw [List.length_append, List.length_singleton, ← List.append_assoc]; exact h)
        obtain ⟨q, q1, q2, q3⟩ := h3
        refine ⟨x :: q, by rw [List.length_cons, q1], by rw [q2]; simp, ?_⟩
        have e2 : p ++ x :: q = (p ++ [x]) ++ q := by simp
        have hx2 : (p ++ x :: q)[p.length]? = some x := by rw [List.getElem?_append_right (Nat.le_refl _)]; simp
        rw [rest_hi _ o k _ x (by omega) hx2, List.append_assoc]
        have e3 : fo (x - ge (p ++ x :: q) p.length o) = (rf k (524288 / 2 ^ k) 0 r).2.1 := by
          have hx3 : x = ge (p ++ x :: q) p.length o + un (rf k (524288 / 2 ^ k) 0 r).2.1 := by
            have h7 : x = ge (out ++ p) (out ++ p).length o + un (rf k (524288 / 2 ^ k) 0 r).2.1 := hx
            rw [ge_pre out p (x :: q) o (by omega)] at h7
            exact h7
          rw [show x - ge (p ++ x :: q) p.length o = un (rf k (524288 / 2 ^ k) 0 r).2.1 by omega, fo_un]
        rw [e3, e2]
        rw [List.length_append, List.length_singleton] at q3
        rw [← q3, ← hs.1]
    · rw [if_neg c] at h; cases h
theorem rr_sound {n : Nat} {out out' : List Int} {r r' : List Nat} (hb : bits2 r) (h : rr out n r = some (out', r')) : ∃ f o k, f.length = n ∧ o < 4 ∧ k < 16 ∧ out' = out ++ f ∧ r = fr f o k ++ r' := by
  unfold rr at h
  by_cases c : (rn 6 r).1 = true
  · rw [if_pos c] at h
    obtain ⟨X, hX⟩ : ∃ X, X = (rn 6 r).2.1 := ⟨_, rfl⟩
    obtain ⟨r2, hr2⟩ : ∃ r2, r2 = (rn 6 r).2.2 := ⟨_, rfl⟩
    rw [← hX, ← hr2] at h
    have hs := rn_sound (n := 6) (x := X) (r' := r2) hb (by rw [hX, hr2, ← c])
    have hX6 : X < 64 := hs.2.1
    have h2 := rs_sound (X / 16) (X % 16) out (by omega) (by omega) n [] r2 r' out' hs.2.2 (by simpa using h)
    obtain ⟨q, q1, q2, q3⟩ := h2
    simp only [List.nil_append, List.length_nil] at q2 q3
    refine ⟨q, X / 16, X % 16, q1, by omega, by omega, q2, ?_⟩
    rw [fr_rest q _ _ (by omega) (by omega), List.append_assoc, ← q3, show 16 * (X / 16) + X % 16 = X by omega]
    exact hs.1
  · rw [if_neg c] at h; cases h
theorem ra_sound (many : Nat) : ∀ (g j : Nat) (out : List Int) (r r' : List Nat) (out' : List Int), bits2 r → out.length = min (256 * j) many → many < out.length + g → ra many g out r = some (out', r') →
    out'.length = many ∧ out = out'.take out.length ∧ (fzf out' j ((many + 255) / 256 - j)).length + r'.length ≤ r.length := by
  intro g
  induction g with
  | zero => intro j out r r' out' hb hl hg h; omega
  | succ g ih =>
    intro j out r r' out' hb hl hg h
    rw [ra_eq] at h
    by_cases c : out.length < many
    · rw [if_pos c] at h
      have hlj : out.length = 256 * j := by omega
      cases hR : rr out (min (many - out.length) 256) r with
      | none => rw [hR] at h; cases h
      | some q =>
        obtain ⟨o2, r2⟩ := q
        rw [hR] at h
        simp only at h
        obtain ⟨f, o, k, f1, ho, hk, f2, f3⟩ := rr_sound hb hR
        have hb2 : bits2 r2 := fun x hx => hb x (by rw [f3]; exact List.mem_append_right _ hx)
        have hl2 : o2.length = min (256 * (j + 1)) many := by rw [f2, List.length_append, f1]; omega
        have h3 := ih (j + 1) o2 r2 r' out' hb2 hl2 (by rw [f2, List.length_append, f1]; omega) h
        obtain ⟨g1, g2, g3⟩ := h3
        have hpre : out ++ f = out'.take (out.length + f.length) := by rw [← f2, ← List.length_append, ← f2]; exact g2
        refine ⟨g1, ?_, ?_⟩
        · have := congrArg (List.take out.length) hpre
          rw [List.take_left, List.take_take, Nat.min_eq_left (by omega)] at this
          exact this
        · have hchf : ch out' j = f := by
            have := congrArg (List.drop out.length) hpre
            rw [List.drop_left, List.drop_take, show out.length + f.length - out.length = f.length by omega, hlj] at this
            unfold ch
            rw [this]
            by_cases q : f.length = 256
            · rw [q]
            · have hfl : f.length = many - 256 * j := by omega
              rw [hfl]
              have h5 : (out'.drop (256 * j)).length = many - 256 * j := by rw [List.length_drop, g1]
              rw [List.take_of_length_le (by omega), List.take_of_length_le (by omega)]
          have hm : (many + 255) / 256 - j = ((many + 255) / 256 - (j + 1)) + 1 := by omega
          rw [hm, fzf_succ, List.length_append, hchf, f3, List.length_append]
          have e1 : (fx f).length = 6 + lg f (be f).1 (be f).2 := fr_len _ _ _
          have e2 := fr_len f o k
          have e3 := be_le f o k ho hk
          omega
    · rw [if_neg c] at h
      cases h
      refine ⟨by omega, by rw [List.take_of_length_le (Nat.le_refl _)], ?_⟩
      have : (many + 255) / 256 - j = 0 := by omega
      rw [this]
      simp [fzf]
end Go.Proofs.Ytdlcnbfiklbiiaa.Co
