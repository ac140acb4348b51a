/- What Encode writes is what Decode reads; what is read is written in no more bytes. -/
import Derived.Test.YtdlcnbfiklbiiaaCo8
import Derived.Test.YtdlcnbfiklbiiaaCo23
import Derived.Test.YtdlcnbfiklbiiaaCoMath3
namespace Go.Proofs.Ytdlcnbfiklbiiaa.Co
open Go.RowKit Go.Maps Go.Sort
set_option linter.unusedVariables false
set_option linter.unusedSimpArgs false

theorem tx_bt (l : List Nat) (h : ∀ x ∈ l, x < 256) : tx (bt l) = l := by
  unfold tx bt strOfNums
  refine List.ext_getElem? (fun i => ?_)
  simp
  cases e : l[i]? with
  | none => simp
  | some x =>
    have hx := h x (List.mem_of_getElem? e)
    simp
    omega
theorem bt_size (l : List Nat) : (bt l).size = l.length := by
  unfold bt strOfNums
  simp [ByteArray.size]
theorem b8_bit (l : List Nat) (h : bits2 l) (i : Nat) (hi : i < 8) : b8 l / 2 ^ (7 - i) % 2 = l.getD i 0 := by
  have g := getD_lt2 l h
  have g0 := g 0; have g1 := g 1; have g2 := g 2; have g3 := g 3; have g4 := g 4; have g5 := g 5; have g6 := g 6; have g7 := g 7
  unfold b8
  match i, hi with
  | 0, _ => simp only [show 2 ^ (7 - 0) = 128 from rfl]; omega
  | 1, _ => simp only [show 2 ^ (7 - 1) = 64 from rfl]; omega
  | 2, _ => simp only [show 2 ^ (7 - 2) = 32 from rfl]; omega
  | 3, _ => simp only [show 2 ^ (7 - 3) = 16 from rfl]; omega
  | 4, _ => simp only [show 2 ^ (7 - 4) = 8 from rfl]; omega
  | 5, _ => simp only [show 2 ^ (7 - 5) = 4 from rfl]; omega
  | 6, _ => simp only [show 2 ^ (7 - 6) = 2 from rfl]; omega
  | 7, _ => simp only [show 2 ^ (7 - 7) = 1 from rfl]; omega
/-- Noughts up to the byte's end. -/
def pad (l : List Nat) : List Nat := List.replicate (8 * ((l.length + 7) / 8) - l.length) 0
theorem u8_pk (l : List Nat) (h : bits2 l) : u8 (pk l) = l ++ pad l := by
  refine List.ext_getElem? (fun p => ?_)
  have hlen : (l ++ pad l).length = 8 * ((l.length + 7) / 8) := by unfold pad; rw [List.length_append, List.length_replicate]; omega
  by_cases c : p < 8 * ((l.length + 7) / 8)
  · rw [u8_get _ _ (by rw [pk_len]; exact c)]
    have e : (pk l).getD (p / 8) 0 = b8 (l.drop (8 * (p / 8))) := by
      rw [List.getD_eq_getElem?_getD, pk_get _ _ (by omega)]; rfl
    rw [e, b8_bit _ (h.drop _) _ (Nat.mod_lt _ (by omega)), List.getD_eq_getElem?_getD, List.getElem?_drop, show 8 * (p / 8) + p % 8 = p by omega]
    by_cases d : p < l.length
    · rw [List.getElem?_append_left d, List.getElem?_eq_getElem d]; rfl
    · rw [List.getElem?_append_right (by omega), List.getElem?_eq_none (show l.length ≤ p by omega)]
      unfold pad
      rw [List.getElem?_replicate, if_pos (by omega)]; rfl
  · rw [List.getElem?_eq_none (by rw [u8_len, pk_len]; omega), List.getElem?_eq_none (by rw [hlen]; omega)]
theorem bn_b2 (n k : Nat) : bits2 (bn n k) := bn_lt n k
theorem fw_b2 (m k : Nat) : bits2 (fw m k) := by
  intro x hx
  unfold fw at hx
  rcases List.mem_append.1 hx with h | h
  · rw [(List.mem_replicate.1 h).2]; decide
  · rcases List.mem_cons.1 h with h | h
    · rw [h]; decide
    · exact bn_lt m k x h
theorem fr_b2 (f : List Int) (o k : Nat) : bits2 (fr f o k) := by
  intro x hx
  unfold fr at hx
  rcases List.mem_append.1 hx with h | h
  · exact bn_lt _ _ x h
  rcases List.mem_append.1 h with h | h
  · exact bn_lt _ _ x h
  rcases List.mem_append.1 h with h | h
  · obtain ⟨y, _, hy⟩ := List.mem_flatMap.1 h
    exact bn_lt _ _ x hy
  · obtain ⟨y, _, hy⟩ := List.mem_flatMap.1 h
    exact fw_b2 _ _ x hy
theorem en_b2 (l : List Int) : bits2 (en l) := by
  intro x hx
  unfold en at hx
  rcases List.mem_append.1 hx with h | h
  · exact bn_lt _ _ x h
  · unfold fz at h
    obtain ⟨y, _, hy⟩ := List.mem_flatMap.1 h
    exact fr_b2 _ _ _ x hy
theorem va_nought (n : Nat) : va (List.replicate n 0) = 0 := by
  induction n with
  | zero => rfl
  | succ n ih => rw [List.replicate_succ, va_cons, ih]; simp
/-- What was written is read. -/
theorem dc_en (l : List Int) (hl : l.length ≤ 1048576) (hr : ∀ x ∈ l, inR x) : dc (tb (bt (pk (en l)))) = (l, 0) := by
  have e : tb (bt (pk (en l))) = en l ++ pad (en l) := by
    unfold tb
    rw [tx_bt _ (pk_lt _ (en_b2 l)), u8_pk _ (en_b2 l)]
  rw [e]
  have e1 : rn 24 (en l ++ pad (en l)) = (true, l.length, fz l (nf l) ++ pad (en l)) := by
    unfold en
    rw [List.append_assoc]
    exact rn_bn 24 _ _ (by omega)
  have e2 := ra_fz l (pad (en l)) hr (nf l) 0 (l.length + 1) (by omega) (by unfold nf; omega)
  rw [fzf_zero] at e2
  simp only [Nat.mul_zero, List.take_zero] at e2
  have e3 : en0 (pad (en l)) = true := by
    unfold en0 pad
    rw [va_nought, List.length_replicate]
    simp; omega
  unfold dc
  rw [e1]
  show (if true = true then (if 1048576 < l.length then ([], 5) else fin (ra l.length (l.length + 1) [] (fz l (nf l) ++ pad (en l)))) else ([], 2)) = _
  rw [if_pos rfl, if_neg (by omega), e2]
  show (if en0 (pad (en l)) = true then (l, (0 : Int)) else ([], 2)) = _
  rw [if_pos e3]
theorem ra_in (many : Nat) : ∀ (g : Nat) (out : List Int) (r r' : List Nat) (out' : List Int), bits2 r → (∀ x ∈ out, inR x) → ra many g out r = some (out', r') → ∀ x ∈ out', inR x := by
  intro g
  induction g with
  | zero => intro out r r' out' hb hi h; cases h; exact hi
  | succ g ih =>
    intro out r r' out' hb hi h
    rw [ra_step] at h
    by_cases c : out.length < many
    · rw [if_pos c] at h
      cases hR : rr out (min (many - out.length) 256) r with
      | none => rw [hR] at h; cases h
      | some q =>
        obtain ⟨o2, r2⟩ := q
        rw [hR] at h
        have hal := rr_all hb hi hR
        exact ih o2 r2 r' out' hal.2.2 hal.2.1 h
    · rw [if_neg c] at h; cases h; exact hi
/-- What is read is samples, and is written in no more bits. -/
theorem dc_back (s : ByteArray) (h : (dc (tb s)).2 = 0) : (dc (tb s)).1.length ≤ 1048576 ∧ (∀ x ∈ (dc (tb s)).1, inR x) ∧ (pk (en (dc (tb s)).1)).length ≤ s.size := by
  have hb : bits2 (tb s) := u8_bits _
  have hlen := tb_len s
  generalize tb s = r at *
  unfold dc at h ⊢
  by_cases c : (rn 24 r).1 = true
  · obtain ⟨X, hX⟩ : ∃ X, X = (rn 24 r).2.1 := ⟨_, rfl⟩
    obtain ⟨r1, hr1⟩ : ∃ r1, r1 = (rn 24 r).2.2 := ⟨_, rfl⟩
    rw [if_pos c, ← hX, ← hr1] at h ⊢
    by_cases d : 1048576 < X
    · rw [if_pos d] at h; exact absurd h (by decide)
    · rw [if_neg d] at h ⊢
      have hs := rn_sound (n := 24) (x := X) (r' := r1) hb (by rw [hX, hr1, ← c])
      cases hR : ra X (X + 1) [] r1 with
      | none => rw [hR] at h; exact absurd h (by decide)
      | some q =>
        obtain ⟨out, r2⟩ := q
        rw [hR] at h
        have hen : en0 r2 = true := by
          by_cases z : en0 r2 = true
          · exact z
          · have h2 : (if en0 r2 = true then (out, (0 : Int)) else ([], 2)).2 = 0 := h
            rw [if_neg z] at h2; exact absurd h2 (by decide)
        have e : fin (some (out, r2)) = (out, 0) := if_pos hen
        rw [e]
        have hsd := ra_sound X (X + 1) 0 [] r1 r2 out hs.2.2 (by simp) (by simp) hR
        have hin : ∀ x ∈ out, inR x := ra_in X (X + 1) [] r1 r2 out hs.2.2 (fun x hx => by cases hx) hR
        refine ⟨by show out.length ≤ _; omega, hin, ?_⟩
        show (pk (en out)).length ≤ s.size
        rw [pk_len]
        have h1 := hsd.2.2
        rw [fzf_zero, Nat.sub_zero] at h1
        have h2 : (en out).length = 24 + (fz out (nf out)).length := by unfold en; rw [List.length_append, bn_len]
        have h3 : nf out = (X + 255) / 256 := by unfold nf; rw [hsd.1]
        have h4 := congrArg List.length hs.1
        rw [List.length_append, bn_len] at h4
        rw [h3] at h2
        omega
  · rw [if_neg c] at h; exact absurd h (by decide)
end Go.Proofs.Ytdlcnbfiklbiiaa.Co
