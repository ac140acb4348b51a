/- What is a number to the document is one to the program, and the same. -/
import Derived.Test.YtmccbokjigjpnaaDoorQD7
import Derived.Test.YtmccbokjigjpnaaDoorQT11
namespace Go.Proofs.YtmccbokjigjpnaaDoor
open Go.RowKit Go.Lib
set_option linter.unusedSimpArgs false
set_option linter.unusedVariables false

theorem all_idx (d : ByteArray) (h : ∀ i (hi : i < d.size), 48 ≤ (d[i]'hi).toNat ∧ (d[i]'hi).toNat ≤ 57) : ∀ (b pos : Nat), d.size ≤ pos + b → Lib.idxFuncFrom M.nd true d b pos = -1
  | 0, pos, hb => by unfold Lib.idxFuncFrom; rfl
  | b + 1, pos, hb => by
    unfold Lib.idxFuncFrom
    by_cases hq : pos < d.size
    · rw [if_pos hq]
      have hp := h pos hq
      have hd := decode_ascii d pos hq (by omega)
      rw [hd]
      have hn : ¬ M.nd (d[pos]'hq).toNat = true := by unfold M.nd; simp; omega
      rw [if_neg hn]
      exact all_idx d h b (pos + 1) (by omega)
    · rw [if_neg hq]
theorem idx_iff (d : ByteArray) : Lib.idxFunc M.nd true d = -1 ↔ ∀ i (hi : i < d.size), 48 ≤ (d[i]'hi).toNat ∧ (d[i]'hi).toNat ≤ 57 :=
  ⟨digits_of d, fun h => all_idx d h d.size 0 (by omega)⟩
namespace M
/-- Digits, reckoned from the left. -/
def decL (acc : Int) : List UInt8 → Int
  | [] => acc
  | b :: r => decL (10 * acc + ((b.toNat : Int) - 48)) r
theorem decL_snoc (r : List UInt8) (b : UInt8) : ∀ acc, decL acc (r ++ [b]) = 10 * decL acc r + ((b.toNat : Int) - 48) := by
  induction r with
  | nil => intro acc; rfl
  | cons c r ih => intro acc; exact ih _
theorem decFrom_is : ∀ (r : List UInt8) (acc : Nat), (∀ b ∈ r, 48 ≤ b.toNat ∧ b.toNat ≤ 57) → ∃ m : Nat, Lib.decFrom acc r = some m ∧ (m : Int) = decL acc r
  | [], acc, _ => ⟨acc, rfl, rfl⟩
  | b :: r, acc, h => by
    have hb := h b (by simp)
    obtain ⟨m, h1, h2⟩ := decFrom_is r (acc * 10 + (b.toNat - 48)) (fun x hx => h x (by simp [hx]))
    refine ⟨m, ?_, ?_⟩
    · unfold Lib.decFrom Lib.digitVal
      rw [if_pos hb]
      exact h1
    · rw [h2]
      show decL _ r = decL _ r
      congr 1
      omega
theorem dv_is (s : ByteArray) (i : Nat) : ∀ k, i + k ≤ s.size → dv s i k = decL 0 ((s.data.toList.drop i).take k) := by
  intro k
  induction k with
  | zero => intro _; rfl
  | succ k ih =>
    intro hk
    have hl : i + k < s.data.toList.length := by rw [← Lib.size_eq]; omega
    have e : (s.data.toList.drop i).take (k + 1) = (s.data.toList.drop i).take k ++ [s.data.toList[i + k]] := by
      rw [List.take_succ_eq_append_getElem (by simp at hl ⊢; omega)]
      simp
    show 10 * dv s i k + ((M.by s (i + k) : Int) - 48) = _
    rw [e, decL_snoc, ← ih (by omega)]
    congr 3
    unfold M.by
    rw [List.getD_eq_getElem?_getD, List.getElem?_eq_getElem hl]
    rfl
theorem by_get (s : ByteArray) (l : List UInt8) (hl : s.data.toList = l) (k : Nat) (hk : k < l.length) : M.by s k = (l[k]'hk).toNat := by
  unfold M.by
  rw [hl, List.getD_eq_getElem?_getD, List.getElem?_eq_getElem hk]
  rfl
theorem isN_neg (s : ByteArray) (h0 : 0 < s.size) (hm : M.by s 0 = 45) : (isN s = true ↔ nk1 s) ∧ (nk1 s → valN s = -(dv s 1 (s.size - 1))) := by
  obtain ⟨b, t, hl⟩ : ∃ b t, s.data.toList = b :: t := by
    cases h : s.data.toList with
    | nil => rw [Lib.size_eq, h] at h0; simp at h0
    | cons b t => exact ⟨b, t, rfl⟩
  have hb : b = 45 := by
    have := by_get s _ hl 0 (by simp)
    rw [hm] at this
    exact UInt8.toNat_inj.1 (by simpa using this.symm)
  subst hb
  have hsz : s.size = t.length + 1 := by rw [Lib.size_eq, hl]; simp
  have hby : ∀ k, (hk : k < t.length) → M.by s (k + 1) = (t[k]'hk).toNat := fun k hk => by
    rw [by_get s _ hl (k + 1) (by simp; omega)]; simp
  have hsg : sgnd s = true := by unfold sgnd; rw [hl]; rfl
  have hdg : dgt s = ⟨t.toArray⟩ := by unfold dgt; rw [hl]; rfl
  have hds : (⟨t.toArray⟩ : ByteArray).size = t.length := by show t.toArray.size = _; simp
  have hidx : Lib.idxFunc nd true ⟨t.toArray⟩ = -1 ↔ dig s 1 s.size := by
    rw [idx_iff]
    constructor
    · intro h j h1 h2
      have := h (j - 1) (by omega)
      have e := hby (j - 1) (by omega)
      rw [show j - 1 + 1 = j by omega] at e
      rw [e]; exact this
    · intro h i hi
      have := h (i + 1) (by omega) (by omega)
      rw [hby i (by omega)] at this
      exact this
  have hhd : 1 ≤ t.length → (t.headD 0 = 48 ↔ M.by s 1 = 48) := fun h1 => by
    have e := hby 0 (by omega)
    cases t with
    | nil => simp at h1
    | cons c r =>
      simp at e
      rw [e]
      constructor
      · intro h; simp at h; rw [h]; rfl
      · intro h; exact UInt8.toNat_inj.1 (by simpa using h)
  constructor
  · unfold isN nk1
    rw [hdg, hsg, hds]
    simp only [Bool.and_eq_true, decide_eq_true_eq, Bool.not_eq_true', Bool.true_or, Bool.and_true, decide_eq_false_iff_not]
    rw [hidx]
    constructor
    · rintro ⟨⟨h1, h2⟩, h3, h4⟩
      exact ⟨h3, by omega, by omega, fun h => h4 ((hhd h1).2 h)⟩
    · rintro ⟨h3, h1, h2, h4⟩
      exact ⟨⟨by omega, by omega⟩, h3, fun h => h4 ((hhd (by omega)).1 h)⟩
  · rintro ⟨h3, h1, h2, h4⟩
    have hall : ∀ c ∈ t, 48 ≤ c.toNat ∧ c.toNat ≤ 57 := fun c hc => by
      obtain ⟨i, hi, rfl⟩ := List.getElem_of_mem hc
      have := h3 (i + 1) (by omega) (by omega)
      rw [hby i hi] at this
      exact this
    obtain ⟨m, e1, e2⟩ := decFrom_is t 0 hall
    have hne : t ≠ [] := fun e => by rw [e] at hsz; simp at hsz; omega
    unfold valN
    rw [hl]
    have : Lib.atoi (45 :: t) = some (-(m : Int)) := by
      unfold Lib.atoi Lib.decNat
      cases t with
      | nil => exact absurd rfl hne
      | cons c r => simp [e1]
    rw [this, dv_is s 1 (s.size - 1) (by omega), hl]
    show -(m : Int) = -(decL 0 ((List.drop 1 (45 :: t)).take (s.size - 1)))
    rw [e2, show s.size - 1 = t.length by omega]
    simp
theorem isN_pos (s : ByteArray) (h0 : 0 < s.size) (hm : M.by s 0 ≠ 45) : (isN s = true ↔ nk0 s) ∧ (nk0 s → valN s = dv s 0 s.size) := by
  obtain ⟨b, t, hl⟩ : ∃ b t, s.data.toList = b :: t := by
    cases h : s.data.toList with
    | nil => rw [Lib.size_eq, h] at h0; simp at h0
    | cons b t => exact ⟨b, t, rfl⟩
  have hb0 : M.by s 0 = b.toNat := by
    have := by_get s _ hl 0 (by simp)
    simpa using this
  have hb : b ≠ 45 := fun e => hm (by rw [hb0, e]; rfl)
  have hbb : (b == 45) = false := by simpa using hb
  have hpre : Lib.hasPrefix (b :: t) [45] = false := by
    unfold Lib.hasPrefix
    simp [List.isPrefixOf]
    exact fun e => hb e.symm
  have hsz : s.size = t.length + 1 := by rw [Lib.size_eq, hl]; simp
  have hby : ∀ k, (hk : k < s.size) → (s[k]'hk).toNat = M.by s k := fun k hk => M.by_is s k hk
  have hsg : sgnd s = false := by unfold sgnd; rw [hl]; exact hpre
  have hdg : dgt s = s := by
    unfold dgt Lib.trimPrefix
    rw [hl, hpre]
    apply ByteArray.ext
    show (b :: t).toArray = s.data
    rw [← hl]
  have hidx : Lib.idxFunc nd true s = -1 ↔ dig s 0 s.size := by
    rw [idx_iff]
    constructor
    · intro h j h1 h2
      rw [← hby j h2]; exact h j h2
    · intro h i hi
      rw [hby i hi]; exact h i (by omega) hi
  have hhd : (s.data.toList.headD 0 = 48 ↔ M.by s 0 = 48) := by
    rw [hl, hb0]
    constructor
    · intro h; simp at h; rw [h]; rfl
    · intro h; exact UInt8.toNat_inj.1 (by simpa using h)
  constructor
  · unfold isN nk0
    rw [hdg, hsg]
    simp only [Bool.and_eq_true, decide_eq_true_eq, Bool.not_eq_true', Bool.false_or]
    rw [hidx]
    constructor
    · rintro ⟨⟨h1, h2⟩, h3, h4⟩
      refine ⟨h3, h1, h2, fun h => ?_⟩
      rw [decide_eq_true (hhd.2 h.1), decide_eq_true h.2] at h4
      cases h4
    · rintro ⟨h3, h1, h2, h4⟩
      refine ⟨⟨h1, h2⟩, h3, ?_⟩
      by_cases c1 : s.data.toList.headD 0 = 48
      · have c2 : ¬ 1 < s.size := fun h => h4 ⟨hhd.1 c1, h⟩
        rw [decide_eq_false c2, Bool.and_false]
      · rw [decide_eq_false c1, Bool.false_and]
  · rintro ⟨h3, h1, h2, h4⟩
    have hall : ∀ c ∈ b :: t, 48 ≤ c.toNat ∧ c.toNat ≤ 57 := fun c hc => by
      obtain ⟨i, hi, rfl⟩ := List.getElem_of_mem hc
      have := h3 i (by omega) (by rw [hsz]; simpa using hi)
      rw [by_get s _ hl i hi] at this
      exact this
    obtain ⟨m, e1, e2⟩ := decFrom_is (b :: t) 0 hall
    have h43 : (b == 43) = false := by
      have := hall b (by simp)
      simp
      intro e
      rw [e] at this
      have : (48 : Nat) ≤ 43 := this.1
      omega
    unfold valN
    rw [hl]
    have : Lib.atoi (b :: t) = some (m : Int) := by
      show (if (b == 45) = true then (Lib.decNat t).map fun (m : Nat) => -(m : Int) else if (b == 43) = true then (Lib.decNat t).map fun (m : Nat) => (m : Int) else (Lib.decNat (b :: t)).map fun (m : Nat) => (m : Int)) = _
      rw [hbb, h43]
      unfold Lib.decNat
      simp [e1]
    rw [this, dv_is s 0 s.size (by omega), hl]
    show (m : Int) = decL 0 ((List.drop 0 (b :: t)).take s.size)
    rw [e2, hsz]
    simp
theorem isN_none (s : ByteArray) (h0 : s.size = 0) : isN s = false := by
  have hl : s.data.toList = [] := by
    apply List.eq_nil_of_length_eq_zero
    rw [← Lib.size_eq]; exact h0
  unfold isN
  have : (dgt s).size = 0 := by
    show (Lib.trimPrefix s.data.toList [45]).toArray.size = 0
    rw [hl]; rfl
  rw [this]
  rfl
end M
/-- What the document's Number tells, in the words of the program's. -/
theorem Number_any (s : ByteArray) (w : World) (hs : s.size ≤ 140737488355328) :
    Calls Tryd.prog 48 #[.string s] w fun e w' => e = .returned (.tuple #[.int .i64 (if M.isN s = true then M.valN s else 0), .bool (M.isN s)]) ∧ w' = w := by
  rcases Nat.eq_zero_or_pos s.size with h0 | h0
  · have hn := M.isN_none s h0
    rw [hn]
    exact Number_none s w h0
  · by_cases hm : M.by s 0 = 45
    · obtain ⟨h1, h2⟩ := M.isN_neg s h0 hm
      refine (Number_1 s w hs h0 hm).mono ?_
      rintro e w' ⟨⟨hk, rfl⟩ | ⟨hk, rfl⟩, rfl⟩
      · rw [if_pos (h1.2 hk), h1.2 hk, h2 hk]; exact ⟨rfl, rfl⟩
      · have : M.isN s = false := by cases h : M.isN s; rfl; exact absurd (h1.1 h) hk
        rw [this]; exact ⟨rfl, rfl⟩
    · obtain ⟨h1, h2⟩ := M.isN_pos s h0 hm
      refine (Number_0 s w hs h0 hm).mono ?_
      rintro e w' ⟨⟨hk, rfl⟩ | ⟨hk, rfl⟩, rfl⟩
      · rw [if_pos (h1.2 hk), h1.2 hk, h2 hk]; exact ⟨rfl, rfl⟩
      · have : M.isN s = false := by cases h : M.isN s; rfl; exact absurd (h1.1 h) hk
        rw [this]; exact ⟨rfl, rfl⟩
end Go.Proofs.YtmccbokjigjpnaaDoor
