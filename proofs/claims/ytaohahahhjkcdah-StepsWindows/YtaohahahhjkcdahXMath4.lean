/- What is played so many times, and what is played in pieces, as plain facts. -/
import Derived.Test.YtaohahahhjkcdahX11
namespace Go.Proofs.Ytaohahahhjkcdah.X.M
open Go.Proofs.Ytaohahahhjkcdah.Z.M
set_option linter.unusedVariables false
set_option linter.unusedSimpArgs false

theorem cks_on {s : Sc} {r : List Sc} {lev m a : Int} (h0 : 0 ≤ m) (h : (ck s lev m).1 = 0) (h2 : ¬ 1125899906842624 < a + tot s) : cks (s :: r) lev m a = cks r lev (ck s lev m).2.1 (a + tot s) := by
  have e2 : (ck s lev m).2.2 = tot s := congrArg (·.2.2) (ck_ok s lev m h0 h).1.e
  rw [cks_cons, if_neg (show ¬ (ck s lev m).1 ≠ 0 from fun q => q h), e2, if_neg h2]
theorem cks_much {s : Sc} {r : List Sc} {lev m a : Int} (h0 : 0 ≤ m) (h : (ck s lev m).1 = 0) (h2 : 1125899906842624 < a + tot s) : (cks (s :: r) lev m a).1 = 4 := by
  have e2 : (ck s lev m).2.2 = tot s := congrArg (·.2.2) (ck_ok s lev m h0 h).1.e
  rw [cks_cons, if_neg (show ¬ (ck s lev m).1 ≠ 0 from fun q => q h), e2, if_pos h2]
theorem cks_off {s : Sc} {r : List Sc} {lev m a : Int} (h : (ck s lev m).1 ≠ 0) : (cks (s :: r) lev m a).1 = (ck s lev m).1 := by
  rw [cks_cons, if_pos h]
theorem ck_on {t l : Int} {ev : List Ev} {kids : List Sc} {lev m : Int} (h0 : 0 ≤ m) (h1 : ¬ 32 < lev) (h2 : ¬ 256 ≤ m) (h3 : al t l ev = 0) (h4 : (cks kids (lev + 1) (m + 1) 0).1 = 0) :
    ck ⟨t, l, ev, kids⟩ lev m = if 1125899906842624 < t * (l + tots kids) then (4, (cks kids (lev + 1) (m + 1) 0).2.1, 0) else (0, (cks kids (lev + 1) (m + 1) 0).2.1, t * (l + tots kids)) := by
  obtain ⟨r1, _⟩ := cks_right (by omega) (by omega) (by omega) h4
  have e2 : (cks kids (lev + 1) (m + 1) 0).2.2 = tots kids := by rw [r1]; simp
  rw [ck_kids ⟨t, l, ev, kids⟩ h1 h2 h3]
  simp only
  unfold cke
  rw [if_neg (show ¬ (cks kids (lev + 1) (m + 1) 0).1 ≠ 0 from fun q => q h4), e2]
theorem ck_off {t l : Int} {ev : List Ev} {kids : List Sc} {lev m : Int} (h1 : ¬ 32 < lev) (h2 : ¬ 256 ≤ m) (h3 : al t l ev = 0) (h4 : (cks kids (lev + 1) (m + 1) 0).1 ≠ 0) : (ck ⟨t, l, ev, kids⟩ lev m).1 = (cks kids (lev + 1) (m + 1) 0).1 := by
  rw [ck_kids ⟨t, l, ev, kids⟩ h1 h2 h3]
  simp only
  unfold cke
  rw [if_pos h4]
theorem shift_list (l : List Sc) (H : ∀ s ∈ l, ∀ lev m m', 0 ≤ m → m ≤ m' → (ck s lev m).1 = 0 → ((ck s lev m').1 = 0 ∧ (ck s lev m').2.1 = (ck s lev m).2.1 + (m' - m)) ∨ (ck s lev m').1 = 5) :
    ∀ (lev m m' a : Int), 0 ≤ m → m ≤ m' → (cks l lev m a).1 = 0 → ((cks l lev m' a).1 = 0 ∧ (cks l lev m' a).2.1 = (cks l lev m a).2.1 + (m' - m)) ∨ (cks l lev m' a).1 = 5 := by
  induction l with
  | nil => intro lev m m' a _ _ _; exact Or.inl ⟨rfl, by rw [cks_nil, cks_nil]; simp only; omega⟩
  | cons s r ih =>
    intro lev m m' a h0 h1 h
    by_cases c1 : (ck s lev m).1 = 0
    · have klo := (ck_ok s lev m h0 c1).1.lo
      by_cases c2 : 1125899906842624 < a + tot s
      · rw [cks_much h0 c1 c2] at h; exact absurd h (by decide)
      · rw [cks_on h0 c1 c2] at h ⊢
        rcases H s (by simp) lev m m' h0 h1 c1 with ⟨q, q2⟩ | q
        · rw [cks_on (by omega) q c2]
          rcases ih (fun s hs => H s (by simp [hs])) lev (ck s lev m).2.1 (ck s lev m').2.1 _ (by omega) (by omega) h with ⟨g1, g2⟩ | g
          · exact Or.inl ⟨g1, by rw [g2]; omega⟩
          · exact Or.inr g
        · right
          rw [cks_off (by rw [q]; decide)]; exact q
    · rw [cks_off c1] at h; exact absurd h c1
theorem shift (s : Sc) : ∀ lev m m', 0 ≤ m → m ≤ m' → (ck s lev m).1 = 0 → ((ck s lev m').1 = 0 ∧ (ck s lev m').2.1 = (ck s lev m).2.1 + (m' - m)) ∨ (ck s lev m').1 = 5 := by
  induction s using Sc.ind with
  | h t l ev kids ih =>
    intro lev m m' h0 h1 h
    by_cases c1 : 32 < lev
    · rw [ck_lev _ c1] at h; exact absurd (show (4 : Int) = 0 from h) (by decide)
    by_cases c2 : 256 ≤ m
    · rw [ck_many _ c1 c2] at h; exact absurd (show (5 : Int) = 0 from h) (by decide)
    by_cases c3 : al t l ev = 0
    · by_cases c4 : 256 ≤ m'
      · rw [ck_many _ c1 c4]; exact Or.inr rfl
      · by_cases c5 : (cks kids (lev + 1) (m + 1) 0).1 = 0
        · by_cases c6 : 1125899906842624 < t * (l + tots kids)
          · rw [ck_on h0 c1 c2 c3 c5, if_pos c6] at h; exact absurd (show (4 : Int) = 0 from h) (by decide)
          · rcases shift_list kids ih (lev + 1) (m + 1) (m' + 1) 0 (by omega) (by omega) c5 with ⟨g1, g2⟩ | g
            · left
              have e1 := ck_on (by omega) c1 c4 c3 g1
              have e2 := ck_on h0 c1 c2 c3 c5
              rw [if_neg c6] at e1 e2
              rw [e1, e2]
              exact ⟨rfl, by simp only; omega⟩
            · right
              rw [ck_off c1 c4 c3 (by rw [g]; decide)]; exact g
        · rw [ck_off c1 c2 c3 c5] at h; exact absurd h c5
    · rw [ck_al _ c1 c2 c3] at h; exact absurd h c3
theorem al_times {t t' l : Int} {ev : List Ev} (h0 : 0 ≤ t) (h1 : t ≤ 65536) (h2 : 0 ≤ t') (h3 : t' ≤ 65536) : al t l ev = al t' l ev := by
  by_cases c : l < 0 ∨ 65536 < l
  · rw [al_range (show t < 0 ∨ 65536 < t ∨ l < 0 ∨ 65536 < l by omega), al_range (show t' < 0 ∨ 65536 < t' ∨ l < 0 ∨ 65536 < l by omega)]
  · unfold al
    rw [if_neg (show ¬ (t < 0 ∨ 65536 < t ∨ l < 0 ∨ 65536 < l) by omega), if_neg (show ¬ (t' < 0 ∨ 65536 < t' ∨ l < 0 ∨ 65536 < l) by omega)]
/-- So many times one behind the other. -/
theorem rep_ck (l : Int) (ev : List Ev) (kids : List Sc) (hal : al 1 l ev = 0) (hk : (cks kids 2 1 0).1 = 0) : ∀ (n : Nat) (m a : Int), 0 ≤ m → m ≤ 256 → 0 ≤ a → a ≤ 1125899906842624 →
    (cks (List.replicate n ⟨1, l, ev, kids⟩) 1 m a).1 = 5 ∨ (cks (List.replicate n ⟨1, l, ev, kids⟩) 1 m a).1 = if 1125899906842624 < a + n * (l + tots kids) then 4 else 0 := by
  have hl := al_out hal
  obtain ⟨r1, _, _, r4, r5, _⟩ := cks_right (by omega) (by omega) (by omega) hk
  have et : tot ⟨1, l, ev, kids⟩ = l + tots kids := by rw [tot_eq]; show 1 * (l + tots kids) = _; omega
  intro n
  induction n with
  | zero =>
    intro m a h0 h1 h2 h3
    right
    rw [List.replicate_zero, cks_nil, if_neg (show ¬ 1125899906842624 < a + ((0 : Nat) : Int) * (l + tots kids) by rw [Int.natCast_zero, Int.zero_mul]; omega)]
  | succ n ih =>
    intro m a h0 h1 h2 h3
    rw [List.replicate_succ]
    have ho : 0 ≤ l + tots kids := by omega
    have hn : 0 ≤ (n : Int) * (l + tots kids) := Int.mul_nonneg (by omega) ho
    have en : ((n + 1 : Nat) : Int) * (l + tots kids) = n * (l + tots kids) + (l + tots kids) := by rw [Int.natCast_add, Int.add_mul]; simp
    rw [en]
    by_cases c2 : 256 ≤ m
    · left
      have e := ck_many ⟨1, l, ev, kids⟩ (lev := 1) (by omega) c2
      rw [cks_off (by rw [e]; simp), e]
    · rcases shift_list kids (fun s _ => shift s) 2 1 (m + 1) 0 (by omega) (by omega) hk with ⟨g1, g2⟩ | g
      · have e := ck_on (t := 1) (l := l) (ev := ev) (lev := 1) h0 (by omega) c2 hal g1
        rw [show (1 : Int) * (l + tots kids) = l + tots kids by omega] at e
        by_cases c6 : 1125899906842624 < l + tots kids
        · right
          rw [if_pos c6] at e
          rw [cks_off (by rw [e]; simp), e, if_pos (by omega)]
        · rw [if_neg c6] at e
          have e0 : (ck ⟨1, l, ev, kids⟩ 1 m).1 = 0 := by rw [e]
          have em : (ck ⟨1, l, ev, kids⟩ 1 m).2.1 = (cks kids 2 (m + 1) 0).2.1 := by rw [e]; rfl
          have hhi := (ck_ok _ 1 m h0 e0).1.hi
          have hlo := (ck_ok _ 1 m h0 e0).1.lo
          by_cases c7 : 1125899906842624 < a + (l + tots kids)
          · right
            rw [cks_much h0 e0 (by rw [et]; exact c7), if_pos (by omega)]
          · rw [cks_on h0 e0 (by rw [et]; exact c7), et]
            have := ih (ck ⟨1, l, ev, kids⟩ 1 m).2.1 (a + (l + tots kids)) (by omega) hhi (by omega) (by omega)
            rw [show a + (l + tots kids) + ↑n * (l + tots kids) = a + (↑n * (l + tots kids) + (l + tots kids)) by omega] at this
            exact this
      · left
        have e := ck_off (t := 1) (l := l) (ev := ev) (kids := kids) (lev := 1) (m := m) (by omega) c2 hal (by show (cks kids 2 (m + 1) 0).1 ≠ 0; rw [g]; decide)
        have e' : (ck ⟨1, l, ev, kids⟩ 1 m).1 = 5 := e.trans g
        rw [cks_off (by rw [e']; decide)]; exact e'
/-- What is wrong with so many times of a section, and with so many of them. -/
theorem times_err (s : Sc) (n : Nat) (h1 : 1 ≤ n) (h2 : n ≤ 50) : (cks [⟨n, s.l, s.ev, s.kids⟩] 1 0 0).1 = (cks (List.replicate n ⟨1, s.l, s.ev, s.kids⟩) 1 0 0).1 ∨ (cks (List.replicate n ⟨1, s.l, s.ev, s.kids⟩) 1 0 0).1 = 5 := by
  obtain ⟨t, l, ev, kids⟩ := s
  simp only
  have ea : al (n : Int) l ev = al 1 l ev := al_times (by omega) (by omega) (by omega) (by omega)
  have et : tot ⟨(n : Int), l, ev, kids⟩ = n * (l + tots kids) := tot_eq _
  by_cases c3 : al 1 l ev = 0
  · have c3' : al (n : Int) l ev = 0 := by rw [ea]; exact c3
    have hl := al_out c3
    by_cases c5 : (cks kids 2 1 0).1 = 0
    · obtain ⟨r1, _, _, r4, r5, _⟩ := cks_right (by omega) (by omega) (by omega) c5
      rcases rep_ck l ev kids c3 c5 n 0 0 (by omega) (by omega) (by omega) (by omega) with g | g
      · exact Or.inr g
      · left
        rw [g, show (0 : Int) + n * (l + tots kids) = n * (l + tots kids) by omega]
        have e := ck_on (t := (n : Int)) (l := l) (ev := ev) (lev := 1) (m := 0) (by omega) (by omega) (by omega) c3' c5
        by_cases c6 : 1125899906842624 < (n : Int) * (l + tots kids)
        · rw [if_pos c6] at e ⊢
          rw [cks_off (by rw [e]; simp), e]
        · rw [if_neg c6] at e ⊢
          rw [cks_on (by omega) (by rw [e]) (by rw [et]; omega), cks_nil]
    · left
      obtain ⟨n', rfl⟩ : ∃ n', n = n' + 1 := ⟨n - 1, by omega⟩
      have e1 := ck_off (t := ((n' + 1 : Nat) : Int)) (l := l) (ev := ev) (kids := kids) (lev := 1) (m := 0) (by omega) (by omega) c3' c5
      have e2 := ck_off (t := 1) (l := l) (ev := ev) (kids := kids) (lev := 1) (m := 0) (by omega) (by omega) c3 c5
      rw [List.replicate_succ, cks_off (by rw [e1]; exact c5), cks_off (by rw [e2]; exact c5), e1, e2]
  · left
    have c3' : al (n : Int) l ev ≠ 0 := by rw [ea]; exact c3
    obtain ⟨n', rfl⟩ : ∃ n', n = n' + 1 := ⟨n - 1, by omega⟩
    have e1 := ck_al ⟨((n' + 1 : Nat) : Int), l, ev, kids⟩ (lev := 1) (m := 0) (by omega) (by omega) c3'
    have e2 := ck_al ⟨1, l, ev, kids⟩ (lev := 1) (m := 0) (by omega) (by omega) c3
    rw [List.replicate_succ, cks_off (by rw [e1]; exact c3'), cks_off (by rw [e2]; exact c3), e1, e2]
    exact ea
/-- The same is played. -/
theorem times_pls (s : Sc) (n : Nat) : pls [⟨n, s.l, s.ev, s.kids⟩] 0 = pls (List.replicate n ⟨1, s.l, s.ev, s.kids⟩) 0 := by
  obtain ⟨t, l, ev, kids⟩ := s
  simp only
  rw [pls_cons, pls_nil, List.append_nil, pl_eq]
  simp only [Int.toNat_natCast]
  have e : ∀ (n : Nat) (a : Int), pls (List.replicate n ⟨1, l, ev, kids⟩) a = tm (one ⟨1, l, ev, kids⟩) (onc ⟨1, l, ev, kids⟩) n a := by
    intro n
    induction n with
    | zero => intro a; rfl
    | succ n ih =>
      intro a
      rw [List.replicate_succ, pls_cons, ih, pl_eq, tot_eq, tm_succ]
      simp only [Int.one_mul]
      congr 1
      show tm _ _ 1 a = _
      rw [tm_succ, tm_zero, List.append_nil]
  rw [e]; rfl
/-- Turns that cut time. -/
def cut (cs : List Int) : List (Int × Int) := cs.map fun c => (-1, c)
theorem nx_ok {E : List Ev} {a x : Int} (h0 : 0 ≤ x) (h1 : a + x ≤ 1125899906842624) (h : (win a (a + x) E).length ≤ 4096) : nx E a x = (0, win a (a + x) E, a + x) := by
  unfold nx
  rw [if_neg (by omega), if_pos h]
theorem nx_len {E : List Ev} {a x : Int} (h0 : 0 ≤ x) (h1 : a + x ≤ 1125899906842624) (h : (nx E a x).1 = 0) : (win a (a + x) E).length ≤ 4096 := by
  unfold nx at h
  rw [if_neg (by omega)] at h
  by_cases c : (win a (a + x) E).length ≤ 4096
  · exact c
  · rw [if_neg c] at h; exact absurd (show (5 : Int) = 0 from h) (by decide)
theorem sm_nonneg {cs : List Int} (h : ∀ c ∈ cs, 0 ≤ c) : 0 ≤ sm cs := by
  induction cs with
  | nil => exact Int.le_refl _
  | cons c r ih => have := ih (fun c hc => h c (by simp [hc])); have := h c (by simp); show 0 ≤ c + sm r; omega
theorem pieces {E : List Ev} (hE : Inc 0 E) : ∀ (cs : List Int) (p : Int), (∀ c ∈ cs, 0 ≤ c) → 0 ≤ p → p + sm cs ≤ 1125899906842624 → (win p (p + sm cs) E).length ≤ 4096 →
    (∀ x ∈ py E p (cut cs), x.er = 0) ∧ (py E p (cut cs)).flatMap (·.ev) = win p (p + sm cs) E := by
  intro cs
  induction cs with
  | nil =>
    intro p _ _ _ _
    refine ⟨fun x hx => by simp [cut, py] at hx, ?_⟩
    rw [show p + sm [] = p from Int.add_zero p]
    show [] = win p p E
    symm
    unfold win
    rw [List.filter_eq_nil_iff]
    intro e _
    simp
  | cons c r ih =>
    intro p hc hp hs hl
    have c0 := hc c (by simp)
    have r0 := sm_nonneg (cs := r) (fun c h => hc c (by simp [h]))
    have es : p + sm (c :: r) = p + c + sm r := by show p + (c + sm r) = _; omega
    rw [es] at hs hl ⊢
    have ew := win_cut (f := p) (m := p + c) (t := p + c + sm r) (by omega) (by omega) hE
    rw [ew, List.length_append] at hl
    have e1 : pd1 E p (-1, c) = ⟨0, 0, win p (p + c) E, p + c⟩ := by
      have es1 : sk1 p (-1) = (0, p) := if_neg (by omega)
      unfold pd1
      simp only [es1]
      rw [nx_ok c0 (by omega) (by omega)]
    obtain ⟨g1, g2⟩ := ih (p + c) (fun c h => hc c (by simp [h])) (by omega) hs (by omega)
    have e2 : py E p (cut (c :: r)) = ⟨0, 0, win p (p + c) E, p + c⟩ :: py E (p + c) (cut r) := by
      show pd1 E p (-1, c) :: py E (pd1 E p (-1, c)).p (cut r) = _
      rw [e1]
    rw [e2]
    refine ⟨fun x hx => ?_, ?_⟩
    · rcases List.mem_cons.1 hx with rfl | hx
      · rfl
      · exact g1 x hx
    · rw [List.flatMap_cons, g2, ew]
end Go.Proofs.Ytaohahahhjkcdah.X.M
