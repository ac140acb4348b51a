/- Sections as trees: what is wrong with them, how long they are, what is played, as plain functions. -/
import Derived.Test.YtaohahahhjkcdahZMath
namespace Go.Proofs.Ytaohahahhjkcdah.X.M
open Go.Proofs.Ytaohahahhjkcdah.Z.M
set_option linter.unusedVariables false
set_option linter.unusedSimpArgs false

/-- A section: times, how long, events, kids. -/
structure Sc where
  t : Int
  l : Int
  ev : List Ev
  kids : List Sc
def Sc.fold {α : Type} (f : Int → Int → List Ev → List α → α) : Sc → α
  | ⟨t, l, ev, kids⟩ => f t l ev (kids.map (fun k => Sc.fold f k))
theorem Sc.fold_eq {α : Type} (f : Int → Int → List Ev → List α → α) (t l : Int) (ev : List Ev) (kids : List Sc) : Sc.fold f ⟨t, l, ev, kids⟩ = f t l ev (kids.map (Sc.fold f)) := by
  rw [Sc.fold]
theorem Sc.ind {motive : Sc → Prop} (h : ∀ t l ev kids, (∀ k ∈ kids, motive k) → motive ⟨t, l, ev, kids⟩) : ∀ s, motive s
  | ⟨t, l, ev, kids⟩ => h t l ev kids (fun k hk => Sc.ind h k)

/-- What is wrong with a section, whatever its kids are. -/
def al (t l : Int) (ev : List Ev) : Int :=
  if t < 0 ∨ 65536 < t ∨ l < 0 ∨ 65536 < l then 3 else if wr ev ≠ 0 then wr ev else if ev.any (fun e => decide (l ≤ e.t)) = true then 8 else 0
theorem al_range {t l : Int} {ev : List Ev} (h : t < 0 ∨ 65536 < t ∨ l < 0 ∨ 65536 < l) : al t l ev = 3 := if_pos h
theorem al_wr {t l : Int} {ev : List Ev} (h : ¬ (t < 0 ∨ 65536 < t ∨ l < 0 ∨ 65536 < l)) (h2 : wr ev ≠ 0) : al t l ev = wr ev := by unfold al; rw [if_neg h, if_pos h2]
theorem al_fit {t l : Int} {ev : List Ev} (h : ¬ (t < 0 ∨ 65536 < t ∨ l < 0 ∨ 65536 < l)) (h2 : wr ev = 0) (h3 : ∃ e ∈ ev, l ≤ e.t) : al t l ev = 8 := by
  unfold al; rw [if_neg h, if_neg (by simpa using h2), if_pos (by simpa using h3)]
theorem al_ok {t l : Int} {ev : List Ev} (h : ¬ (t < 0 ∨ 65536 < t ∨ l < 0 ∨ 65536 < l)) (h2 : wr ev = 0) (h3 : ∀ e ∈ ev, e.t < l) : al t l ev = 0 := by
  unfold al; rw [if_neg h, if_neg (by simpa using h2), if_neg]
  intro hc
  obtain ⟨e, he, hl⟩ := List.any_eq_true.1 hc
  have := h3 e he
  simp at hl; omega
theorem al_out {t l : Int} {ev : List Ev} (h : al t l ev = 0) : 0 ≤ t ∧ t ≤ 65536 ∧ 0 ≤ l ∧ l ≤ 65536 ∧ wr ev = 0 ∧ ∀ e ∈ ev, e.t < l := by
  by_cases c1 : t < 0 ∨ 65536 < t ∨ l < 0 ∨ 65536 < l
  · rw [al_range c1] at h; omega
  by_cases c2 : wr ev = 0
  · by_cases c3 : ∃ e ∈ ev, l ≤ e.t
    · rw [al_fit c1 c2 c3] at h; omega
    · refine ⟨by omega, by omega, by omega, by omega, c2, fun e he => ?_⟩
      by_cases c4 : e.t < l
      · exact c4
      · exact absurd ⟨e, he, by omega⟩ c3
  · rw [al_wr c1 c2] at h; exact absurd h c2

/-- Section by section: the first fault, how many are met, how long they are. -/
def ckl : List (Int → Int → Int × Int × Int) → Int → Int → Int → Int × Int × Int
  | [], _, m, a => (0, m, a)
  | f :: r, lev, m, a => if (f lev m).1 ≠ 0 then ((f lev m).1, (f lev m).2.1, 0) else if 1125899906842624 < a + (f lev m).2.2 then (4, (f lev m).2.1, 0) else ckl r lev (f lev m).2.1 (a + (f lev m).2.2)
def cke (t l m : Int) (K : Int × Int × Int) : Int × Int × Int := if K.1 ≠ 0 then (K.1, K.2.1, 0) else if 1125899906842624 < t * (l + K.2.2) then (4, K.2.1, 0) else (0, K.2.1, t * (l + K.2.2))
def ckf (t l : Int) (ev : List Ev) (fs : List (Int → Int → Int × Int × Int)) (lev m : Int) : Int × Int × Int :=
  if 32 < lev then (4, m, 0) else if 256 ≤ m then (5, m + 1, 0) else if al t l ev ≠ 0 then (al t l ev, m + 1, 0) else cke t l m (ckl fs (lev + 1) (m + 1) 0)
def ck : Sc → Int → Int → Int × Int × Int := Sc.fold ckf
def cks (l : List Sc) : Int → Int → Int → Int × Int × Int := ckl (l.map ck)
theorem ck_eq (t l : Int) (ev : List Ev) (kids : List Sc) (lev m : Int) : ck ⟨t, l, ev, kids⟩ lev m = if 32 < lev then (4, m, 0) else if 256 ≤ m then (5, m + 1, 0) else if al t l ev ≠ 0 then (al t l ev, m + 1, 0) else cke t l m (cks kids (lev + 1) (m + 1) 0) := by
  unfold ck; rw [Sc.fold_eq]; rfl
theorem ck_lev (s : Sc) {lev m : Int} (h : 32 < lev) : ck s lev m = (4, m, 0) := by
  obtain ⟨t, l, ev, kids⟩ := s; rw [ck_eq, if_pos h]
theorem ck_many (s : Sc) {lev m : Int} (h : ¬ 32 < lev) (h2 : 256 ≤ m) : ck s lev m = (5, m + 1, 0) := by
  obtain ⟨t, l, ev, kids⟩ := s; rw [ck_eq, if_neg h, if_pos h2]
theorem ck_al (s : Sc) {lev m : Int} (h : ¬ 32 < lev) (h2 : ¬ 256 ≤ m) (h3 : al s.t s.l s.ev ≠ 0) : ck s lev m = (al s.t s.l s.ev, m + 1, 0) := by
  obtain ⟨t, l, ev, kids⟩ := s; rw [ck_eq, if_neg h, if_neg h2, if_pos h3]
theorem ck_kids (s : Sc) {lev m : Int} (h : ¬ 32 < lev) (h2 : ¬ 256 ≤ m) (h3 : al s.t s.l s.ev = 0) : ck s lev m = cke s.t s.l m (cks s.kids (lev + 1) (m + 1) 0) := by
  obtain ⟨t, l, ev, kids⟩ := s; rw [ck_eq, if_neg h, if_neg h2, if_neg (by simpa using h3)]
theorem cks_nil (lev m a : Int) : cks [] lev m a = (0, m, a) := rfl
theorem cks_cons (s : Sc) (r : List Sc) (lev m a : Int) : cks (s :: r) lev m a = if (ck s lev m).1 ≠ 0 then ((ck s lev m).1, (ck s lev m).2.1, 0) else if 1125899906842624 < a + (ck s lev m).2.2 then (4, (ck s lev m).2.1, 0) else cks r lev (ck s lev m).2.1 (a + (ck s lev m).2.2) := rfl
theorem cks_drop {l : List Sc} {k : Nat} {s : Sc} (h : l[k]? = some s) (lev m a : Int) : cks (l.drop k) lev m a = if (ck s lev m).1 ≠ 0 then ((ck s lev m).1, (ck s lev m).2.1, 0) else if 1125899906842624 < a + (ck s lev m).2.2 then (4, (ck s lev m).2.1, 0) else cks (l.drop (k + 1)) lev (ck s lev m).2.1 (a + (ck s lev m).2.2) := by
  obtain ⟨hk, he⟩ := List.getElem?_eq_some_iff.1 h
  rw [List.drop_eq_getElem_cons hk, he, cks_cons]

/-- All that is played: how long, and which events, from a tick on. -/
def sh (a : Int) (ev : List Ev) : List Ev := ev.map fun e => ⟨a + e.t, e.k, e.c, e.a, e.b⟩
def tm (F : Int → List Ev) (o : Int) : Nat → Int → List Ev
  | 0, _ => []
  | c + 1, a => F a ++ tm F o c (a + o)
def sm : List Int → Int
  | [] => 0
  | x :: r => x + sm r
def plk : List (Int × (Int → List Ev)) → Int → List Ev
  | [], _ => []
  | p :: r, a => p.2 a ++ plk r (a + p.1)
def plf (t l : Int) (ev : List Ev) (ks : List (Int × (Int → List Ev))) : Int × (Int → List Ev) :=
  (t * (l + sm (ks.map Prod.fst)), fun a => tm (fun a => sh a ev ++ plk ks (a + l)) (l + sm (ks.map Prod.fst)) t.toNat a)
def plp : Sc → Int × (Int → List Ev) := Sc.fold plf
def tot (s : Sc) : Int := (plp s).1
def pl (s : Sc) : Int → List Ev := (plp s).2
def tots (l : List Sc) : Int := sm (l.map tot)
def pls (l : List Sc) : Int → List Ev := plk (l.map plp)
/-- How long one time is. -/
def onc (s : Sc) : Int := s.l + tots s.kids
/-- One time's events. -/
def one (s : Sc) (a : Int) : List Ev := sh a s.ev ++ pls s.kids (a + s.l)
theorem map_fst (l : List Sc) : (l.map plp).map Prod.fst = l.map tot := by rw [List.map_map]; rfl
theorem tot_eq (s : Sc) : tot s = s.t * onc s := by
  obtain ⟨t, l, ev, kids⟩ := s
  show (plp ⟨t, l, ev, kids⟩).1 = _
  unfold plp; rw [Sc.fold_eq]
  show t * (l + sm ((kids.map plp).map Prod.fst)) = _
  rw [map_fst]; rfl
theorem pl_eq (s : Sc) (a : Int) : pl s a = tm (one s) (onc s) s.t.toNat a := by
  obtain ⟨t, l, ev, kids⟩ := s
  show (plp ⟨t, l, ev, kids⟩).2 a = _
  unfold plp; rw [Sc.fold_eq]
  show tm _ (l + sm ((kids.map plp).map Prod.fst)) t.toNat a = _
  rw [map_fst]; rfl
theorem tots_nil : tots [] = 0 := rfl
theorem tots_cons (s : Sc) (r : List Sc) : tots (s :: r) = tot s + tots r := rfl
theorem pls_nil (a : Int) : pls [] a = [] := rfl
theorem pls_cons (s : Sc) (r : List Sc) (a : Int) : pls (s :: r) a = pl s a ++ pls r (a + tot s) := rfl
theorem tots_append (x y : List Sc) : tots (x ++ y) = tots x + tots y := by
  induction x with
  | nil => rw [List.nil_append, tots_nil]; omega
  | cons s r ih => rw [List.cons_append, tots_cons, tots_cons, ih]; omega
theorem pls_append (x y : List Sc) (a : Int) : pls (x ++ y) a = pls x a ++ pls y (a + tots x) := by
  induction x generalizing a with
  | nil => rw [List.nil_append, pls_nil, tots_nil, Int.add_zero]; rfl
  | cons s r ih => rw [List.cons_append, pls_cons, pls_cons, ih, tots_cons, List.append_assoc, Int.add_assoc]
theorem take_one {α : Type} {l : List α} {k : Nat} {s : α} (h : l[k]? = some s) : l.take (k + 1) = l.take k ++ [s] := by
  rw [List.take_add_one, h]; rfl
theorem tots_take {l : List Sc} {k : Nat} {s : Sc} (h : l[k]? = some s) : tots (l.take (k + 1)) = tots (l.take k) + tot s := by
  rw [take_one h, tots_append, tots_cons, tots_nil]; omega
theorem pls_take {l : List Sc} {k : Nat} {s : Sc} (h : l[k]? = some s) (a : Int) : pls (l.take (k + 1)) a = pls (l.take k) a ++ pl s (a + tots (l.take k)) := by
  rw [take_one h, pls_append, pls_cons, pls_nil, List.append_nil]
theorem tm_zero (F : Int → List Ev) (o a : Int) : tm F o 0 a = [] := rfl
theorem tm_succ (F : Int → List Ev) (o a : Int) (c : Nat) : tm F o (c + 1) a = F a ++ tm F o c (a + o) := rfl
theorem tm_last (F : Int → List Ev) (o a : Int) (c : Nat) : tm F o (c + 1) a = tm F o c a ++ F (a + c * o) := by
  induction c generalizing a with
  | zero => rw [tm_succ, tm_zero, tm_zero, List.append_nil, List.nil_append]; congr 1; simp
  | succ c ih =>
    rw [tm_succ, ih, tm_succ F o a c, List.append_assoc]
    congr 3
    rw [Int.natCast_add, Int.add_mul]; omega
theorem tm_nil {F : Int → List Ev} (h : ∀ a, F a = []) (o a : Int) (c : Nat) : tm F o c a = [] := by
  induction c generalizing a with
  | zero => rfl
  | succ c ih => rw [tm_succ, h, ih]; rfl
theorem tm_congr {F G : Int → List Ev} (h : ∀ a, F a = G a) (o a : Int) (c : Nat) : tm F o c a = tm G o c a := by
  rw [show F = G from funext h]

/-- Nothing is wrong. -/
def Ok (s : Sc) : Prop := ∃ lev m, 0 ≤ m ∧ (ck s lev m).1 = 0
/-- What ck tells where nothing is wrong. -/
structure CkO (s : Sc) (m : Int) (r : Int × Int × Int) : Prop where
  e : r = (0, r.2.1, tot s)
  lo : m + 1 ≤ r.2.1
  hi : r.2.1 ≤ 256
  pos : 0 ≤ tot s
theorem cks_ok (l : List Sc) : (∀ s ∈ l, ∀ lev m, 0 ≤ m → (ck s lev m).1 = 0 → CkO s m (ck s lev m)) → ∀ {lev m a : Int}, 0 ≤ m → m ≤ 256 → a ≤ 1125899906842624 → (cks l lev m a).1 = 0 →
    cks l lev m a = (0, (cks l lev m a).2.1, a + tots l) ∧ m + l.length ≤ (cks l lev m a).2.1 ∧ (cks l lev m a).2.1 ≤ 256 ∧ 0 ≤ tots l ∧ a + tots l ≤ 1125899906842624 ∧ ∀ s ∈ l, Ok s := by
  induction l with
  | nil =>
    intro _ lev m a h0 h1 h2 h3
    rw [cks_nil, tots_nil]
    exact ⟨by simp, by simp, h1, by omega, by omega, fun s hs => by simp at hs⟩
  | cons s r ih =>
    intro H lev m a h0 h1 h2 h3
    rw [cks_cons] at h3 ⊢
    by_cases c1 : (ck s lev m).1 = 0
    · rw [if_neg (by simpa using c1)] at h3 ⊢
      by_cases c2 : 1125899906842624 < a + (ck s lev m).2.2
      · rw [if_pos c2] at h3; exact absurd (show (4 : Int) = 0 from h3) (by decide)
      · rw [if_neg c2] at h3 ⊢
        have k := H s (by simp) lev m h0 c1
        have e2 : (ck s lev m).2.2 = tot s := congrArg (·.2.2) k.e
        have k1 := k.lo; have k2 := k.hi; have k3 := k.pos
        rw [e2] at h3 c2 ⊢
        obtain ⟨g1, g2, g3, g4, g5, g6⟩ := ih (fun s' hs' => H s' (by simp [hs'])) (lev := lev) (m := (ck s lev m).2.1) (a := a + tot s) (by omega) k2 (by omega) h3
        rw [tots_cons]
        refine ⟨?_, ?_, g3, by omega, by omega, fun s' hs' => ?_⟩
        · rw [← Int.add_assoc]; exact g1
        · simp only [List.length_cons]; push_cast; omega
        · rcases List.mem_cons.1 hs' with rfl | h
          · exact ⟨lev, m, h0, c1⟩
          · exact g6 s' h
    · rw [if_pos (by simpa using c1)] at h3
      exact absurd h3 c1
/-- What a section that is right is like. -/
structure Fine (s : Sc) : Prop where
  t0 : 0 ≤ s.t
  t1 : s.t ≤ 65536
  l0 : 0 ≤ s.l
  l1 : s.l ≤ 65536
  wr : wr s.ev = 0
  fit : ∀ e ∈ s.ev, e.t < s.l
  kids : ∀ k ∈ s.kids, Ok k
  many : s.kids.length ≤ 256
  k0 : 0 ≤ tots s.kids
  k1 : tots s.kids ≤ 1125899906842624
  a0 : 0 ≤ tot s
  a1 : tot s ≤ 1125899906842624
theorem ck_ok (s : Sc) : ∀ lev m, 0 ≤ m → (ck s lev m).1 = 0 → CkO s m (ck s lev m) ∧ Fine s := by
  induction s using Sc.ind with
  | h t l ev kids ih =>
    intro lev m h0 h
    by_cases c1 : 32 < lev
    · rw [ck_lev _ c1] at h; exact absurd (show (4 : Int) = 0 from h) (by decide)
    by_cases c2 : 256 ≤ m
    · rw [ck_many _ c1 c2] at h; exact absurd (show (5 : Int) = 0 from h) (by decide)
    by_cases c3 : al t l ev = 0
    · have hk := ck_kids ⟨t, l, ev, kids⟩ c1 c2 c3
      rw [hk] at h
      simp only at h
      obtain ⟨q1, q2, q3, q4, q5, q6⟩ := al_out c3
      unfold cke at h
      by_cases c4 : (cks kids (lev + 1) (m + 1) 0).1 = 0
      · obtain ⟨g1, g2, g3, g4, g5, g6⟩ := cks_ok kids (fun k hk lev m h0 h => (ih k hk lev m h0 h).1) (lev := lev + 1) (m := m + 1) (a := 0) (by omega) (by omega) (by omega) c4
        rw [if_neg (by simpa using c4)] at h
        have e2 : (cks kids (lev + 1) (m + 1) 0).2.2 = tots kids := by rw [g1]; simp
        rw [e2] at h
        by_cases c5 : 1125899906842624 < t * (l + tots kids)
        · rw [if_pos c5] at h; exact absurd (show (4 : Int) = 0 from h) (by decide)
        · have et : tot ⟨t, l, ev, kids⟩ = t * (l + tots kids) := tot_eq _
          have hp : 0 ≤ t * (l + tots kids) := Int.mul_nonneg q1 (by omega)
          refine ⟨⟨?_, ?_, ?_, by rw [et]; exact hp⟩, q1, q2, q3, q4, q5, q6, g6, by simp only; omega, g4, by simp only; omega, by rw [et]; exact hp, by rw [et]; omega⟩
          all_goals
            rw [hk]
            simp only
            unfold cke
            rw [if_neg (by simpa using c4), e2, if_neg c5]
          · rw [et]
          · simp only; omega
          · simp only; omega
      · rw [if_pos (by simpa using c4)] at h; exact absurd h c4
    · rw [ck_al _ c1 c2 c3] at h; exact absurd h c3
theorem Ok.fine {s : Sc} (h : Ok s) : Fine s := by
  obtain ⟨lev, m, h0, h⟩ := h
  exact (ck_ok s lev m h0 h).2
/-- Sections that are right, as Long tells it. -/
theorem cks_right {l : List Sc} {lev m a : Int} (h0 : 0 ≤ m) (h1 : m ≤ 256) (h2 : a ≤ 1125899906842624) (h : (cks l lev m a).1 = 0) :
    cks l lev m a = (0, (cks l lev m a).2.1, a + tots l) ∧ m + l.length ≤ (cks l lev m a).2.1 ∧ (cks l lev m a).2.1 ≤ 256 ∧ 0 ≤ tots l ∧ a + tots l ≤ 1125899906842624 ∧ ∀ s ∈ l, Ok s :=
  cks_ok l (fun s _ lev m h0 h => (ck_ok s lev m h0 h).1) h0 h1 h2 h
/-- What is wrong is told with nothing else. -/
theorem ck_bad (s : Sc) (lev m : Int) (h : (ck s lev m).1 ≠ 0) : (ck s lev m).2.2 = 0 := by
  obtain ⟨t, l, ev, kids⟩ := s
  rw [ck_eq] at h ⊢
  split
  · rfl
  split
  · rfl
  split
  · rfl
  · rename_i c1 c2 c3
    rw [if_neg c1, if_neg c2, if_neg c3] at h
    unfold cke at h ⊢
    split
    · rfl
    split
    · rfl
    · rename_i c4 c5
      rw [if_neg c4, if_neg c5] at h
      exact absurd rfl h
theorem cks_bad (l : List Sc) : ∀ (lev m a : Int), (cks l lev m a).1 ≠ 0 → (cks l lev m a).2.2 = 0 := by
  induction l with
  | nil => intro lev m a h; exact absurd rfl h
  | cons s r ih =>
    intro lev m a h
    rw [cks_cons] at h ⊢
    split
    · rfl
    split
    · rfl
    · rename_i c1 c2
      rw [if_neg c1, if_neg c2] at h
      exact ih _ _ _ h
theorem onc_bd {s : Sc} (h : Ok s) : 0 ≤ onc s ∧ onc s ≤ 1125899906908160 := by
  have f := h.fine
  have := f.l0; have := f.l1; have := f.k0; have := f.k1
  unfold onc; omega
/-- Events come one behind the other. -/
def Inc : Int → List Ev → Prop
  | _, [] => True
  | a, e :: r => a ≤ e.t ∧ Inc e.t r
theorem inc_wl {ah : Int} {l : List Ev} (h : wl ah l = 0) : Inc ah l := by
  induction l generalizing ah with
  | nil => trivial
  | cons e r ih =>
    obtain ⟨h1, h2⟩ := wl_ok.1 h
    exact ⟨(we_ok.1 h1).2.2.1, ih h2⟩
theorem inc_ge {a : Int} {l : List Ev} (h : Inc a l) : ∀ e ∈ l, a ≤ e.t := by
  induction l generalizing a with
  | nil => intro e he; simp at he
  | cons x r ih =>
    intro e he
    rcases List.mem_cons.1 he with rfl | he
    · exact h.1
    · have := ih h.2 e he; have := h.1; omega
theorem inc_mono {a b : Int} {l : List Ev} (h : Inc a l) (hb : b ≤ a) : Inc b l := by
  cases l with
  | nil => trivial
  | cons e r => exact ⟨by have := h.1; omega, h.2⟩
theorem inc_append {a : Int} {x y : List Ev} {b : Int} (hx : Inc a x) (hab : a ≤ b) (hb : ∀ e ∈ x, e.t ≤ b) (hy : Inc b y) : Inc a (x ++ y) := by
  induction x generalizing a with
  | nil => exact inc_mono hy hab
  | cons e r ih => exact ⟨hx.1, ih hx.2 (hb e (by simp)) (fun e' he' => hb e' (by simp [he']))⟩
theorem inc_sh {a : Int} {ev : List Ev} (b : Int) (h : Inc a ev) : Inc (b + a) (sh b ev) := by
  induction ev generalizing a with
  | nil => trivial
  | cons e r ih => exact ⟨by have := h.1; show b + a ≤ b + e.t; omega, ih h.2⟩
theorem inc_ev {s : Sc} (h : Ok s) : Inc 0 s.ev := by
  have := h.fine.wr
  unfold wr at this
  split at this
  · omega
  · exact inc_wl this
theorem ev_len {s : Sc} (h : Ok s) : s.ev.length ≤ 4096 := by
  have := h.fine.wr
  unfold wr at this
  split at this
  · omega
  · omega
theorem mem_sh {a : Int} {ev : List Ev} {e : Ev} (h : e ∈ sh a ev) : ∃ x ∈ ev, e.t = a + x.t := by
  obtain ⟨x, hx, rfl⟩ := List.mem_map.1 h
  exact ⟨x, hx, rfl⟩
theorem tm_rng {F : Int → List Ev} {o : Int} (h0 : 0 ≤ o) (h : ∀ a, Inc a (F a) ∧ ∀ e ∈ F a, e.t < a + o) (c : Nat) (a : Int) : Inc a (tm F o c a) ∧ ∀ e ∈ tm F o c a, e.t < a + c * o := by
  induction c generalizing a with
  | zero => exact ⟨trivial, fun e he => by simp [tm_zero] at he⟩
  | succ c ih =>
    obtain ⟨i1, i2⟩ := ih (a + o)
    obtain ⟨f1, f2⟩ := h a
    rw [tm_succ]
    have hm : 0 ≤ (c : Int) * o := Int.mul_nonneg (by omega) h0
    refine ⟨inc_append f1 (by omega) (fun e he => by have := f2 e he; omega) i1, fun e he => ?_⟩
    rw [Int.natCast_add, Int.add_mul]
    rcases List.mem_append.1 he with he | he
    · have := f2 e he; omega
    · have := i2 e he; omega
theorem pls_rng' (l : List Sc) (H : ∀ s ∈ l, ∀ a, Inc a (pl s a) ∧ ∀ e ∈ pl s a, e.t < a + tot s) (H0 : ∀ s ∈ l, 0 ≤ tot s) : ∀ a, 0 ≤ tots l ∧ Inc a (pls l a) ∧ ∀ e ∈ pls l a, e.t < a + tots l := by
  induction l with
  | nil => intro a; exact ⟨by rw [tots_nil]; omega, trivial, fun e he => by simp [pls_nil] at he⟩
  | cons s r ih =>
    intro a
    obtain ⟨p1, p2⟩ := H s (by simp) a
    obtain ⟨i0, i1, i2⟩ := ih (fun s hs => H s (by simp [hs])) (fun s hs => H0 s (by simp [hs])) (a + tot s)
    have h0 := H0 s (by simp)
    rw [pls_cons, tots_cons]
    refine ⟨by omega, inc_append p1 (by omega) (fun e he => by have := p2 e he; omega) i1, fun e he => ?_⟩
    rcases List.mem_append.1 he with he | he
    · have := p2 e he; omega
    · have := i2 e he; omega
theorem pl_rng (s : Sc) : Ok s → ∀ a, (Inc a (one s a) ∧ ∀ e ∈ one s a, e.t < a + onc s) ∧ (Inc a (pl s a) ∧ ∀ e ∈ pl s a, e.t < a + tot s) := by
  induction s using Sc.ind with
  | h t l ev kids ih =>
    intro hok a
    have f := hok.fine
    have one_r : ∀ a, Inc a (one ⟨t, l, ev, kids⟩ a) ∧ ∀ e ∈ one ⟨t, l, ev, kids⟩ a, e.t < a + onc ⟨t, l, ev, kids⟩ := by
      intro a
      obtain ⟨k0, k1, k2⟩ := pls_rng' kids (fun k hk a => (ih k hk (f.kids k hk) a).2) (fun k hk => (f.kids k hk).fine.a0) (a + l)
      have l0 : 0 ≤ l := f.l0
      have i0 := inc_sh a (inc_ev hok)
      rw [Int.add_zero] at i0
      have hh : ∀ e ∈ sh a ev, e.t < a + l := fun e he => by
        obtain ⟨x, hx, e2⟩ := mem_sh he
        have : x.t < l := f.fit x hx
        omega
      refine ⟨inc_append i0 (by omega) (fun e he => by have := hh e he; omega) k1, fun e he => ?_⟩
      show e.t < a + (l + tots kids)
      rcases List.mem_append.1 he with he | he
      · have := hh e he; omega
      · have := k2 e he; omega
    refine ⟨one_r a, ?_⟩
    have := tm_rng (onc_bd hok).1 one_r t.toNat a
    rw [pl_eq, tot_eq]
    have e : ((t.toNat : Nat) : Int) = t := Int.toNat_of_nonneg f.t0
    show Inc a (tm _ _ t.toNat a) ∧ ∀ e ∈ tm _ _ t.toNat a, e.t < a + t * _
    rw [e] at this
    exact this
theorem pls_rng {l : List Sc} (h : ∀ s ∈ l, Ok s) (a : Int) : 0 ≤ tots l ∧ Inc a (pls l a) ∧ ∀ e ∈ pls l a, e.t < a + tots l :=
  pls_rng' l (fun s hs a => (pl_rng s (h s hs) a).2) (fun s hs => (h s hs).fine.a0) a
/-- What happens from one tick on, ahead of another. -/
def win (f t : Int) (l : List Ev) : List Ev := l.filter fun e => decide (f ≤ e.t) && decide (e.t < t)
theorem win_append (f t : Int) (x y : List Ev) : win f t (x ++ y) = win f t x ++ win f t y := List.filter_append ..
theorem win_nil (f t : Int) : win f t [] = [] := rfl
theorem win_late {f t : Int} {l : List Ev} (h : ∀ e ∈ l, t ≤ e.t) : win f t l = [] := by
  unfold win
  rw [List.filter_eq_nil_iff]
  intro e he
  have := h e he
  simp; omega
theorem win_early {f t : Int} {l : List Ev} (h : ∀ e ∈ l, e.t < f) : win f t l = [] := by
  unfold win
  rw [List.filter_eq_nil_iff]
  intro e he
  have := h e he
  simp; omega
theorem win_cut {f m t a : Int} (h1 : f ≤ m) (h2 : m ≤ t) {l : List Ev} (h : Inc a l) : win f t l = win f m l ++ win m t l := by
  induction l generalizing a with
  | nil => rfl
  | cons e r ih =>
    have hr := ih h.2
    unfold win at hr ⊢
    rw [List.filter_cons, List.filter_cons, List.filter_cons]
    by_cases c1 : f ≤ e.t
    · by_cases c2 : e.t < m
      · rw [if_pos (by simp; omega), if_pos (by simp; omega), if_neg (by simp; omega), hr]; rfl
      · have hz : List.filter (fun e => decide (f ≤ e.t) && decide (e.t < m)) r = [] := win_late (fun x hx => by have := inc_ge h.2 x hx; omega)
        by_cases c3 : e.t < t
        · rw [if_pos (by simp; omega), if_neg (by simp; omega), if_pos (by simp; omega), hr, hz]; rfl
        · rw [if_neg (by simp; omega), if_neg (by simp; omega), if_neg (by simp; omega), hr]
    · rw [if_neg (by simp; omega), if_neg (by simp; omega), if_neg (by simp; omega), hr]
end Go.Proofs.Ytaohahahhjkcdah.X.M
