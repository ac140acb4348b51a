/- Parts as trees: the sections in which something happens; what an ear hears of them, as plain functions. -/
import Derived.Test.YtaohahahhjkcdahXMath
namespace Go.Proofs.Ytaohahahhjkcdah.X.M
open Go.Proofs.Ytaohahahhjkcdah.Z.M
set_option linter.unusedVariables false
set_option linter.unusedSimpArgs false

/-- A part: times, how long one time is, where it begins, events, kids. -/
structure Pt where
  t : Int
  o : Int
  s : Int
  ev : List Ev
  kids : List Pt
def Pt.fold {α : Type} (f : Int → Int → Int → List Ev → List α → α) : Pt → α
  | ⟨t, o, s, ev, kids⟩ => f t o s ev (kids.map (fun k => Pt.fold f k))
theorem Pt.fold_eq {α : Type} (f : Int → Int → Int → List Ev → List α → α) (t o s : Int) (ev : List Ev) (kids : List Pt) : Pt.fold f ⟨t, o, s, ev, kids⟩ = f t o s ev (kids.map (Pt.fold f)) := by
  rw [Pt.fold]
theorem Pt.ind {motive : Pt → Prop} (h : ∀ t o s ev kids, (∀ k ∈ kids, motive k) → motive ⟨t, o, s, ev, kids⟩) : ∀ p, motive p
  | ⟨t, o, s, ev, kids⟩ => h t o s ev kids (fun k hk => Pt.ind h k)
/-- The parts of sections, from a tick on. -/
def hdk : List (Int × (Int → List Pt)) → Int → List Pt
  | [], _ => []
  | p :: r, a => p.2 a ++ hdk r (a + p.1)
def hdf (t l : Int) (ev : List Ev) (ks : List (Int × (Int → List Pt))) : Int × (Int → List Pt) :=
  (t * (l + sm (ks.map Prod.fst)), fun a => if 0 < t ∧ 0 < ev.length + (hdk ks l).length then [⟨t, l + sm (ks.map Prod.fst), a, ev, hdk ks l⟩] else [])
def hdp : Sc → Int × (Int → List Pt) := Sc.fold hdf
def hd (s : Sc) : Int → List Pt := (hdp s).2
def hds (l : List Sc) : Int → List Pt := hdk (l.map hdp)
theorem hdp_fst (s : Sc) : (hdp s).1 = tot s := by
  induction s using Sc.ind with
  | h t l ev kids ih =>
    rw [tot_eq]
    unfold hdp; rw [Sc.fold_eq]
    show t * (l + sm ((kids.map hdp).map Prod.fst)) = t * (l + sm (kids.map tot))
    rw [List.map_map, List.map_congr_left (f := Prod.fst ∘ hdp) (g := tot) ih]
theorem map_hdp (l : List Sc) : (l.map hdp).map Prod.fst = l.map tot := by
  rw [List.map_map]; exact List.map_congr_left (fun s _ => hdp_fst s)
theorem hd_eq (s : Sc) (a : Int) : hd s a = if 0 < s.t ∧ 0 < s.ev.length + (hds s.kids s.l).length then [⟨s.t, onc s, a, s.ev, hds s.kids s.l⟩] else [] := by
  obtain ⟨t, l, ev, kids⟩ := s
  show (hdp ⟨t, l, ev, kids⟩).2 a = _
  unfold hdp; rw [Sc.fold_eq]
  show (if 0 < t ∧ 0 < ev.length + (hdk (kids.map hdp) l).length then [(⟨t, l + sm ((kids.map hdp).map Prod.fst), a, ev, hdk (kids.map hdp) l⟩ : Pt)] else []) = _
  rw [map_hdp]; rfl
theorem hds_nil (a : Int) : hds [] a = [] := rfl
theorem hds_cons (s : Sc) (r : List Sc) (a : Int) : hds (s :: r) a = hd s a ++ hds r (a + tot s) := by
  show (hdp s).2 a ++ hdk (r.map hdp) (a + (hdp s).1) = _
  rw [hdp_fst]; rfl
theorem hds_append (x y : List Sc) (a : Int) : hds (x ++ y) a = hds x a ++ hds y (a + tots x) := by
  induction x generalizing a with
  | nil => rw [List.nil_append, hds_nil, tots_nil, Int.add_zero]; rfl
  | cons s r ih => rw [List.cons_append, hds_cons, hds_cons, ih, tots_cons, List.append_assoc, Int.add_assoc]
theorem hds_take {l : List Sc} {k : Nat} {s : Sc} (h : l[k]? = some s) (a : Int) : hds (l.take (k + 1)) a = hds (l.take k) a ++ hd s (a + tots (l.take k)) := by
  rw [take_one h, hds_append, hds_cons, hds_nil, List.append_nil]
theorem hd_len (s : Sc) (a : Int) : (hd s a).length ≤ 1 := by rw [hd_eq]; split <;> simp
theorem hds_len (l : List Sc) (a : Int) : (hds l a).length ≤ l.length := by
  induction l generalizing a with
  | nil => simp [hds_nil]
  | cons s r ih => rw [hds_cons, List.length_append, List.length_cons]; have := hd_len s a; have := ih (a + tot s); omega

/-- What is played of parts. -/
def pef (t o s : Int) (ev : List Ev) (ks : List (Int → List Ev)) (a : Int) : List Ev := tm (fun b => sh b ev ++ ks.flatMap (fun f => f b)) o t.toNat (a + s)
def pe : Pt → Int → List Ev := Pt.fold pef
def pes (l : List Pt) (a : Int) : List Ev := l.flatMap fun p => pe p a
/-- One time of a part. -/
def pon (p : Pt) (b : Int) : List Ev := sh b p.ev ++ pes p.kids b
theorem pe_eq (p : Pt) (a : Int) : pe p a = tm (pon p) p.o p.t.toNat (a + p.s) := by
  obtain ⟨t, o, s, ev, kids⟩ := p
  show Pt.fold pef ⟨t, o, s, ev, kids⟩ a = _
  rw [Pt.fold_eq]
  show tm (fun b => sh b ev ++ (kids.map pe).flatMap (fun f => f b)) o t.toNat (a + s) = _
  refine tm_congr (fun b => ?_) _ _ _
  rw [List.flatMap_map]; rfl
theorem pes_nil (a : Int) : pes [] a = [] := rfl
theorem pes_cons (p : Pt) (r : List Pt) (a : Int) : pes (p :: r) a = pe p a ++ pes r a := rfl
theorem pes_append (x y : List Pt) (a : Int) : pes (x ++ y) a = pes x a ++ pes y a := List.flatMap_append ..
theorem pes_take {l : List Pt} {k : Nat} {p : Pt} (h : l[k]? = some p) (a : Int) : pes (l.take (k + 1)) a = pes (l.take k) a ++ pe p a := by
  rw [take_one h, pes_append, pes_cons, pes_nil, List.append_nil]
theorem pes_hds' (l : List Sc) (H : ∀ s ∈ l, ∀ a b, pes (hd s a) b = pl s (b + a)) : ∀ a b, pes (hds l a) b = pls l (b + a) := by
  induction l with
  | nil => intro a b; rfl
  | cons s r ih =>
    intro a b
    rw [hds_cons, pes_append, H s (by simp), ih (fun s hs => H s (by simp [hs])), pls_cons, Int.add_assoc]
theorem pes_hd (s : Sc) : ∀ a b, pes (hd s a) b = pl s (b + a) := by
  induction s using Sc.ind with
  | h t l ev kids ih =>
    intro a b
    have hk := pes_hds' kids ih
    rw [hd_eq, pl_eq]
    simp only
    by_cases c : 0 < t ∧ 0 < ev.length + (hds kids l).length
    · rw [if_pos c, pes_cons, pes_nil, List.append_nil, pe_eq]
      refine tm_congr (fun x => ?_) _ _ _
      show sh x ev ++ pes (hds kids l) x = sh x ev ++ pls kids (x + l)
      rw [hk]
    · rw [if_neg c, pes_nil]
      by_cases ct : 0 < t
      · have c2 : ev.length = 0 ∧ (hds kids l).length = 0 := by omega
        have e1 := List.length_eq_zero_iff.1 c2.1
        have e2 := List.length_eq_zero_iff.1 c2.2
        refine (tm_nil (fun x => ?_) _ _ _).symm
        show sh x ev ++ pls kids (x + l) = []
        rw [← hk, e1, e2]; rfl
      · have : t.toNat = 0 := by omega
        rw [this]; rfl
/-- What is heard of the parts is what is played of the sections. -/
theorem pes_hds (l : List Sc) (a b : Int) : pes (hds l a) b = pls l (b + a) := pes_hds' l (fun s _ => pes_hd s) a b

/-- A part is one of a section that is right. -/
def Pok (p : Pt) : Prop := ∃ s a, Ok s ∧ hd s a = [p]
theorem hd_mem {s : Sc} {a : Int} {p : Pt} (h : p ∈ hd s a) : hd s a = [p] := by
  rw [hd_eq] at h ⊢
  split at h
  · rename_i c
    rw [if_pos c]
    simp at h
    rw [h]
  · simp at h
theorem hd_tot {s : Sc} {a : Int} {p : Pt} (h : hd s a = [p]) : p = ⟨s.t, onc s, a, s.ev, hds s.kids s.l⟩ ∧ 0 < s.t ∧ 0 < s.ev.length + (hds s.kids s.l).length := by
  rw [hd_eq] at h
  split at h
  · rename_i c
    simp at h
    exact ⟨h.symm, c⟩
  · simp at h
theorem hds_from (l : List Sc) : ∀ (a : Int) (p : Pt), p ∈ hds l a → ∃ s ∈ l, ∃ a', hd s a' = [p] := by
  induction l with
  | nil => intro a p h; simp [hds_nil] at h
  | cons s r ih =>
    intro a p h
    rw [hds_cons] at h
    rcases List.mem_append.1 h with h | h
    · exact ⟨s, by simp, a, hd_mem h⟩
    · obtain ⟨s', hs', a', e⟩ := ih _ p h
      exact ⟨s', by simp [hs'], a', e⟩
theorem hds_mem (l : List Sc) (H : ∀ s ∈ l, Ok s) : ∀ (a : Int) (p : Pt), p ∈ hds l a → Pok p ∧ a ≤ p.s ∧ p.s + p.t * p.o ≤ a + tots l := by
  induction l with
  | nil => intro a p h; simp [hds_nil] at h
  | cons s r ih =>
    intro a p h
    have hs := H s (by simp)
    have h0 := hs.fine.a0
    have hr := (pls_rng (l := r) (fun s hs => H s (by simp [hs])) 0).1
    rw [hds_cons] at h
    rw [tots_cons]
    rcases List.mem_append.1 h with h | h
    · have e := hd_mem h
      refine ⟨⟨s, a, hs, e⟩, ?_⟩
      obtain ⟨e2, _, _⟩ := hd_tot e
      subst e2
      have := tot_eq s
      simp only
      omega
    · obtain ⟨g1, g2, g3⟩ := ih (fun s hs => H s (by simp [hs])) (a + tot s) p h
      exact ⟨g1, by omega, by omega⟩
/-- What a part is like. -/
structure PFine (p : Pt) : Prop where
  t1 : 1 ≤ p.t
  t2 : p.t ≤ 65536
  o1 : 1 ≤ p.o
  o2 : p.t * p.o ≤ 1125899906842624
  inc : Inc 0 p.ev
  evl : p.ev.length ≤ 4096
  fit : ∀ e ∈ p.ev, e.t < p.o
  kids : ∀ k ∈ p.kids, Pok k ∧ 0 ≤ k.s ∧ k.s + k.t * k.o ≤ p.o
  rng : ∀ b, ∀ e ∈ pon p b, b ≤ e.t ∧ e.t < b + p.o
  kn : p.kids.length ≤ 256
theorem Pok.fine' (s : Sc) : ∀ a p, Ok s → hd s a = [p] → PFine p := by
  induction s using Sc.ind with
  | h t l ev kids ih =>
    intro a p hs h
    obtain ⟨e, ht, hn⟩ := hd_tot h
    have f := hs.fine
    simp only at e ht hn
    have hm := hds_mem kids f.kids l
    have k0 : 0 ≤ tots kids := f.k0
    have l0 : 0 ≤ l := f.l0
    have ho : onc ⟨t, l, ev, kids⟩ = l + tots kids := rfl
    have o1 : 1 ≤ onc ⟨t, l, ev, kids⟩ := by
      rw [ho]
      cases hE : ev with
      | cons x r =>
        have h1 : x.t < l := f.fit x (by show x ∈ ev; rw [hE]; simp)
        have h2 := inc_ge (inc_ev hs) x (by show x ∈ ev; rw [hE]; simp)
        omega
      | nil =>
        cases hK : hds kids l with
        | nil => rw [hE, hK] at hn; simp at hn
        | cons q r =>
          obtain ⟨⟨s', a', hs', e'⟩, g2, g3⟩ := hm q (by rw [hK]; simp)
          have hin := hds_from kids l q (by rw [hK]; simp)
          obtain ⟨s'', hs'', a'', e''⟩ := hin
          have pf := ih s'' hs'' a'' q (f.kids s'' hs'') e''
          have := pf.o1; have := pf.t1
          have : 1 ≤ q.t * q.o := by
            have h1 := pf.t1; have h2 := pf.o1
            have := Int.mul_le_mul h1 h2 (by omega) (by omega)
            omega
          omega
    have et := tot_eq ⟨t, l, ev, kids⟩
    have a1 := f.a1
    have kn : (hds kids l).length ≤ 256 := Nat.le_trans (hds_len kids l) f.many
    subst e
    refine ⟨ht, f.t1, o1, by simp only; rw [et] at a1; exact a1, inc_ev hs, ev_len hs, fun x hx => ?_, fun k hk => ?_, fun b x hx => ?_, kn⟩
    · have : x.t < l := f.fit x hx
      show x.t < onc _
      rw [ho]; omega
    · obtain ⟨g1, g2, g3⟩ := hm k hk
      refine ⟨g1, by omega, ?_⟩
      show k.s + k.t * k.o ≤ onc _
      rw [ho]; exact g3
    · have r1 := (pl_rng ⟨t, l, ev, kids⟩ hs b).1
      have e2 : pon ⟨t, onc ⟨t, l, ev, kids⟩, a, ev, hds kids l⟩ b = one ⟨t, l, ev, kids⟩ b := by
        show sh b ev ++ pes (hds kids l) b = sh b ev ++ pls kids (b + l)
        rw [pes_hds]
      rw [e2] at hx
      exact ⟨inc_ge r1.1 x hx, r1.2 x hx⟩
theorem Pok.fine {p : Pt} (h : Pok p) : PFine p := by
  obtain ⟨s, a, hs, e⟩ := h
  exact Pok.fine' s a p hs e
end Go.Proofs.Ytaohahahhjkcdah.X.M
