/- Takes as plain data (chapter 20). -/
import Derived.Test.YtpacfppnmenndaaYMath
import Derived.Test.YtpacfppnmenndaaProg
namespace Go.Proofs.Ytpacfppnmenndaa.Tk
open Go.Proofs.Ytpacfppnmenndaa.Y
set_option linter.unusedVariables false
set_option linter.unusedSimpArgs false

def z0 : Tn := ⟨0, 0, 0, 0, 0⟩
/-- A line as a function. -/
def fn (L : List Tn) (j : Nat) : Tn := L.getD j z0
theorem fn_get {L : List Tn} {j : Nat} {x : Tn} (h : L[j]? = some x) : fn L j = x := by unfold fn; rw [List.getD_eq_getElem?_getD, h]; rfl
theorem fn_lt {L : List Tn} {j : Nat} (h : j < L.length) : L[j]? = some (fn L j) := by unfold fn; rw [List.getD_eq_getElem?_getD, List.getElem?_eq_getElem h]; rfl
/-- An edit. -/
structure Ed where
  k : Int
  n : Int
  t : Tn
/-- Lines that were made; how many of them stand. -/
structure Hs where
  vs : List (List Tn)
  st : Nat
def Hs.line (h : Hs) : List Tn := if h.st = 0 then [] else h.vs.getD (h.st - 1) []
/-- What is wrong with a tone alone. -/
def wt (t : Tn) : Int := if okT t = false then 3 else if M.rt t.l t.a t.o = false then 2 else 0
theorem wt_is (t : Tn) : wr (fun _ => t) 1 = wt t := by
  rw [wr_few (by omega)]
  have h0 : fst (cod fun _ => t) 1 = cod (fun _ => t) 0 := by
    show (if fst (cod fun _ => t) 0 ≠ 0 then fst (cod fun _ => t) 0 else cod (fun _ => t) 0) = _
    rw [if_neg (by show ¬ (0 : Int) ≠ 0; decide)]
  rw [h0]
  unfold cod wt
  have : bfr (fun _ => t) 0 = false := by unfold bfr; simp
  rw [this]; simp
theorem wt_ok {t : Tn} (h : wt t = 0) : okT t = true ∧ M.rt t.l t.a t.o = true := by
  unfold wt at h
  cases h1 : okT t
  · rw [if_pos h1] at h; exact absurd h (by decide)
  · rw [if_neg (by rw [h1]; decide)] at h
    cases h2 : M.rt t.l t.a t.o
    · rw [if_pos h2] at h; exact absurd h (by decide)
    · exact ⟨rfl, rfl⟩
/-- Where a tone comes to stand. -/
def ps (t : Tn) (L : List Tn) : Nat := L.findIdx (fun x => lt t x)
theorem ps_le (t : Tn) (L : List Tn) : ps t L ≤ L.length := List.findIdx_le_length
theorem ps_lo {t : Tn} {L : List Tn} {j : Nat} (h : j < ps t L) : lt t (fn L j) = false := by
  have hl : j < L.length := Nat.lt_of_lt_of_le h (ps_le t L)
  have := List.not_of_lt_findIdx h
  rw [show fn L j = L[j] by exact fn_get (List.getElem?_eq_getElem hl)]
  simpa using this
theorem ps_at {t : Tn} {L : List Tn} (h : ps t L < L.length) : lt t (fn L (ps t L)) = true := by
  have := List.findIdx_getElem (w := h)
  rw [show fn L (ps t L) = L[ps t L] by exact fn_get (List.getElem?_eq_getElem h)]
  exact this
theorem ps_is {t : Tn} {L : List Tn} {k : Nat} (hk : k ≤ L.length) (h1 : ∀ j, j < k → lt t (fn L j) = false) (h2 : k < L.length → lt t (fn L k) = true) : k = ps t L := by
  rcases Nat.lt_trichotomy k (ps t L) with h | h | h
  · have hl := Nat.lt_of_lt_of_le h (ps_le t L)
    rw [ps_lo h] at h2
    exact absurd (h2 hl) (by decide)
  · exact h
  · have := ps_at (t := t) (L := L) (by omega)
    rw [h1 _ h] at this
    exact absurd this (by decide)
def put (L : List Tn) (t : Tn) : List Tn := L.take (ps t L) ++ t :: L.drop (ps t L)
theorem put_len (L : List Tn) (t : Tn) : (put L t).length = L.length + 1 := by
  have := ps_le t L
  unfold put; simp; omega
theorem put_perm (L : List Tn) (t : Tn) : (put L t).Perm (t :: L) := by
  unfold put
  refine List.perm_middle.trans ?_
  rw [List.take_append_drop]
/-- A line that is right. -/
def Rt (L : List Tn) : Prop := L.length ≤ 1024 ∧ (∀ x ∈ L, wt x = 0) ∧ Y.Ord L
theorem Rt.at {L : List Tn} (h : Rt L) {j : Nat} (hj : j < L.length) : wt (fn L j) = 0 := h.2.1 _ (List.mem_of_getElem? (fn_lt hj))
theorem Rt.ord {L : List Tn} (h : Rt L) {i j : Nat} (hij : i < j) (hj : j < L.length) : lt (fn L j) (fn L i) = false := by
  have h1 := List.pairwise_iff_getElem.1 h.2.2 i j (by omega) hj hij
  rw [show fn L i = L[i] by exact fn_get (List.getElem?_eq_getElem (by omega)), show fn L j = L[j] by exact fn_get (List.getElem?_eq_getElem hj)]
  exact h1
/-- What stands behind t stands behind it further on too. -/
theorem Rt.mono {L : List Tn} (h : Rt L) {t : Tn} {i j : Nat} (hij : i ≤ j) (hj : j < L.length) (hi : lt t (fn L i) = true) : lt t (fn L j) = true := by
  rcases Nat.lt_or_eq_of_le hij with h1 | h1
  · cases e : lt t (fn L j)
    · have := lt_ntrans _ _ _ e (h.ord h1 hj)
      rw [hi] at this; exact absurd this (by decide)
    · rfl
  · rw [← h1]; exact hi
theorem Rt.nil : Rt [] := ⟨Nat.zero_le _, (fun x h => by simp at h), List.Pairwise.nil⟩
theorem Rt.putt {L : List Tn} (h : Rt L) {t : Tn} (ht : wt t = 0) (hl : L.length < 1024) : Rt (put L t) := by
  refine ⟨by rw [put_len]; omega, fun x hx => ?_, ?_⟩
  · rcases List.mem_cons.1 ((put_perm L t).mem_iff.1 hx) with e | e
    · rw [e]; exact ht
    · exact h.2.1 x e
  · unfold put Y.Ord
    have hs : List.Pairwise (fun x y => lt y x = false) (L.take (ps t L) ++ L.drop (ps t L)) := by rw [List.take_append_drop]; exact h.2.2
    rw [List.pairwise_append] at hs ⊢
    have ha : ∀ x ∈ L.take (ps t L), lt t x = false := fun x hx => by
      obtain ⟨j, hj, e⟩ := List.getElem_of_mem hx
      rw [List.length_take] at hj
      have := ps_lo (t := t) (L := L) (j := j) (by omega)
      rw [List.getElem_take] at e
      rw [← e, ← show fn L j = L[j] by exact fn_get (List.getElem?_eq_getElem (by omega))]
      exact this
    have hb : ∀ x ∈ L.drop (ps t L), lt x t = false := fun x hx => by
      obtain ⟨j, hj, e⟩ := List.getElem_of_mem hx
      rw [List.length_drop] at hj
      rw [List.getElem_drop] at e
      have h1 := h.mono (i := ps t L) (j := ps t L + j) (by omega) (by omega) (ps_at (by omega))
      rw [show fn L (ps t L + j) = x by rw [← e]; exact fn_get (List.getElem?_eq_getElem (by omega))] at h1
      cases e2 : lt x t
      · rfl
      · have := lt_trans _ _ _ h1 e2
        rw [lt_irrefl] at this; exact absurd this (by decide)
    refine ⟨hs.1, ?_, fun x hx y hy => ?_⟩
    · rw [List.pairwise_cons]
      exact ⟨hb, hs.2.1⟩
    · rcases List.mem_cons.1 hy with e | e
      · rw [e]; exact ha x hx
      · exact hs.2.2 x hx y e
theorem Rt.cut {L : List Tn} (h : Rt L) (n : Nat) : Rt (L.eraseIdx n) := by
  refine ⟨Nat.le_trans (List.length_eraseIdx_le L n) h.1, fun x hx => h.2.1 x ((List.eraseIdx_sublist L n).mem hx), List.Pairwise.sublist (List.eraseIdx_sublist L n) h.2.2⟩
/-- What is wrong with an edit. -/
def er (h : Hs) (e : Ed) : Int :=
  if e.k = 1 then (if wt e.t ≠ 0 then wt e.t else if h.line.length = 1024 then 5 else 0)
  else if e.k = 2 then (if e.n < 0 ∨ (h.line.length : Int) ≤ e.n then 3 else 0)
  else if e.k = 3 then (if h.st = 0 then 6 else 0)
  else if e.k = 4 then (if h.st = h.vs.length then 6 else 0)
  else 1
/-- One more line that stands. -/
def Hs.add (h : Hs) (L : List Tn) : Hs := ⟨h.vs.take h.st ++ [L], h.st + 1⟩
/-- What an edit makes. -/
def nx (h : Hs) (e : Ed) : Hs :=
  if e.k = 1 then h.add (put h.line e.t)
  else if e.k = 2 then h.add (h.line.eraseIdx e.n.toNat)
  else if e.k = 3 then ⟨h.vs, h.st - 1⟩
  else ⟨h.vs, h.st + 1⟩
structure HOk (h : Hs) : Prop where
  st : h.st ≤ h.vs.length
  rt : ∀ L ∈ h.vs, Rt L
theorem HOk.zero : HOk ⟨[], 0⟩ := ⟨Nat.le_refl _, fun L h => by simp at h⟩
theorem HOk.line {h : Hs} (hk : HOk h) : Rt h.line := by
  unfold Hs.line
  by_cases h0 : h.st = 0
  · rw [if_pos h0]; exact Rt.nil
  · rw [if_neg h0]
    have := hk.st
    have hl : h.st - 1 < h.vs.length := by omega
    rw [List.getD_eq_getElem?_getD, List.getElem?_eq_getElem hl]
    exact hk.rt _ (List.getElem_mem hl)
theorem Hs.line_at {h : Hs} (hk : HOk h) (h0 : 0 < h.st) : h.vs[h.st - 1]? = some h.line := by
  have := hk.st
  unfold Hs.line
  rw [if_neg (by omega), List.getD_eq_getElem?_getD, List.getElem?_eq_getElem (by omega)]; rfl
theorem HOk.add {h : Hs} (hk : HOk h) {L : List Tn} (hL : Rt L) : HOk (h.add L) := by
  have := hk.st
  refine ⟨by show h.st + 1 ≤ (h.vs.take h.st ++ [L]).length; simp; omega, fun M hM => ?_⟩
  rcases List.mem_append.1 hM with e | e
  · exact hk.rt M (List.mem_of_mem_take e)
  · rw [List.mem_singleton.1 e]; exact hL
theorem Hs.add_line {h : Hs} (hk : HOk h) (L : List Tn) : (h.add L).line = L := by
  have := hk.st
  unfold Hs.line Hs.add
  rw [if_neg (by simp), List.getD_eq_getElem?_getD, List.getElem?_append_right (by simp; omega)]
  simp [show h.st - min h.st h.vs.length = 0 by omega]
theorem er_put {h : Hs} {e : Ed} (h1 : e.k = 1) : er h e = if wt e.t ≠ 0 then wt e.t else if h.line.length = 1024 then 5 else 0 := by unfold er; rw [if_pos h1]
theorem er_cut {h : Hs} {e : Ed} (h1 : e.k = 2) : er h e = if e.n < 0 ∨ (h.line.length : Int) ≤ e.n then 3 else 0 := by unfold er; rw [if_neg (by omega), if_pos h1]
theorem er_undo {h : Hs} {e : Ed} (h1 : e.k = 3) : er h e = if h.st = 0 then 6 else 0 := by unfold er; rw [if_neg (by omega), if_neg (by omega), if_pos h1]
theorem er_redo {h : Hs} {e : Ed} (h1 : e.k = 4) : er h e = if h.st = h.vs.length then 6 else 0 := by unfold er; rw [if_neg (by omega), if_neg (by omega), if_neg (by omega), if_pos h1]
theorem er_kind {h : Hs} {e : Ed} (h1 : e.k ≠ 1) (h2 : e.k ≠ 2) (h3 : e.k ≠ 3) (h4 : e.k ≠ 4) : er h e = 1 := by unfold er; rw [if_neg h1, if_neg h2, if_neg h3, if_neg h4]
theorem nx_put {h : Hs} {e : Ed} (h1 : e.k = 1) : nx h e = h.add (put h.line e.t) := by unfold nx; rw [if_pos h1]
theorem nx_cut {h : Hs} {e : Ed} (h1 : e.k = 2) : nx h e = h.add (h.line.eraseIdx e.n.toNat) := by unfold nx; rw [if_neg (by omega), if_pos h1]
theorem nx_undo {h : Hs} {e : Ed} (h1 : e.k = 3) : nx h e = ⟨h.vs, h.st - 1⟩ := by unfold nx; rw [if_neg (by omega), if_neg (by omega), if_pos h1]
theorem nx_redo {h : Hs} {e : Ed} (h1 : e.k = 4) : nx h e = ⟨h.vs, h.st + 1⟩ := by unfold nx; rw [if_neg (by omega), if_neg (by omega), if_neg (by omega)]
theorem er_kinds {h : Hs} {e : Ed} (h0 : er h e = 0) : e.k = 1 ∨ e.k = 2 ∨ e.k = 3 ∨ e.k = 4 := by
  by_cases h1 : e.k = 1
  · exact .inl h1
  by_cases h2 : e.k = 2
  · exact .inr (.inl h2)
  by_cases h3 : e.k = 3
  · exact .inr (.inr (.inl h3))
  by_cases h4 : e.k = 4
  · exact .inr (.inr (.inr h4))
  · rw [er_kind h1 h2 h3 h4] at h0; exact absurd h0 (by decide)
theorem HOk.nx {h : Hs} (hk : HOk h) {e : Ed} (h0 : er h e = 0) : HOk (nx h e) := by
  have hs := hk.st
  rcases er_kinds h0 with h1 | h1 | h1 | h1
  · rw [er_put h1] at h0
    rw [nx_put h1]
    have ht : wt e.t = 0 := by
      by_cases c : wt e.t = 0
      · exact c
      · rw [if_pos c] at h0; exact absurd h0 c
    rw [if_neg (by simp [ht])] at h0
    have hl : h.line.length ≠ 1024 := fun c => by rw [if_pos c] at h0; exact absurd h0 (by decide)
    exact hk.add (hk.line.putt ht (by have := hk.line.1; omega))
  · rw [nx_cut h1]; exact hk.add (hk.line.cut _)
  · rw [nx_undo h1]; exact ⟨by show h.st - 1 ≤ h.vs.length; omega, hk.rt⟩
  · rw [er_redo h1] at h0
    have hl : h.st ≠ h.vs.length := fun c => by rw [if_pos c] at h0; exact absurd h0 (by decide)
    rw [nx_redo h1]; exact ⟨by show h.st + 1 ≤ h.vs.length; omega, hk.rt⟩
/-- What a kind names of an edit. -/
def pe (e : Ed) : Ed := if e.k = 1 then ⟨e.k, 0, e.t⟩ else if e.k = 2 then ⟨e.k, e.n, z0⟩ else ⟨e.k, 0, z0⟩
theorem pe_put {e : Ed} (h : e.k = 1) : pe e = ⟨e.k, 0, e.t⟩ := by unfold pe; rw [if_pos h]
theorem pe_cut {e : Ed} (h : e.k = 2) : pe e = ⟨e.k, e.n, z0⟩ := by unfold pe; rw [if_neg (by omega), if_pos h]
theorem pe_else {e : Ed} (h : e.k ≠ 1) (h2 : e.k ≠ 2) : pe e = ⟨e.k, 0, z0⟩ := by unfold pe; rw [if_neg h, if_neg h2]
theorem pe_k (e : Ed) : (pe e).k = e.k := by unfold pe; split; rfl; split <;> rfl
theorem er_pe (h : Hs) (e : Ed) : er h (pe e) = er h e := by
  by_cases h1 : e.k = 1
  · rw [er_put h1, er_put (by rw [pe_k]; exact h1), pe_put h1]
  by_cases h2 : e.k = 2
  · rw [er_cut h2, er_cut (by rw [pe_k]; exact h2), pe_cut h2]
  · unfold er; rw [pe_k, if_neg h1, if_neg h2, if_neg h1, if_neg h2]
theorem nx_pe (h : Hs) (e : Ed) : nx h (pe e) = nx h e := by
  by_cases h1 : e.k = 1
  · rw [nx_put h1, nx_put (by rw [pe_k]; exact h1), pe_put h1]
  by_cases h2 : e.k = 2
  · rw [nx_cut h2, nx_cut (by rw [pe_k]; exact h2), pe_cut h2]
  · unfold nx; rw [pe_k, if_neg h1, if_neg h2, if_neg h1, if_neg h2]
/-- An edit's words; its record. -/
def re (e : Ed) : List Int := [1, e.k, e.n, e.t.t, e.t.g, e.t.l, e.t.a, e.t.o]
def rc (e : Ed) : List Int := re (pe e)
theorem rc_len (e : Ed) : (rc e).length = 8 := rfl
def wd (ws : List Int) (i : Nat) : Int := ws.getD i 0
/-- What lies on a disk from a word on. -/
def de (ws : List Int) (a : Nat) : Ed := ⟨wd ws (a + 1), wd ws (a + 2), ⟨wd ws (a + 3), wd ws (a + 4), wd ws (a + 5), wd ws (a + 6), wd ws (a + 7)⟩⟩
def sl (ws : List Int) (a : Nat) : List Int := [wd ws a, wd ws (a + 1), wd ws (a + 2), wd ws (a + 3), wd ws (a + 4), wd ws (a + 5), wd ws (a + 6), wd ws (a + 7)]
/-- Does a record count there? -/
abbrev cnt (ws : List Int) (h : Hs) (d : Nat) : Prop := d * 8 + 8 ≤ ws.length ∧ sl ws (d * 8) = rc (de ws (d * 8)) ∧ er h (de ws (d * 8)) = 0
/-- All records from number d on. -/
def lies (ws : List Int) : Nat → Hs → Nat → Hs × Nat
  | 0, h, d => (h, d)
  | f + 1, h, d => if cnt ws h d then lies ws f (nx h (de ws (d * 8))) (d + 1) else (h, d)
def opn (ws : List Int) : Hs × Nat := lies ws 1024 ⟨[], 0⟩ 0
theorem lies_ok (ws : List Int) : ∀ (f : Nat) (h : Hs) (d : Nat), HOk h → HOk (lies ws f h d).1 := by
  intro f
  induction f with
  | zero => intro h d hk; exact hk
  | succ f ih =>
    intro h d hk
    unfold lies
    split
    · rename_i c
      exact ih _ _ (hk.nx c.2.2)
    · exact hk
theorem lies_le (ws : List Int) : ∀ (f : Nat) (h : Hs) (d : Nat), (lies ws f h d).2 ≤ d + f := by
  intro f
  induction f with
  | zero => intro h d; exact Nat.le_refl _
  | succ f ih =>
    intro h d
    unfold lies
    split
    · have := ih (nx h (de ws (d * 8))) (d + 1); omega
    · show d ≤ _; omega
/-- Words put one by one while there is power. -/
def pts : List (Nat × Int) → List Int → Int → (List Int × Int) × Bool
  | [], ws, lf => ((ws, lf), true)
  | x :: p, ws, lf => if lf = 0 then ((ws, lf), false) else pts p (ws.set x.1 x.2) (if 0 < lf then lf - 1 else lf)
/-- What is put for a record. -/
def pl (a : Nat) (r : List Int) : List (Nat × Int) := (a, 0) :: ((List.range 7).map fun i => (a + (i + 1), r.getD (i + 1) 0)) ++ [(a, r.getD 0 0)]
theorem pts_len (p : List (Nat × Int)) : ∀ (ws : List Int) (lf : Int), (pts p ws lf).1.1.length = ws.length := by
  induction p with
  | nil => intro ws lf; rfl
  | cons x p ih =>
    intro ws lf
    unfold pts
    split
    · rfl
    · rw [ih]; exact List.length_set
/-- A take; a disk. -/
structure Ta where
  h : Hs
  d : Nat
  br : Bool
structure Dk where
  ws : List Int
  lf : Int
/-- An edit is done. -/
def doe (s : Ta) (k : Dk) (e : Ed) : Int × Ta × Dk :=
  if s.br = true then (9, s, k)
  else if er s.h e ≠ 0 then (er s.h e, s, k)
  else if ¬ (s.d < 1024 ∧ s.d * 8 + 8 ≤ k.ws.length) then (4, s, k)
  else if (pts (pl (s.d * 8) (rc e)) k.ws k.lf).2 = true then (0, ⟨nx s.h e, s.d + 1, false⟩, ⟨(pts (pl (s.d * 8) (rc e)) k.ws k.lf).1.1, (pts (pl (s.d * 8) (rc e)) k.ws k.lf).1.2⟩)
  else (11, ⟨⟨[], 0⟩, 0, true⟩, ⟨(pts (pl (s.d * 8) (rc e)) k.ws k.lf).1.1, (pts (pl (s.d * 8) (rc e)) k.ws k.lf).1.2⟩)
/-- A step; what came of it. -/
structure Sp where
  op : Bool
  e : Ed
  pw : Int
  pk : Int
  wd : Int
structure Tk where
  er : Int
  te : Int
  l : List Tn
def dk1 (k : Dk) (x : Sp) : Dk := if x.pw ≠ 0 then ⟨k.ws, IntKind.i64.wrap (x.pw - 1)⟩ else k
def dk2 (k : Dk) (x : Sp) : Dk := if 0 < x.pk ∧ x.pk ≤ k.ws.length then ⟨k.ws.set (x.pk - 1).toNat x.wd, k.lf⟩ else k
def op1 (s : Ta) (ws : List Int) (x : Sp) : Ta := if x.op = true then ⟨(opn ws).1, (opn ws).2, false⟩ else s
def ed1 (s : Ta) (k : Dk) (x : Sp) : Int × Ta × Dk := if x.e.k ≠ 0 then doe s k x.e else (0, s, k)
def out1 (er : Int) (s : Ta) : Tk := ⟨er, if s.br = true then 9 else 0, if s.br = true then [] else s.h.line⟩
def stp (s : Ta × Dk) (x : Sp) : Int × Ta × Dk := ed1 (op1 s.1 (dk2 (dk1 s.2 x) x).ws x) (dk2 (dk1 s.2 x) x) x
def rst (s : Ta × Dk) (l : List Sp) : Ta × Dk := l.foldl (fun s x => (stp s x).2) s
def ros : Ta × Dk → List Sp → List Tk
  | _, [] => []
  | s, x :: l => out1 (stp s x).1 (stp s x).2.1 :: ros (stp s x).2 l
theorem rst_app (s : Ta × Dk) (l : List Sp) (x : Sp) : rst s (l ++ [x]) = (stp (rst s l) x).2 := by simp [rst]
theorem ros_app (s : Ta × Dk) (l : List Sp) (x : Sp) : ros s (l ++ [x]) = ros s l ++ [out1 (stp (rst s l) x).1 (stp (rst s l) x).2.1] := by
  induction l generalizing s with
  | nil => rfl
  | cons y l ih => simp only [List.cons_append, ros]; rw [ih]; rfl
theorem ros_len (s : Ta × Dk) (l : List Sp) : (ros s l).length = l.length := by
  induction l generalizing s with
  | nil => rfl
  | cons y l ih => simp [ros, ih]
/-- A take that is as it must be. -/
structure TOk (s : Ta) : Prop where
  h : HOk s.h
  d : s.d ≤ 1024
  v : s.h.vs.length ≤ s.d
  b : s.br = true → s.h = ⟨[], 0⟩ ∧ s.d = 0
def new (ws : List Int) : Ta := ⟨(opn ws).1, (opn ws).2, false⟩
end Go.Proofs.Ytpacfppnmenndaa.Tk
