/- The codec in plain words: the document's frame, sample by sample. -/
import Derived.Test.YtdlcnbfiklbiiaaCo23
import Derived.Test.YtdlcnbfiklbiiaaCoMath4
namespace Go.Proofs.Ytdlcnbfiklbiiaa.Co
set_option linter.unusedVariables false
set_option linter.unusedSimpArgs false

theorem va_zero (r : List Nat) (h : ∀ x ∈ r, x = 0) : va r = 0 := by
  induction r with
  | nil => rfl
  | cons b t ih => rw [va_cons, ih (fun x hx => h x (List.mem_cons_of_mem _ hx)), h b (List.mem_cons_self ..)]; simp
theorem va_one (r : List Nat) (h : 1 ∈ r) : va r ≠ 0 := by
  induction r with
  | nil => cases h
  | cons b t ih =>
    rw [va_cons]
    have hp := Nat.two_pow_pos t.length
    rcases List.mem_cons.1 h with q | q
    · rw [← q, Nat.one_mul]; omega
    · have := ih q; omega
theorem en0_zero (l : List Nat) (a : Nat) (hb : bits2 l) (h1 : l.length - a ≤ 7) (h : ∀ i, a ≤ i → i < l.length → l.getD i 0 ≠ 1) : en0 (l.drop a) = true := by
  unfold en0
  rw [List.length_drop, va_zero]
  · simp; omega
  · intro x hx
    obtain ⟨i, hi, e⟩ := List.getElem_of_mem hx
    rw [List.length_drop] at hi
    rw [List.getElem_drop] at e
    have h2 := h (a + i) (by omega) (by omega)
    have h3 := getD_lt2 l hb (a + i)
    rw [List.getD_eq_getElem?_getD, List.getElem?_eq_getElem (show a + i < l.length by omega)] at h2 h3
    have h4 : l[a + i] ≠ 1 := h2
    have h5 : l[a + i] < 2 := h3
    omega
theorem en0_one (l : List Nat) (a i : Nat) (h1 : a ≤ i) (h2 : i < l.length) (h : l.getD i 0 = 1) : en0 (l.drop a) = false := by
  unfold en0
  have hm : (1 : Nat) ∈ l.drop a := by
    rw [List.getD_eq_getElem?_getD, List.getElem?_eq_getElem h2] at h
    have h4 : l[i] = 1 := h
    have h5 : (l.drop a)[i - a]? = some 1 := by rw [List.getElem?_drop, show a + (i - a) = i by omega, List.getElem?_eq_getElem h2, h4]
    exact List.mem_of_getElem? h5
  have := va_one _ hm
  simp [this]
theorem en0_long (l : List Nat) (a : Nat) (h : 7 < l.length - a) : en0 (l.drop a) = false := by
  unfold en0
  rw [List.length_drop, decide_eq_false (by omega)]; rfl
/-- A frame's head. -/
theorem rn_split (r : List Nat) (a b : Nat) (ha : (rn a r).1 = true) (hb : (rn b (rn a r).2.2).1 = true) : rn (a + b) r = (true, (rn a r).2.1 * 2 ^ b + (rn b (rn a r).2.2).2.1, (rn b (rn a r).2.2).2.2) := by
  by_cases c : a ≤ r.length
  · rw [rn_yes c] at hb ⊢
    simp only at hb ⊢
    by_cases d : b ≤ (r.drop a).length
    · rw [rn_yes d]
      rw [List.length_drop] at d
      rw [rn_yes (by omega)]
      rw [List.drop_drop, List.take_add]
      refine congrArg (Prod.mk true) (congrArg (fun x => (x, r.drop (a + b))) ?_)
      unfold va
      rw [List.foldl_append, foldl_va]
      rw [List.length_take, List.length_drop, Nat.min_eq_left (by omega)]; rfl
    · rw [rn_no d] at hb; cases hb
  · rw [rn_no c] at ha; cases ha
theorem rn_split1 (r : List Nat) (a b : Nat) (ha : (rn a r).1 = false) : (rn (a + b) r).1 = false := by
  by_cases c : a ≤ r.length
  · rw [rn_yes c] at ha; cases ha
  · rw [rn_no (by omega)]
theorem rn_split2 (r : List Nat) (a b : Nat) (ha : (rn a r).1 = true) (hb : (rn b (rn a r).2.2).1 = false) : (rn (a + b) r).1 = false := by
  by_cases c : a ≤ r.length
  · rw [rn_yes c] at hb
    simp only at hb
    by_cases d : b ≤ (r.drop a).length
    · rw [rn_yes d] at hb; cases hb
    · rw [List.length_drop] at d
      rw [rn_no (by omega)]
  · rw [rn_no c] at ha; cases ha
theorem head_no1 (l : List Nat) (a : Nat) (o' : List Int) (L : Nat) (ha : a ≤ l.length) (h : (tk l a 2).2.2 = false) : rr o' L (l.drop a) = none := by
  have e := tk_rn l a 2 ha
  rw [e.1] at h
  have h6 := rn_split1 (l.drop a) 2 4 h
  unfold rr
  rw [show (6 : Nat) = 2 + 4 from rfl, if_neg (by rw [h6]; decide)]
theorem head_no2 (l : List Nat) (a : Nat) (o' : List Int) (L : Nat) (ha : a ≤ l.length) (h : (tk l a 2).2.2 = true) (h2 : (tk l (tk l a 2).2.1 4).2.2 = false) : rr o' L (l.drop a) = none := by
  have e := tk_rn l a 2 ha
  have e2 := tk_rn l (tk l a 2).2.1 4 (tk_le l a 2 ha).1
  rw [e2.1, e.2.2 h] at h2
  rw [e.1] at h
  have h6 := rn_split2 (l.drop a) 2 4 h h2
  unfold rr
  rw [show (6 : Nat) = 2 + 4 from rfl, if_neg (by rw [h6]; decide)]
theorem head_yes (l : List Nat) (a : Nat) (o' : List Int) (L : Nat) (hb : bits2 l) (ha : a ≤ l.length) (h : (tk l a 2).2.2 = true) (h2 : (tk l (tk l a 2).2.1 4).2.2 = true) : rr o' L (l.drop a) = rs (tk l a 2).1 (tk l (tk l a 2).2.1 4).1 L o' 0 (l.drop (tk l (tk l a 2).2.1 4).2.1) := by
  have e := tk_rn l a 2 ha
  have e2 := tk_rn l (tk l a 2).2.1 4 (tk_le l a 2 ha).1
  have e3 := e2.2.2 h2
  have e4 := e2.2.1
  have l4 := tk_lt l (tk l a 2).2.1 4 hb
  rw [e2.1, e.2.2 h] at h2
  rw [e.2.2 h] at e3 e4
  rw [e.1] at h
  have h6 := rn_split (l.drop a) 2 4 h h2
  rw [show (2 : Nat) + 4 = 6 from rfl] at h6
  unfold rr
  rw [h6, if_pos rfl, e3, e4, e.2.1]
  rw [e4] at l4
  have d1 : ((rn 2 (l.drop a)).2.1 * 2 ^ 4 + (rn 4 (rn 2 (l.drop a)).2.2).2.1) / 16 = (rn 2 (l.drop a)).2.1 := by omega
  have d2 : ((rn 2 (l.drop a)).2.1 * 2 ^ 4 + (rn 4 (rn 2 (l.drop a)).2.2).2.1) % 16 = (rn 4 (rn 2 (l.drop a)).2.2).2.1 := by omega
  simp only
  rw [d1, d2]
/-- What holds at each sample of a frame. -/
structure FI (l : List Nat) (o k L : Nat) (RS : Option (List Int × List Nat)) (o' p : List Int) (m q : Nat) (okb : Bool) : Prop where
  le : m ≤ L
  len : p.length = m
  at' : q ≤ l.length
  yes : okb = true → (∀ x ∈ p, inR x) ∧ RS = rs o k (L - m) (o' ++ p) m (l.drop q)
  no : okb = false → RS = none
/-- What one sample comes to. -/
structure D1 (l : List Nat) (o k : Nat) (o' p : List Int) (m q : Nat) (Y : Int) (Q2 : Nat) (K2 : Bool) : Prop where
  at' : Q2 ≤ l.length
  ok : (K2 && sok Y) = (r1 o k (o' ++ p) m (l.drop q)).1
  eq : (K2 && sok Y) = true → Y = (r1 o k (o' ++ p) m (l.drop q)).2.1 ∧ l.drop Q2 = (r1 o k (o' ++ p) m (l.drop q)).2.2
theorem FI.next {l : List Nat} {o k L : Nat} {RS : Option (List Int × List Nat)} {o' p : List Int} {m q : Nat} {Y : Int} {Q2 : Nat} {K2 : Bool} (h : FI l o k L RS o' p m q true) (hm : m < L) (d : D1 l o k o' p m q Y Q2 K2) : FI l o k L RS o' (p ++ [Y]) (m + 1) Q2 (K2 && sok Y) := by
  have hy := h.yes rfl
  obtain ⟨g, hg⟩ : ∃ g, L - m = g + 1 := ⟨L - m - 1, by omega⟩
  have hR := hy.2
  rw [hg, rs_step] at hR
  refine ⟨hm, by rw [List.length_append, h.len]; rfl, d.at', fun e => ?_, fun e => ?_⟩
  · have e2 := d.eq e
    rw [d.ok] at e
    rw [if_pos e] at hR
    refine ⟨fun x hx => ?_, ?_⟩
    · rcases List.mem_append.1 hx with q' | q'
      · exact hy.1 x q'
      · simp at q'
        rw [q', ← sok_iff]
        have e3 := d.ok
        rw [e] at e3
        exact (Bool.and_eq_true _ _ ▸ e3).2
    · rw [hR, e2.2, ← e2.1, show L - (m + 1) = g by omega, List.append_assoc]
  · rw [d.ok] at e
    rw [if_neg (by rw [e]; decide)] at hR
    exact hR
theorem D1.first (l : List Nat) (o k : Nat) (o' p : List Int) (m q : Nat) (hb : bits2 l) (hq : q ≤ l.length) (hmo : m < o) : D1 l o k o' p m q (((tk l q 16).1 : Int) - 32768) (tk l q 16).2.1 (tk l q 16).2.2 := by
  have e := tk_rn l q 16 hq
  have hlt := tk_lt l q 16 hb
  have hs : sok (((tk l q 16).1 : Int) - 32768) = true := by rw [sok_iff]; constructor <;> omega
  refine ⟨(tk_le l q 16 hq).1, ?_, fun h => ?_⟩
  · rw [r1_first hmo, hs, Bool.and_true]; exact e.1
  · rw [hs, Bool.and_true] at h
    rw [r1_first hmo]
    exact ⟨by rw [e.2.1], e.2.2 h⟩
theorem D1.other (l : List Nat) (o k u : Nat) (o' p : List Int) (m q : Nat) (hb : bits2 l) (hq : q ≤ l.length) (hmo : ¬ m < o) (hk : k ≤ 15) (hp : ∀ x ∈ p, inR x) (hm : p.length = m) (hu : Ones l q u) : D1 l o k o' p m q (ge p m o + un (ri l q k u).1) (ri l q k u).2.1 (ri l q k u).2.2 := by
  have hg := ge_in p hp m o
  have hge : ge (o' ++ p) (o' ++ p).length o = ge p m o := by
    have := ge_pre o' p [] o (by omega)
    rw [List.append_nil, hm] at this; exact this
  have e := ri_rf l q k u (ge p m o) hb hu hk hg.1 hg.2
  refine ⟨ri_le l q k u hu.on, ?_, fun h => ?_⟩
  · rw [r1_next hmo, hge]; exact e.1
  · have e2 := e.2 h
    rw [r1_next hmo, hge]
    exact ⟨by rw [e2.1], e2.2⟩
end Go.Proofs.Ytdlcnbfiklbiiaa.Co
