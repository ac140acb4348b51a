/- Tones, lines and changes as plain data (chapter 9). -/
import Derived.Test.YtpacfppnmenndaaQMath3
import Derived.Test.YtpacfppnmenndaaQMath2
namespace Go.Proofs.Ytpacfppnmenndaa.Y
set_option linter.unusedVariables false
set_option linter.unusedSimpArgs false

structure Tn where
  t : Int
  g : Int
  l : Int
  a : Int
  o : Int
theorem Tn.same {x y : Tn} (h1 : x.t = y.t) (h2 : x.g = y.g) (h3 : x.l = y.l) (h4 : x.a = y.a) (h5 : x.o = y.o) : x = y := by
  cases x; cases y; simp at h1 h2 h3 h4 h5; subst h1 h2 h3 h4 h5; rfl
def cm (x y : Int) : Int := if x < y then -1 else if y < x then 1 else 0
def cf (x y : Tn) : Int := if cm x.t y.t ≠ 0 then cm x.t y.t else if cm x.g y.g ≠ 0 then cm x.g y.g else if cm x.o y.o ≠ 0 then cm x.o y.o else if cm x.l y.l ≠ 0 then cm x.l y.l else cm x.a y.a
def lt (x y : Tn) : Bool := decide (x.t < y.t ∨ (x.t = y.t ∧ (x.g < y.g ∨ (x.g = y.g ∧ (x.o < y.o ∨ (x.o = y.o ∧ (x.l < y.l ∨ (x.l = y.l ∧ x.a < y.a))))))))
theorem cm_cases (x y : Int) : (x < y ∧ cm x y = -1) ∨ (y < x ∧ cm x y = 1) ∨ (x = y ∧ cm x y = 0) := by
  unfold cm
  by_cases h1 : x < y
  · left; simp [h1]
  · by_cases h2 : y < x
    · right; left; simp [h1, h2]
    · right; right; simp [h1, h2]; omega
theorem lt_iff (x y : Tn) : lt x y = true ↔ (x.t < y.t ∨ (x.t = y.t ∧ (x.g < y.g ∨ (x.g = y.g ∧ (x.o < y.o ∨ (x.o = y.o ∧ (x.l < y.l ∨ (x.l = y.l ∧ x.a < y.a)))))))) := by
  unfold lt; rw [decide_eq_true_iff]
theorem lt_no (x y : Tn) : lt x y = false ↔ ¬ (x.t < y.t ∨ (x.t = y.t ∧ (x.g < y.g ∨ (x.g = y.g ∧ (x.o < y.o ∨ (x.o = y.o ∧ (x.l < y.l ∨ (x.l = y.l ∧ x.a < y.a)))))))) := by
  unfold lt; rw [decide_eq_false_iff_not]
theorem cf_neg (x y : Tn) : decide (cf x y < 0) = lt x y := by
  unfold cf
  rcases cm_cases x.t y.t with ⟨h1, e1⟩ | ⟨h1, e1⟩ | ⟨h1, e1⟩
  · rw [(lt_iff x y).2 (by omega)]; rw [e1, if_pos (by decide)]; decide
  · rw [(lt_no x y).2 (by omega)]; rw [e1, if_pos (by decide)]; decide
  rw [e1, if_neg (by decide)]
  rcases cm_cases x.g y.g with ⟨h2, e2⟩ | ⟨h2, e2⟩ | ⟨h2, e2⟩
  · rw [(lt_iff x y).2 (by omega)]; rw [e2, if_pos (by decide)]; decide
  · rw [(lt_no x y).2 (by omega)]; rw [e2, if_pos (by decide)]; decide
  rw [e2, if_neg (by decide)]
  rcases cm_cases x.o y.o with ⟨h3, e3⟩ | ⟨h3, e3⟩ | ⟨h3, e3⟩
  · rw [(lt_iff x y).2 (by omega)]; rw [e3, if_pos (by decide)]; decide
  · rw [(lt_no x y).2 (by omega)]; rw [e3, if_pos (by decide)]; decide
  rw [e3, if_neg (by decide)]
  rcases cm_cases x.l y.l with ⟨h4, e4⟩ | ⟨h4, e4⟩ | ⟨h4, e4⟩
  · rw [(lt_iff x y).2 (by omega)]; rw [e4, if_pos (by decide)]; decide
  · rw [(lt_no x y).2 (by omega)]; rw [e4, if_pos (by decide)]; decide
  rw [e4, if_neg (by decide)]
  rcases cm_cases x.a y.a with ⟨h5, e5⟩ | ⟨h5, e5⟩ | ⟨h5, e5⟩
  · rw [(lt_iff x y).2 (by omega)]; rw [e5]; decide
  · rw [(lt_no x y).2 (by omega)]; rw [e5]; decide
  · rw [(lt_no x y).2 (by omega)]; rw [e5]; decide
theorem lt_irrefl (x : Tn) : lt x x = false := (lt_no x x).2 (by omega)
theorem lt_trans (x y z : Tn) (h1 : lt x y = true) (h2 : lt y z = true) : lt x z = true := by
  rw [lt_iff] at *; omega
theorem lt_ntrans (x y z : Tn) (h1 : lt x y = false) (h2 : lt y z = false) : lt x z = false := by
  rw [lt_no] at *; omega
theorem lt_anti (x y : Tn) (h1 : lt x y = false) (h2 : lt y x = false) : x = y := by
  rw [lt_no] at *
  have e1 : x.t = y.t := by omega
  have e2 : x.g = y.g := by omega
  have e3 : x.o = y.o := by omega
  have e4 : x.l = y.l := by omega
  have e5 : x.a = y.a := by omega
  exact Tn.same e1 e2 e4 e5 e3

/-- Lines. -/
def tab (T : Nat → Tn) (n : Nat) : List Tn := (List.range n).map T
theorem tab_len (T : Nat → Tn) (n : Nat) : (tab T n).length = n := by simp [tab]
theorem mem_tab {T : Nat → Tn} {n : Nat} {x : Tn} : x ∈ tab T n ↔ ∃ j, j < n ∧ T j = x := by simp [tab]
theorem tab_get (T : Nat → Tn) (n j : Nat) (h : j < (tab T n).length) : (tab T n)[j] = T j := by simp [tab]
theorem tab_eq {T U : Nat → Tn} {n : Nat} (h : tab T n = tab U n) (j : Nat) (hj : j < n) : T j = U j := by
  have h1 := tab_get T n j (by rw [tab_len]; exact hj)
  have h2 := tab_get U n j (by rw [tab_len]; exact hj)
  rw [← h1, ← h2]
  simp only [h]
theorem tab_ext {T U : Nat → Tn} {n : Nat} (h : ∀ j, j < n → T j = U j) : tab T n = tab U n := by
  unfold tab
  apply List.map_congr_left
  intro j hj
  exact h j (List.mem_range.1 hj)
theorem tab_map (f : Tn → Tn) (T : Nat → Tn) (n : Nat) : (tab T n).map f = tab (fun j => f (T j)) n := by
  unfold tab; rw [List.map_map]; rfl
def Ord (L : List Tn) : Prop := L.Pairwise (fun x y => lt y x = false)
theorem ord_one {L M : List Tn} (hp : L.Perm M) (h1 : Ord L) (h2 : Ord M) : L = M :=
  List.Perm.eq_of_pairwise (le := fun x y => lt y x = false) (fun a b _ _ h1 h2 => lt_anti a b h2 h1) h1 h2 hp
theorem ord_tab {T : Nat → Tn} {n : Nat} : Ord (tab T n) ↔ ∀ i j, i < j → j < n → lt (T j) (T i) = false := by
  unfold Ord
  rw [List.pairwise_iff_getElem]
  constructor
  · intro h i j hij hj
    have := h i j (by rw [tab_len]; omega) (by rw [tab_len]; omega) hij
    rw [tab_get, tab_get] at this
    exact this
  · intro h i j hi hj hij
    rw [tab_get, tab_get]
    rw [tab_len] at hj
    exact h i j hij hj

/-- The first number that is not 0. -/
def fst (f : Nat → Int) : Nat → Int
  | 0 => 0
  | n + 1 => if fst f n ≠ 0 then fst f n else f n
theorem fst_all {f : Nat → Int} {n : Nat} (h : ∀ j, j < n → f j = 0) : fst f n = 0 := by
  induction n with
  | zero => rfl
  | succ n ih => unfold fst; rw [if_neg (by rw [ih (fun j hj => h j (by omega))]; decide)]; exact h n (by omega)
theorem fst_zero {f : Nat → Int} {n : Nat} (h : fst f n = 0) : ∀ j, j < n → f j = 0 := by
  induction n with
  | zero => intro j hj; omega
  | succ n ih =>
    unfold fst at h
    by_cases h0 : fst f n = 0
    · rw [if_neg (by simp [h0])] at h
      intro j hj
      by_cases e : j = n
      · rw [e]; exact h
      · exact ih h0 j (by omega)
    · rw [if_pos h0] at h; exact absurd h h0
theorem fst_stop {f : Nat → Int} {n k : Nat} (hk : k < n) (h : ∀ j, j < k → f j = 0) (hne : f k ≠ 0) : fst f n = f k := by
  induction n with
  | zero => omega
  | succ n ih =>
    unfold fst
    by_cases e : k = n
    · subst e
      rw [if_neg (by rw [fst_all h]; decide)]
    · have h1 := ih (by omega)
      rw [h1, if_pos hne]
theorem fst_ext {f g : Nat → Int} {n : Nat} (h : ∀ j, j < n → f j = g j) : fst f n = fst g n := by
  induction n with
  | zero => rfl
  | succ n ih => unfold fst; rw [ih (fun j hj => h j (by omega)), h n (by omega)]

def okT (x : Tn) : Bool := decide (0 ≤ x.t ∧ x.t ≤ 1048576 ∧ 1 ≤ x.g ∧ x.g ≤ 1048576)
theorem okT_yes {x : Tn} (h : okT x = true) : 0 ≤ x.t ∧ x.t ≤ 1048576 ∧ 1 ≤ x.g ∧ x.g ≤ 1048576 := of_decide_eq_true h
theorem okT_no {x : Tn} (h : okT x = false) : ¬ (0 ≤ x.t ∧ x.t ≤ 1048576 ∧ 1 ≤ x.g ∧ x.g ≤ 1048576) := of_decide_eq_false h
theorem okT_mk {x : Tn} (h : 0 ≤ x.t ∧ x.t ≤ 1048576 ∧ 1 ≤ x.g ∧ x.g ≤ 1048576) : okT x = true := decide_eq_true h
def bfr (T : Nat → Tn) (j : Nat) : Bool := decide (0 < j) && lt (T j) (T (j - 1))
def cod (T : Nat → Tn) (j : Nat) : Int := if okT (T j) = false then 3 else if M.rt (T j).l (T j).a (T j).o = false then 2 else if bfr T j = true then 8 else 0
theorem cod_range {T : Nat → Tn} {j : Nat} (h : okT (T j) = false) : cod T j = 3 := by unfold cod; rw [if_pos h]
theorem cod_form {T : Nat → Tn} {j : Nat} (h : okT (T j) = true) (h2 : M.rt (T j).l (T j).a (T j).o = false) : cod T j = 2 := by unfold cod; rw [if_neg (by rw [h]; decide), if_pos h2]
theorem cod_fit {T : Nat → Tn} {j : Nat} (h : okT (T j) = true) (h2 : M.rt (T j).l (T j).a (T j).o = true) (h3 : bfr T j = true) : cod T j = 8 := by unfold cod; rw [if_neg (by rw [h]; decide), if_neg (by rw [h2]; decide), if_pos h3]
theorem cod_ok {T : Nat → Tn} {j : Nat} (h : okT (T j) = true) (h2 : M.rt (T j).l (T j).a (T j).o = true) (h3 : bfr T j = false) : cod T j = 0 := by unfold cod; rw [if_neg (by rw [h]; decide), if_neg (by rw [h2]; decide), if_neg (by rw [h3]; decide)]
theorem cod_zero {T : Nat → Tn} {j : Nat} (h : cod T j = 0) : okT (T j) = true ∧ M.rt (T j).l (T j).a (T j).o = true ∧ bfr T j = false := by
  unfold cod at h
  cases h1 : okT (T j)
  · rw [if_pos h1] at h; exact absurd h (by decide)
  · rw [if_neg (by rw [h1]; decide)] at h
    cases h2 : M.rt (T j).l (T j).a (T j).o
    · rw [if_pos h2] at h; exact absurd h (by decide)
    · rw [if_neg (by rw [h2]; decide)] at h
      cases h3 : bfr T j
      · exact ⟨rfl, rfl, rfl⟩
      · rw [if_pos h3] at h; exact absurd h (by decide)
def wr (T : Nat → Tn) (n : Nat) : Int := if 1024 < n then 5 else fst (cod T) n
theorem wr_many {T : Nat → Tn} {n : Nat} (h : 1024 < n) : wr T n = 5 := by unfold wr; rw [if_pos h]
theorem wr_few {T : Nat → Tn} {n : Nat} (h : n ≤ 1024) : wr T n = fst (cod T) n := by unfold wr; rw [if_neg (by omega)]
structure OkL (T : Nat → Tn) (n : Nat) : Prop where
  len : n ≤ 1024
  ok : ∀ j, j < n → okT (T j) = true
  rt : ∀ j, j < n → M.rt (T j).l (T j).a (T j).o = true
  ord : ∀ i j, i < j → j < n → lt (T j) (T i) = false
theorem wr_zero {T : Nat → Tn} {n : Nat} (h : wr T n = 0) : OkL T n := by
  by_cases hn : 1024 < n
  · rw [wr_many hn] at h; exact absurd h (by decide)
  rw [wr_few (by omega)] at h
  have hz := fun j hj => cod_zero (fst_zero h j hj)
  refine ⟨by omega, fun j hj => (hz j hj).1, fun j hj => (hz j hj).2.1, fun i j hij hj => ?_⟩
  have adj : ∀ q, 0 < q → q < n → lt (T q) (T (q - 1)) = false := fun q h0 hq => by
    have := (hz q hq).2.2
    unfold bfr at this
    rw [show decide (0 < q) = true by simp [h0]] at this
    simpa using this
  obtain ⟨d, rfl⟩ : ∃ d, j = i + 1 + d := ⟨j - i - 1, by omega⟩
  induction d with
  | zero => have := adj (i + 1) (by omega) (by omega); simpa using this
  | succ d ih =>
    have h1 := adj (i + 1 + (d + 1)) (by omega) hj
    rw [show i + 1 + (d + 1) - 1 = i + 1 + d by omega] at h1
    exact lt_ntrans _ _ _ h1 (ih (by omega) (by omega))
theorem wr_of {T : Nat → Tn} {n : Nat} (h : OkL T n) : wr T n = 0 := by
  rw [wr_few h.len]
  refine fst_all fun j hj => cod_ok (h.ok j hj) (h.rt j hj) ?_
  unfold bfr
  by_cases h0 : 0 < j
  · rw [h.ord (j - 1) j (by omega) hj]; simp
  · simp [h0]

def en (T : Nat → Tn) : Nat → Int
  | 0 => 0
  | n + 1 => if en T n < (T n).t + (T n).g then (T n).t + (T n).g else en T n
theorem en_nn (T : Nat → Tn) (n : Nat) : 0 ≤ en T n := by
  induction n with
  | zero => exact Int.le_refl 0
  | succ n ih => unfold en; split <;> omega
theorem en_ge (T : Nat → Tn) (n j : Nat) (hj : j < n) : (T j).t + (T j).g ≤ en T n := by
  induction n with
  | zero => omega
  | succ n ih =>
    unfold en
    by_cases e : j = n
    · subst e; split <;> omega
    · have := ih (by omega); split <;> omega
theorem en_le (T : Nat → Tn) (n : Nat) (E : Int) (h0 : 0 ≤ E) (h : ∀ j, j < n → (T j).t + (T j).g ≤ E) : en T n ≤ E := by
  induction n with
  | zero => exact h0
  | succ n ih =>
    have h1 := ih (fun j hj => h j (by omega))
    have h2 := h n (by omega)
    unfold en; split <;> omega
theorem en_bd {T : Nat → Tn} {n : Nat} (h : OkL T n) : 0 ≤ en T n ∧ en T n ≤ 2097152 :=
  ⟨en_nn T n, en_le T n _ (by omega) fun j hj => by have := okT_yes (h.ok j hj); omega⟩
theorem en_step_bd {T : Nat → Tn} {n k : Nat} (h : OkL T n) (hk : k ≤ n) : 0 ≤ en T k ∧ en T k ≤ 2097152 :=
  ⟨en_nn T k, en_le T k _ (by omega) fun j hj => by have := okT_yes (h.ok j (by omega)); omega⟩
theorem en_mem {T U : Nat → Tn} {n m : Nat} (h : ∀ x, x ∈ tab T n → ∃ y, y ∈ tab U m ∧ x.t + x.g = y.t + y.g) : en T n ≤ en U m :=
  en_le T n _ (en_nn U m) fun j hj => by
    obtain ⟨y, hy, e⟩ := h (T j) (mem_tab.2 ⟨j, hj, rfl⟩)
    obtain ⟨i, hi, rfl⟩ := mem_tab.1 hy
    rw [e]; exact en_ge U m i hi

structure Ch where
  back : Bool
  slow : Int
  mir : Bool
  xl : Int
  xa : Int
  xo : Int
  s : Int
  h : Int
  d : Int
def a1 (c : Ch) (E : Int) (x : Tn) : Int := if c.back = true then E - x.t - x.g else x.t
def pe (c : Ch) (l a o : Int) : Int := if c.mir = true then (if M.re l a o c.xl c.xa c.xo ≠ 0 then M.re l a o c.xl c.xa c.xo else M.me (M.rl l a o c.xl c.xa c.xo) (M.ra l a o c.xl c.xa c.xo) (M.ro l a o c.xl c.xa c.xo) c.s c.h) else M.me l a o c.s c.h
def px (c : Ch) (l a o : Int) : Int := if c.mir = true then M.ml (M.rl l a o c.xl c.xa c.xo) (M.ra l a o c.xl c.xa c.xo) (M.ro l a o c.xl c.xa c.xo) c.s c.h else M.ml l a o c.s c.h
def py (c : Ch) (l a o : Int) : Int := if c.mir = true then M.ma (M.rl l a o c.xl c.xa c.xo) (M.ra l a o c.xl c.xa c.xo) (M.ro l a o c.xl c.xa c.xo) c.s c.h else M.ma l a o c.s c.h
def pz (c : Ch) (l a o : Int) : Int := if c.mir = true then M.mo (M.rl l a o c.xl c.xa c.xo) (M.ra l a o c.xl c.xa c.xo) (M.ro l a o c.xl c.xa c.xo) c.s c.h else M.mo l a o c.s c.h
def far (c : Ch) (E : Int) (x : Tn) : Bool := decide (1048576 < c.slow * a1 c E x + c.d) || decide (1048576 < c.slow * x.g)
def ce (c : Ch) (E : Int) (x : Tn) : Int := if pe c x.l x.a x.o ≠ 0 then pe c x.l x.a x.o else if far c E x = true then 4 else 0
def cx (c : Ch) (E : Int) (x : Tn) : Tn := ⟨c.slow * a1 c E x + c.d, c.slow * x.g, px c x.l x.a x.o, py c x.l x.a x.o, pz c x.l x.a x.o⟩
def rng (c : Ch) : Bool := decide (1 ≤ c.slow ∧ c.slow ≤ 16 ∧ 0 ≤ c.d ∧ c.d ≤ 1048576)
theorem rng_yes {c : Ch} (h : rng c = true) : 1 ≤ c.slow ∧ c.slow ≤ 16 ∧ 0 ≤ c.d ∧ c.d ≤ 1048576 := of_decide_eq_true h
theorem rng_no {c : Ch} (h : rng c = false) : ¬ (1 ≤ c.slow ∧ c.slow ≤ 16 ∧ 0 ≤ c.d ∧ c.d ≤ 1048576) := of_decide_eq_false h
theorem rng_mk {c : Ch} (h : 1 ≤ c.slow ∧ c.slow ≤ 16 ∧ 0 ≤ c.d ∧ c.d ≤ 1048576) : rng c = true := decide_eq_true h
theorem ce_zero {c : Ch} {E : Int} {x : Tn} (h : ce c E x = 0) : pe c x.l x.a x.o = 0 ∧ far c E x = false := by
  unfold ce at h
  by_cases h1 : pe c x.l x.a x.o = 0
  · rw [if_neg (by simp [h1])] at h
    cases h2 : far c E x
    · exact ⟨h1, rfl⟩
    · rw [if_pos h2] at h; exact absurd h (by decide)
  · rw [if_pos h1] at h; exact absurd h h1
theorem ce_mk {c : Ch} {E : Int} {x : Tn} (h : pe c x.l x.a x.o = 0) (h2 : far c E x = false) : ce c E x = 0 := by
  unfold ce; rw [if_neg (by simp [h]), if_neg (by rw [h2]; decide)]
theorem far_no {c : Ch} {E : Int} {x : Tn} (h : far c E x = false) : c.slow * a1 c E x + c.d ≤ 1048576 ∧ c.slow * x.g ≤ 1048576 := by
  unfold far at h; simp at h; exact h
theorem far_mk {c : Ch} {E : Int} {x : Tn} (h : c.slow * a1 c E x + c.d ≤ 1048576 ∧ c.slow * x.g ≤ 1048576) : far c E x = false := by
  unfold far; simp; exact h
/-- What Apply answers as its error. -/
def ae (c : Ch) (T : Nat → Tn) (n : Nat) : Int := if wr T n ≠ 0 then wr T n else if rng c = false then 3 else fst (fun j => ce c (en T n) (T j)) n
theorem ae_wr {c : Ch} {T : Nat → Tn} {n : Nat} (h : wr T n ≠ 0) : ae c T n = wr T n := by unfold ae; rw [if_pos h]
theorem ae_rng {c : Ch} {T : Nat → Tn} {n : Nat} (h : wr T n = 0) (h2 : rng c = false) : ae c T n = 3 := by unfold ae; rw [if_neg (by simp [h]), if_pos h2]
theorem ae_fst {c : Ch} {T : Nat → Tn} {n : Nat} (h : wr T n = 0) (h2 : rng c = true) : ae c T n = fst (fun j => ce c (en T n) (T j)) n := by unfold ae; rw [if_neg (by simp [h]), if_neg (by rw [h2]; decide)]
theorem ae_zero {c : Ch} {T : Nat → Tn} {n : Nat} (h : ae c T n = 0) : OkL T n ∧ rng c = true ∧ ∀ j, j < n → ce c (en T n) (T j) = 0 := by
  by_cases h1 : wr T n = 0
  · cases h2 : rng c
    · rw [ae_rng h1 h2] at h; exact absurd h (by decide)
    · rw [ae_fst h1 h2] at h
      exact ⟨wr_zero h1, rfl, fst_zero h⟩
  · rw [ae_wr h1] at h; exact absurd h h1
theorem ae_mk {c : Ch} {T : Nat → Tn} {n : Nat} (h : OkL T n) (h2 : rng c = true) (h3 : ∀ j, j < n → ce c (en T n) (T j) = 0) : ae c T n = 0 := by
  rw [ae_fst (wr_of h) h2]; exact fst_all h3
end Go.Proofs.Ytpacfppnmenndaa.Y
