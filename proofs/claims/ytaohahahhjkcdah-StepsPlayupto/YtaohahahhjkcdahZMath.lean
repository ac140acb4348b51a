/- Events and bytes as plain functions: what is wrong, how events are packed, how bytes are read. -/
import Derived.Test.YtaohahahhjkcdahRows
namespace Go.Proofs.Ytaohahahhjkcdah.Z.M
set_option linter.unusedVariables false
set_option linter.unusedSimpArgs false

/-- An event. -/
structure Ev where
  t : Int
  k : Int
  c : Int
  a : Int
  b : Int
abbrev z0 : Ev := ⟨0, 0, 0, 0, 0⟩
def isK (k : Int) : Bool := decide (k = 8) || decide (k = 9) || decide (k = 11) || decide (k = 12) || decide (k = 14)
def Rg (e : Ev) : Prop := (0 ≤ e.c ∧ e.c ≤ 15) ∧ (0 ≤ e.a ∧ e.a ≤ 127) ∧ (0 ≤ e.b ∧ e.b ≤ 127) ∧ (e.k = 12 → e.b = 0)
/-- What is wrong with an event behind one at ah. -/
def we (e : Ev) (ah : Int) : Int :=
  if isK e.k = false then 1
  else if e.c < 0 ∨ 15 < e.c ∨ e.a < 0 ∨ 127 < e.a ∨ e.b < 0 ∨ 127 < e.b then 3
  else if e.k = 12 ∧ e.b ≠ 0 then 3
  else if e.t < ah then 8
  else if 268435455 < e.t - ah then 4
  else 0
theorem we_ok {e : Ev} {ah : Int} : we e ah = 0 ↔ isK e.k = true ∧ Rg e ∧ ah ≤ e.t ∧ e.t - ah ≤ 268435455 := by
  unfold we Rg
  constructor
  · intro h
    split at h
    · omega
    split at h
    · omega
    split at h
    · omega
    split at h
    · omega
    split at h
    · omega
    refine ⟨by simp_all, ?_, by omega, by omega⟩
    refine ⟨by omega, by omega, by omega, fun h => by simp_all⟩
  · rintro ⟨h1, ⟨h2, h3, h4, h5⟩, h6, h7⟩
    rw [if_neg (by simp [h1]), if_neg (by omega), if_neg (by rintro ⟨x, y⟩; exact y (h5 x)), if_neg (by omega), if_neg (by omega)]
def wl : Int → List Ev → Int
  | _, [] => 0
  | ah, e :: t => if we e ah = 0 then wl e.t t else we e ah
def wr (l : List Ev) : Int := if 4096 < l.length then 5 else wl 0 l
theorem wl_cons {ah : Int} {e : Ev} {t : List Ev} : wl ah (e :: t) = if we e ah = 0 then wl e.t t else we e ah := rfl
theorem wl_ok {ah : Int} {e : Ev} {t : List Ev} : wl ah (e :: t) = 0 ↔ we e ah = 0 ∧ wl e.t t = 0 := by
  rw [wl_cons]; split <;> simp_all
/-- The event ahead of what comes behind these. -/
def lst : Ev → List Ev → Ev
  | ah, [] => ah
  | _, e :: t => lst e t
theorem lst_snoc (ah : Ev) (l : List Ev) (e : Ev) : lst ah (l ++ [e]) = e := by
  induction l generalizing ah with
  | nil => rfl
  | cons x t ih => exact ih x
theorem wl_append {ah : Ev} {x y : List Ev} (h : wl ah.t (x ++ y) = 0) : wl ah.t x = 0 ∧ wl (lst ah x).t y = 0 := by
  induction x generalizing ah with
  | nil => exact ⟨rfl, h⟩
  | cons e t ih =>
    obtain ⟨h1, h2⟩ := wl_ok.1 h
    obtain ⟨h3, h4⟩ := ih h2
    exact ⟨wl_ok.2 ⟨h1, h3⟩, h4⟩
theorem wl_at {ah : Int} {l : List Ev} (h : wl ah l = 0) (h0 : 0 ≤ ah) : ∀ e ∈ l, isK e.k = true ∧ Rg e ∧ 0 ≤ e.t := by
  induction l generalizing ah with
  | nil => intro e he; simp at he
  | cons x t ih =>
    obtain ⟨h1, h2⟩ := wl_ok.1 h
    obtain ⟨q1, q2, q3, q4⟩ := we_ok.1 h1
    intro e he
    rcases List.mem_cons.1 he with rfl | he
    · exact ⟨q1, q2, by omega⟩
    · exact ih h2 (by omega) e he

/-- A wait's bytes. -/
def wt (n : Nat) : List Nat :=
  (if 0 < n / 2097152 then [128 + n / 2097152 % 128] else []) ++ ((if 0 < n / 16384 then [128 + n / 16384 % 128] else []) ++ ((if 0 < n / 128 then [128 + n / 128 % 128] else []) ++ [n % 128]))
/-- An event's bytes. -/
def eb (ah e : Ev) : List Nat := wt (e.t - ah.t).toNat ++ ((if e.k = ah.k ∧ e.c = ah.c then [] else [(16 * e.k + e.c).toNat]) ++ (e.a.toNat :: (if e.k = 12 then [] else [e.b.toNat])))
def pk : Ev → List Ev → List Nat
  | _, [] => []
  | ah, e :: t => eb ah e ++ pk e t
theorem pk_append (ah : Ev) (x y : List Ev) : pk ah (x ++ y) = pk ah x ++ pk (lst ah x) y := by
  induction x generalizing ah with
  | nil => rfl
  | cons e t ih => simp only [List.cons_append, pk, lst, ih e, List.append_assoc]
theorem pk_snoc (ah : Ev) (l : List Ev) (e : Ev) : pk ah (l ++ [e]) = pk ah l ++ eb (lst ah l) e := by
  rw [pk_append]; simp [pk]
theorem wt_len (n : Nat) : 1 ≤ (wt n).length ∧ (wt n).length ≤ 4 := by
  unfold wt
  split <;> split <;> split <;> simp
theorem eb_len (ah e : Ev) : 2 ≤ (eb ah e).length ∧ (eb ah e).length ≤ 7 := by
  have := wt_len (e.t - ah.t).toNat
  unfold eb
  split <;> split <;> simp <;> omega
theorem pk_len (ah : Ev) (l : List Ev) : (pk ah l).length ≤ 7 * l.length := by
  induction l generalizing ah with
  | nil => simp [pk]
  | cons e t ih => have := ih e; have := eb_len ah e; simp only [pk, List.length_append, List.length_cons]; omega

/-- A wait is read, in so many bytes at most. -/
def rw' : Nat → Nat → List Nat → Bool × Nat × List Nat
  | 0, acc, l => (false, 0, l)
  | j + 1, acc, [] => (false, 0, [])
  | j + 1, acc, c :: t =>
    if (j = 3 ∧ c = 128) ∨ (j = 0 ∧ 128 ≤ c) then (false, 0, c :: t)
    else if c < 128 then (true, acc * 128 + c % 128, t) else rw' j (acc * 128 + c % 128) t
/-- The kind and the channel are read. -/
def rh (ah : Ev) : List Nat → Bool × Int × Int × List Nat
  | [] => (false, 0, 0, [])
  | c :: t => if c < 128 then (isK ah.k, ah.k, ah.c, c :: t)
    else if isK ((c / 16 : Nat) : Int) = false ∨ (((c / 16 : Nat) : Int) = ah.k ∧ ((c % 16 : Nat) : Int) = ah.c) then (false, 0, 0, c :: t) else (true, ((c / 16 : Nat) : Int), ((c % 16 : Nat) : Int), t)
/-- A or B is read. -/
def rp : List Nat → Bool × Nat × List Nat
  | [] => (false, 0, [])
  | c :: t => if c < 128 then (true, c, t) else (false, 0, c :: t)
/-- An event is read. -/
def re (ah : Ev) (l : List Nat) : Bool × Ev × List Nat :=
  if (rw' 4 0 l).1 = false then (false, z0, (rw' 4 0 l).2.2)
  else if (rh ah (rw' 4 0 l).2.2).1 = false then (false, z0, (rh ah (rw' 4 0 l).2.2).2.2.2)
  else if (rp (rh ah (rw' 4 0 l).2.2).2.2.2).1 = false then (false, z0, (rp (rh ah (rw' 4 0 l).2.2).2.2.2).2.2)
  else if (rh ah (rw' 4 0 l).2.2).2.1 = 12 then (true, ⟨ah.t + ((rw' 4 0 l).2.1 : Nat), (rh ah (rw' 4 0 l).2.2).2.1, (rh ah (rw' 4 0 l).2.2).2.2.1, ((rp (rh ah (rw' 4 0 l).2.2).2.2.2).2.1 : Nat), 0⟩, (rp (rh ah (rw' 4 0 l).2.2).2.2.2).2.2)
  else if (rp (rp (rh ah (rw' 4 0 l).2.2).2.2.2).2.2).1 = false then (false, z0, (rp (rp (rh ah (rw' 4 0 l).2.2).2.2.2).2.2).2.2)
  else (true, ⟨ah.t + ((rw' 4 0 l).2.1 : Nat), (rh ah (rw' 4 0 l).2.2).2.1, (rh ah (rw' 4 0 l).2.2).2.2.1, ((rp (rh ah (rw' 4 0 l).2.2).2.2.2).2.1 : Nat), ((rp (rp (rh ah (rw' 4 0 l).2.2).2.2.2).2.2).2.1 : Nat)⟩, (rp (rp (rh ah (rw' 4 0 l).2.2).2.2.2).2.2).2.2)
/-- Events are read, so many at most. -/
def un : Nat → Ev → List Nat → List Ev × Int × List Nat
  | _, _, [] => ([], 0, [])
  | 0, _, c :: t => ([], 5, c :: t)
  | f + 1, ah, c :: t =>
    if (re ah (c :: t)).1 = false then ([], 2, (re ah (c :: t)).2.2)
    else if (un f (re ah (c :: t)).2.1 (re ah (c :: t)).2.2).2.1 = 0 then ((re ah (c :: t)).2.1 :: (un f (re ah (c :: t)).2.1 (re ah (c :: t)).2.2).1, 0, [])
    else ([], (un f (re ah (c :: t)).2.1 (re ah (c :: t)).2.2).2)
/-- What is read behind other events. -/
def pre (x : List Ev) (r : List Ev × Int × List Nat) : List Ev × Int × List Nat := if r.2.1 = 0 then (x ++ r.1, 0, []) else ([], r.2)
theorem un_nil (f : Nat) (ah : Ev) : un f ah [] = ([], 0, []) := by cases f <;> rfl
theorem un_many {ah : Ev} {l : List Nat} (h : l ≠ []) : un 0 ah l = ([], 5, l) := by
  cases l with
  | nil => exact absurd rfl h
  | cons c t => rfl
theorem un_bad {f : Nat} {ah : Ev} {l : List Nat} (h : l ≠ []) (hr : (re ah l).1 = false) : un (f + 1) ah l = ([], 2, (re ah l).2.2) := by
  cases l with
  | nil => exact absurd rfl h
  | cons c t => rw [un, if_pos hr]
theorem un_on {f : Nat} {ah : Ev} {l : List Nat} (h : l ≠ []) (hr : (re ah l).1 = true) : un (f + 1) ah l = pre [(re ah l).2.1] (un f (re ah l).2.1 (re ah l).2.2) := by
  cases l with
  | nil => exact absurd rfl h
  | cons c t => rw [un, if_neg (by rw [hr]; decide)]; rfl
theorem pre_pre (x y : List Ev) (r : List Ev × Int × List Nat) : pre x (pre y r) = pre (x ++ y) r := by
  unfold pre
  by_cases h : r.2.1 = 0
  · simp [h]
  · simp [h]
theorem un_rest (f : Nat) (ah : Ev) (l : List Nat) : (un f ah l).2.1 = 0 → (un f ah l).2.2 = [] := by
  induction f generalizing ah l with
  | zero => cases l <;> simp [un]
  | succ f ih =>
    cases l with
    | nil => simp [un]
    | cons c t =>
      rw [un]
      split
      · simp
      · split
        · simp
        · intro h; contradiction
theorem pre_nil {f : Nat} {ah : Ev} {l : List Nat} (h : (un f ah l).2.1 ≠ 0 → (un f ah l).1 = []) : pre [] (un f ah l) = un f ah l := by
  have := un_rest f ah l
  unfold pre
  split
  · rename_i h0
    rw [← this h0, ← h0]; rfl
  · rename_i h0
    rw [← h h0]
theorem un_none (f : Nat) (ah : Ev) (l : List Nat) : (un f ah l).2.1 ≠ 0 → (un f ah l).1 = [] := by
  induction f generalizing ah l with
  | zero => cases l <;> simp [un]
  | succ f ih =>
    cases l with
    | nil => simp [un]
    | cons c t =>
      rw [un]
      split
      · simp
      · split
        · simp
        · intro h; rfl
theorem pre_un (f : Nat) (ah : Ev) (l : List Nat) : pre [] (un f ah l) = un f ah l := pre_nil (un_none f ah l)
theorem rp_len (l : List Nat) : (rp l).1 = true → (rp l).2.2.length + 1 = l.length := by
  cases l with
  | nil => simp [rp]
  | cons c t => simp only [rp]; split <;> simp
theorem rh_len (ah : Ev) (l : List Nat) : (rh ah l).2.2.2.length ≤ l.length := by
  cases l with
  | nil => simp [rh]
  | cons c t => simp only [rh]; split <;> (try split) <;> simp
theorem rw_len (j acc : Nat) (l : List Nat) : (rw' j acc l).1 = true → (rw' j acc l).2.2.length < l.length := by
  induction j generalizing acc l with
  | zero => simp [rw']
  | succ j ih =>
    cases l with
    | nil => simp [rw']
    | cons c t =>
      simp only [rw']
      split
      · simp
      · split
        · simp
        · intro h; have := ih _ _ h; simp; omega
theorem re_len (ah : Ev) (l : List Nat) : (re ah l).1 = true → (re ah l).2.2.length < l.length := by
  unfold re
  split
  · simp
  split
  · simp
  split
  · simp
  rename_i h1 h2 h3
  have g1 := rw_len 4 0 l (by simpa using h1)
  have g2 := rh_len ah (rw' 4 0 l).2.2
  have g3 := rp_len (rh ah (rw' 4 0 l).2.2).2.2.2 (by simpa using h3)
  split
  · intro _; simp only; omega
  split
  · simp
  rename_i h4 h5
  have g5 := rp_len (rp (rh ah (rw' 4 0 l).2.2).2.2.2).2.2 (by simpa using h5)
  intro _; simp only; omega
end Go.Proofs.Ytaohahahhjkcdah.Z.M
