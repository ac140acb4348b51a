/- A dither in plain words: sum by sum, piece by piece. -/
import Derived.RowKit
namespace Go.Proofs.Ytdlcnbfiklbiiaa.Mx
set_option linter.unusedSimpArgs false
set_option linter.unusedVariables false

/-- A dither: its seed, its rest, how loud it was, how much was too great. -/
structure Dt where
  seed : Nat
  rest : Int
  loud : Int
  clip : Nat
def sd (s : Nat) : Nat := (1013904223 + 1664525 * s) % 4294967296
def raw (s : Dt) (x : Int) : Int := (x + s.rest + ((sd s.seed / 65536 : Nat) : Int)) / 65536
def cut (n : Int) : Int := if 32767 < n then 32767 else if n < -32768 then -32768 else n
def ab (n : Int) : Int := if n < 0 then -n else n
def mx (a b : Int) : Int := if a < b then b else a
def nxt (s : Dt) (x : Int) : Dt :=
  ⟨sd s.seed, if cut (raw s x) = raw s x then x + s.rest - 65536 * raw s x else 0, mx s.loud (ab (cut (raw s x))), if cut (raw s x) = raw s x then s.clip else s.clip + 1⟩
def outs (s : Dt) : List Int → List Int
  | [] => []
  | x :: l => cut (raw s x) :: outs (nxt s x) l
def sts (s : Dt) : List Int → Dt
  | [] => s
  | x :: l => sts (nxt s x) l
theorem sts_app (s : Dt) (a b : List Int) : sts s (a ++ b) = sts (sts s a) b := by
  induction a generalizing s with
  | nil => rfl
  | cons x a ih => exact ih (nxt s x)
theorem outs_app (s : Dt) (a b : List Int) : outs s (a ++ b) = outs s a ++ outs (sts s a) b := by
  induction a generalizing s with
  | nil => rfl
  | cons x a ih => exact congrArg (cut (raw s x) :: ·) (ih (nxt s x))
theorem outs_len (s : Dt) (a : List Int) : (outs s a).length = a.length := by
  induction a generalizing s with
  | nil => rfl
  | cons x a ih => exact congrArg (· + 1) (ih (nxt s x))
theorem take_one {α : Type} {l : List α} {k : Nat} {x : α} (h : l[k]? = some x) : l.take (k + 1) = l.take k ++ [x] := by
  obtain ⟨hl, he⟩ := List.getElem?_eq_some_iff.1 h
  rw [List.take_succ_eq_append_getElem hl, he]
theorem outs_step (s : Dt) {l : List Int} {k : Nat} {x : Int} (h : l[k]? = some x) : outs s (l.take (k + 1)) = outs s (l.take k) ++ [cut (raw (sts s (l.take k)) x)] := by
  rw [take_one h, outs_app]; rfl
theorem sts_step (s : Dt) {l : List Int} {k : Nat} {x : Int} (h : l[k]? = some x) : sts s (l.take (k + 1)) = nxt (sts s (l.take k)) x := by
  rw [take_one h, sts_app]; rfl
/-- What holds of every dither. -/
structure Gd (s : Dt) : Prop where
  seed : s.seed < 4294967296
  r1 : -65536 < s.rest
  r2 : s.rest < 65536
  l1 : 0 ≤ s.loud
  l2 : s.loud ≤ 32768
theorem sd_lt (s : Nat) : sd s < 4294967296 := Nat.mod_lt _ (by decide)
theorem cut_bd (n : Int) : -32768 ≤ cut n ∧ cut n ≤ 32767 := by
  unfold cut; split
  · omega
  · split <;> omega
theorem ab_bd {n : Int} (h1 : -32768 ≤ n) (h2 : n ≤ 32767) : 0 ≤ ab n ∧ ab n ≤ 32768 := by
  unfold ab; split <;> omega
theorem mx_bd {a b c : Int} (h1 : 0 ≤ a) (h2 : a ≤ c) (h4 : b ≤ c) : 0 ≤ mx a b ∧ mx a b ≤ c := by
  unfold mx; split <;> omega
theorem raw_eq (s : Dt) (x : Int) : ∃ m : Int, 0 ≤ m ∧ m < 65536 ∧ x + s.rest + ((sd s.seed / 65536 : Nat) : Int) = 65536 * raw s x + m := by
  refine ⟨(x + s.rest + ((sd s.seed / 65536 : Nat) : Int)) % 65536, Int.emod_nonneg _ (by decide), Int.emod_lt_of_pos _ (by decide), ?_⟩
  unfold raw
  have := Int.mul_ediv_add_emod (x + s.rest + ((sd s.seed / 65536 : Nat) : Int)) 65536
  omega
theorem noise_lt (s : Nat) : sd s / 65536 < 65536 := by have := sd_lt s; omega
theorem nxt_gd {s : Dt} (h : Gd s) (x : Int) : Gd (nxt s x) := by
  obtain ⟨m, m0, m1, me⟩ := raw_eq s x
  have n1 := noise_lt s.seed
  obtain ⟨c1, c2⟩ := cut_bd (raw s x)
  obtain ⟨a1, a2⟩ := ab_bd c1 c2
  obtain ⟨x1, x2⟩ := mx_bd h.l1 h.l2 a2
  refine ⟨sd_lt _, ?_, ?_, x1, x2⟩
  · show -65536 < (if cut (raw s x) = raw s x then x + s.rest - 65536 * raw s x else 0)
    split <;> omega
  · show (if cut (raw s x) = raw s x then x + s.rest - 65536 * raw s x else 0) < 65536
    split <;> omega
theorem sts_gd {s : Dt} (h : Gd s) (l : List Int) : Gd (sts s l) := by
  induction l generalizing s with
  | nil => exact h
  | cons x l ih => exact ih (nxt_gd h x)
theorem nxt_clip (s : Dt) (x : Int) : s.clip ≤ (nxt s x).clip ∧ (nxt s x).clip ≤ s.clip + 1 := by
  show s.clip ≤ (if cut (raw s x) = raw s x then s.clip else s.clip + 1) ∧ (if cut (raw s x) = raw s x then s.clip else s.clip + 1) ≤ s.clip + 1
  split <;> omega
theorem sts_clip (s : Dt) (l : List Int) : s.clip ≤ (sts s l).clip ∧ (sts s l).clip ≤ s.clip + l.length := by
  induction l generalizing s with
  | nil => exact ⟨Nat.le_refl _, Nat.le_refl _⟩
  | cons x l ih =>
    have h1 := nxt_clip s x
    have h2 := ih (nxt s x)
    show s.clip ≤ (sts (nxt s x) l).clip ∧ (sts (nxt s x) l).clip ≤ s.clip + (l.length + 1)
    omega
def new (seed : Nat) : Dt := ⟨seed, 0, 0, 0⟩
theorem new_gd {z : Nat} (h : z < 4294967296) : Gd (new z) := ⟨h, by show -65536 < (0 : Int); decide, by show (0 : Int) < 65536; decide, by show (0 : Int) ≤ 0; decide, by show (0 : Int) ≤ 32768; decide⟩
/-- A sum is within what tracks can be together. -/
def inB (m x : Int) : Bool := !(decide (x < -m) || decide (m < x))
def inR (m : Int) (l : List Int) : Bool := l.all (inB m)
theorem inB_iff {m x : Int} : inB m x = true ↔ -m ≤ x ∧ x ≤ m := by
  unfold inB
  simp only [Bool.not_eq_true', Bool.or_eq_false_iff, decide_eq_false_iff_not]
  omega
theorem inR_mem {m : Int} {l : List Int} (h : inR m l = true) {x : Int} (hx : x ∈ l) : -m ≤ x ∧ x ≤ m := inB_iff.1 (List.all_eq_true.1 h x hx)
abbrev mS : Int := 4503599627370496
/-- What came of a piece. -/
structure Pr where
  l : List Int
  e : Int
  loud : Int
  clip : Nat
def pst (s : Dt) (p : List Int) : Dt := if inR mS p = true then sts s p else s
def prr (s : Dt) (p : List Int) : Pr := if inR mS p = true then ⟨outs s p, 0, (sts s p).loud, (sts s p).clip⟩ else ⟨[], 3, s.loud, s.clip⟩
def stn (s : Dt) : List (List Int) → Dt
  | [] => s
  | p :: ps => stn (pst s p) ps
def dth (s : Dt) : List (List Int) → List Pr
  | [] => []
  | p :: ps => prr s p :: dth (pst s p) ps
theorem stn_app (s : Dt) (a b : List (List Int)) : stn s (a ++ b) = stn (stn s a) b := by
  induction a generalizing s with
  | nil => rfl
  | cons x a ih => exact ih (pst s x)
theorem dth_app (s : Dt) (a b : List (List Int)) : dth s (a ++ b) = dth s a ++ dth (stn s a) b := by
  induction a generalizing s with
  | nil => rfl
  | cons x a ih => exact congrArg (prr s x :: ·) (ih (pst s x))
theorem dth_len (s : Dt) (a : List (List Int)) : (dth s a).length = a.length := by
  induction a generalizing s with
  | nil => rfl
  | cons x a ih => exact congrArg (· + 1) (ih (pst s x))
theorem dth_step (s : Dt) {l : List (List Int)} {k : Nat} {x : List Int} (h : l[k]? = some x) : dth s (l.take (k + 1)) = dth s (l.take k) ++ [prr (stn s (l.take k)) x] := by
  rw [take_one h, dth_app]; rfl
theorem stn_step (s : Dt) {l : List (List Int)} {k : Nat} {x : List Int} (h : l[k]? = some x) : stn s (l.take (k + 1)) = pst (stn s (l.take k)) x := by
  rw [take_one h, stn_app]; rfl
theorem dth_get (s : Dt) {l : List (List Int)} {k : Nat} {x : List Int} (h : l[k]? = some x) : (dth s l)[k]? = some (prr (stn s (l.take k)) x) := by
  have hk : k < l.length := (List.getElem?_eq_some_iff.1 h).1
  have e : l = l.take (k + 1) ++ l.drop (k + 1) := (List.take_append_drop _ _).symm
  have e2 : dth s l = (dth s (l.take k) ++ [prr (stn s (l.take k)) x]) ++ dth (stn s (l.take (k + 1))) (l.drop (k + 1)) := by
    rw [← dth_step s h, ← dth_app, ← e]
  have hl : (dth s (l.take k)).length = k := by rw [dth_len, List.length_take]; omega
  rw [e2, List.getElem?_append_left (by simp [hl]), List.getElem?_append_right (by omega), hl]
  simp
theorem pst_gd {s : Dt} (h : Gd s) (p : List Int) : Gd (pst s p) := by
  unfold pst; split
  · exact sts_gd h p
  · exact h
theorem stn_gd {s : Dt} (h : Gd s) (ps : List (List Int)) : Gd (stn s ps) := by
  induction ps generalizing s with
  | nil => exact h
  | cons p ps ih => exact ih (pst_gd h p)
theorem pst_clip (s : Dt) (p : List Int) : s.clip ≤ (pst s p).clip ∧ (pst s p).clip ≤ s.clip + p.length := by
  unfold pst; split
  · exact sts_clip s p
  · omega
def tlen (ps : List (List Int)) : Nat := (ps.map List.length).sum
theorem stn_clip (s : Dt) (ps : List (List Int)) : s.clip ≤ (stn s ps).clip ∧ (stn s ps).clip ≤ s.clip + tlen ps := by
  induction ps generalizing s with
  | nil => exact ⟨Nat.le_refl _, Nat.le_add_right _ _⟩
  | cons p ps ih =>
    have h1 := pst_clip s p
    have h2 := ih (pst s p)
    have h3 : tlen (p :: ps) = p.length + tlen ps := by simp [tlen]
    show s.clip ≤ (stn (pst s p) ps).clip ∧ (stn (pst s p) ps).clip ≤ s.clip + tlen (p :: ps)
    omega
theorem tlen_app (a b : List (List Int)) : tlen (a ++ b) = tlen a + tlen b := by simp [tlen]
theorem tlen_take (ps : List (List Int)) (k : Nat) : tlen (ps.take k) ≤ tlen ps := by
  conv => rhs; rw [← List.take_append_drop k ps]
  rw [tlen_app]; omega
theorem tlen_flat (ps : List (List Int)) : ps.flatten.length = tlen ps := by simp [tlen, List.length_flatten]
/-! Blocks. -/
theorem inR_flat (m : Int) (ps : List (List Int)) : inR m ps.flatten = ps.all (inR m) := by
  induction ps with
  | nil => rfl
  | cons p ps ih => rw [List.flatten_cons, List.all_cons, ← ih]; simp [inR, List.all_append]
theorem stn_flat (s : Dt) (ps : List (List Int)) (h : inR mS ps.flatten = true) : stn s ps = sts s ps.flatten := by
  induction ps generalizing s with
  | nil => rfl
  | cons p ps ih =>
    rw [inR_flat] at h
    simp only [List.all_cons, Bool.and_eq_true] at h
    have e : pst s p = sts s p := by unfold pst; rw [if_pos h.1]
    show stn (pst s p) ps = _
    rw [e, ih _ (by rw [inR_flat]; exact h.2), List.flatten_cons, sts_app]
theorem dth_flat (s : Dt) (ps : List (List Int)) (h : inR mS ps.flatten = true) : ((dth s ps).map (·.l)).flatten = outs s ps.flatten := by
  induction ps generalizing s with
  | nil => rfl
  | cons p ps ih =>
    rw [inR_flat] at h
    simp only [List.all_cons, Bool.and_eq_true] at h
    have e : pst s p = sts s p := by unfold pst; rw [if_pos h.1]
    have e2 : (prr s p).l = outs s p := by unfold prr; rw [if_pos h.1]
    show (((prr s p) :: dth (pst s p) ps).map (·.l)).flatten = _
    rw [List.map_cons, List.flatten_cons, e2, e, ih _ (by rw [inR_flat]; exact h.2), List.flatten_cons, outs_app]
theorem prr_e (s : Dt) (p : List Int) : (prr s p).e = if inR mS p = true then 0 else 3 := by
  unfold prr; split <;> rfl
/-! What is told is, on the whole, what was told. -/
def sm : List Int → Int
  | [] => 0
  | x :: l => x + sm l
theorem sm_app (a b : List Int) : sm (a ++ b) = sm a + sm b := by
  induction a with
  | nil => simp [sm]
  | cons x a ih => show x + sm (a ++ b) = x + sm a + sm b; omega
theorem one_ok {s : Dt} (h : Gd s) {x : Int} (hc : (nxt s x).clip = s.clip) : x - 65536 * cut (raw s x) = (nxt s x).rest - s.rest ∧ -4294967296 ≤ x ∧ x ≤ 4294967296 := by
  have e : cut (raw s x) = raw s x := by
    have : (if cut (raw s x) = raw s x then s.clip else s.clip + 1) = s.clip := hc
    by_cases q : cut (raw s x) = raw s x
    · exact q
    · rw [if_neg q] at this; omega
  obtain ⟨m, m0, m1, me⟩ := raw_eq s x
  have n1 := noise_lt s.seed
  obtain ⟨c1, c2⟩ := cut_bd (raw s x)
  have h1 := h.r1
  have h2 := h.r2
  have e2 : (nxt s x).rest = x + s.rest - 65536 * raw s x := by
    show (if cut (raw s x) = raw s x then x + s.rest - 65536 * raw s x else 0) = _
    rw [if_pos e]
  rw [e2, e]
  rw [e] at c1 c2
  omega
theorem all_ok {s : Dt} (h : Gd s) (l : List Int) (hc : (sts s l).clip = s.clip) : sm l - 65536 * sm (outs s l) = (sts s l).rest - s.rest ∧ -(4294967296 * (l.length : Int)) ≤ sm l ∧ sm l ≤ 4294967296 * (l.length : Int) := by
  induction l generalizing s with
  | nil => simp [sm, outs, sts]
  | cons x l ih =>
    have hc' : (sts (nxt s x) l).clip = s.clip := hc
    have k1 := nxt_clip s x
    have k2 := sts_clip (nxt s x) l
    obtain ⟨a1, a2, a3⟩ := one_ok h (x := x) (by omega)
    obtain ⟨b1, b2, b3⟩ := ih (nxt_gd h x) (by omega)
    show (x + sm l) - 65536 * (cut (raw s x) + sm (outs (nxt s x) l)) = (sts (nxt s x) l).rest - s.rest ∧ -(4294967296 * ((l.length + 1 : Nat) : Int)) ≤ x + sm l ∧ x + sm l ≤ 4294967296 * ((l.length + 1 : Nat) : Int)
    omega
theorem outs_bd (s : Dt) (l : List Int) : ∀ y ∈ outs s l, -32768 ≤ y ∧ y ≤ 32767 := by
  induction l generalizing s with
  | nil => intro y hy; exact absurd hy (by simp [outs])
  | cons x l ih =>
    intro y hy
    rcases List.mem_cons.1 hy with q | q
    · rw [q]; exact cut_bd _
    · exact ih _ y q
theorem sm_bd {l : List Int} {m : Int} (h : ∀ y ∈ l, -m ≤ y ∧ y ≤ m) : -(m * (l.length : Int)) ≤ sm l ∧ sm l ≤ m * (l.length : Int) := by
  induction l with
  | nil => simp [sm]
  | cons x l ih =>
    have h1 := h x (by simp)
    have h2 := ih (fun y hy => h y (by simp [hy]))
    have e : m * ((x :: l).length : Int) = m * (l.length : Int) + m := by
      show m * ((l.length + 1 : Nat) : Int) = _
      rw [Int.natCast_add, Int.mul_add]; simp
    show -(m * ((x :: l).length : Int)) ≤ x + sm l ∧ x + sm l ≤ m * ((x :: l).length : Int)
    rw [e]; omega
theorem take_ok {s : Dt} {l : List Int} (hc : (sts s l).clip = s.clip) (k : Nat) : (sts s (l.take k)).clip = s.clip := by
  have e : sts s l = sts (sts s (l.take k)) (l.drop k) := by rw [← sts_app, List.take_append_drop]
  have h1 := sts_clip s (l.take k)
  have h2 := sts_clip (sts s (l.take k)) (l.drop k)
  rw [← e] at h2
  omega
theorem outs_take (s : Dt) (l : List Int) (k : Nat) : (outs s l).take k = outs s (l.take k) := by
  by_cases hk : k ≤ l.length
  · have e : outs s l = outs s (l.take k) ++ outs (sts s (l.take k)) (l.drop k) := by rw [← outs_app, List.take_append_drop]
    have hl : (outs s (l.take k)).length = k := by rw [outs_len, List.length_take]; omega
    rw [e, List.take_append_of_le_length (by omega), List.take_of_length_le (by omega)]
  · rw [List.take_of_length_le (by rw [outs_len]; omega), List.take_of_length_le (by omega)]
end Go.Proofs.Ytdlcnbfiklbiiaa.Mx
