/- How the laws ask Strain; what came of pieces, cell by cell. -/
import Derived.Test.YtjfmpgfpehnnjaiFi8
import Derived.Test.YtjfmpgfpehnnjaiFiMath6
namespace Go.Proofs.Ytjfmpgfpehnnjai.Fi
open Go.RowKit Go.Maps Go.Sort Fl
set_option linter.unusedSimpArgs false
set_option linter.unusedVariables false

/-- What is wrong with coefficients. -/
def er (c : Cf) : Int := if inC c then 0 else 3
theorem Strain_r (c : Cf) (ps : List (List Nat)) (ao : Option Addr) (n cp : Nat) (r : Int) (w : World) (hn : ps.length = n) (hP : PL w w.heap.size ao ps) (hc : n ≤ cp) (hcm : cp ≤ 9223372036854775807) (hl : n ≤ 4194303) (hlen : ∀ p ∈ ps, p.length ≤ 17592186044416) :
    Calls Try.prog 10 #[cv c, .slice ao n cp, .int .i64 r] w fun e w' => ∃ v, e = .returned (.tuple #[v, .int .i64 (er c)]) ∧ Hid (inC c = true → ∃ base, w.heap.size ≤ base ∧ TO w' base v (strn c r 0 rest0 ps)) ∧ Below w.heap.size w w' := by
  subst hn
  refine (Strain_any c ps ao cp r w hP hc hcm hl hlen).mono ?_
  intro e w' h
  cases hz : inC c
  · exact ⟨_, by rw [h.bad hz]; unfold er; rw [hz]; rfl, fun q => (by cases q), h.b⟩
  · obtain ⟨v, base, h1, h2, h3⟩ := h.ok hz
    exact ⟨v, by rw [h1]; unfold er; rw [hz]; rfl, fun _ => ⟨base, h2, h3⟩, h.b⟩
theorem er_yes {c : Cf} (h : inC c = true) : er c = 0 := by unfold er; rw [h]; rfl
theorem er_no {c : Cf} (h : inC c = false) : er c = 3 := by unfold er; rw [h]; rfl
/-- What came of piece j. -/
theorem TO.at' {w : World} {base : Nat} {v : Value} {R : List (List (Option Nat))} (h : TO w base v R) {j : Nat} {r : List (Option Nat)} (hj : R[j]? = some r) :
    ∃ gb vc g xa xc, v = .slice (some ⟨gb, 0, none⟩) R.length vc ∧ R.length ≤ vc ∧ vc ≤ 9223372036854775807 ∧ gb < w.heap.size ∧ base ≤ gb ∧ w.cell? ⟨gb, j, none⟩ = some (.slice xa g.length xc) ∧ g.length ≤ xc ∧ xc ≤ 9223372036854775807 ∧ (xa = none → xc = 0) ∧ abs g = r ∧ IL w (fun b => base ≤ b) xa g := by
  obtain ⟨Vs, h1, h2, h3⟩ := h.ex
  obtain ⟨x, y1, y2⟩ := h3 j r hj
  obtain ⟨g, xa, xc, z1, z2, z3, z4, z5, z6⟩ := y2.ex
  have hjl : j < R.length := (List.getElem?_eq_some_iff.1 hj).1
  rcases h1.2 with ⟨e1, e2⟩ | ⟨q, cap, cur, e1, e2, e3, e4, hm, rest⟩
  · omega
  · refine ⟨q, cap, g, xa, xc, e1, e4, by unfold maxLen at hm; omega, (Array.getElem?_eq_some_iff.1 e3).1, e2, ?_, z2, z3, z4, z5, z6.keep (fun _ _ _ => rfl) (Nat.le_refl _) (fun b hb _ => hb.1)⟩
    subst e1
    rw [World.ownsRow.cellAt h1 j (by omega), y1, z1]
/-- One piece, in a block of its own. -/
theorem PL.one (w : World) (l : List Nat) (ao : Option Addr) (c : Nat) (h1 : l.length ≤ c) (h2 : c ≤ 9223372036854775807) (h3 : ao = none → c = 0) (hL : IL w (fun k => k < w.heap.size) ao l) (w' : World) (hw : w' = w.alloc (Obj.cells #[.slice ao l.length c] 34)) : PL w' w'.heap.size (some ⟨w.heap.size, 0, none⟩) [l] := by
  subst hw
  have hb : Below w.heap.size w (w.alloc (Obj.cells #[.slice ao l.length c] 34)) := (Below.refl _ _).alloc (Nat.le_refl _) _
  refine ⟨fun _ => ⟨w.heap.size, 0, rfl, by simp, fun j p hj => ?_⟩⟩
  match j, hj with
  | 0, hj =>
    simp at hj
    subst hj
    exact ⟨ao, c, by simp [go_sem], h1, h2, h3, hL.keep (fun b hk _ => hb.block b hk) hb.size (fun b hk _ => by simp; omega)⟩
theorem PL.two (w : World) (l m : List Nat) (ao bo : Option Addr) (c d : Nat) (h1 : l.length ≤ c) (h2 : c ≤ 9223372036854775807) (h3 : ao = none → c = 0) (hL : IL w (fun k => k < w.heap.size) ao l) (k1 : m.length ≤ d) (k2 : d ≤ 9223372036854775807) (k3 : bo = none → d = 0) (hM : IL w (fun k => k < w.heap.size) bo m) (w' : World) (hw : w' = w.alloc (Obj.cells #[.slice ao l.length c, .slice bo m.length d] 34)) : PL w' w'.heap.size (some ⟨w.heap.size, 0, none⟩) [l, m] := by
  subst hw
  have hb : Below w.heap.size w (w.alloc (Obj.cells #[.slice ao l.length c, .slice bo m.length d] 34)) := (Below.refl _ _).alloc (Nat.le_refl _) _
  refine ⟨fun _ => ⟨w.heap.size, 0, rfl, by simp, fun j p hj => ?_⟩⟩
  match j, hj with
  | 0, hj =>
    simp at hj
    subst hj
    exact ⟨ao, c, by simp [go_sem], h1, h2, h3, hL.keep (fun b hk _ => hb.block b hk) hb.size (fun b hk _ => by simp; omega)⟩
  | 1, hj =>
    simp at hj
    subst hj
    exact ⟨bo, d, by simp [go_sem], k1, k2, k3, hM.keep (fun b hk _ => hb.block b hk) hb.size (fun b hk _ => by simp; omega)⟩
theorem PL.drawn {w w' : World} {N : Nat} {ao : Option Addr} {ps : List (List Nat)} (h : PL w N ao ps) (hN : N ≤ w.heap.size) (e : w'.heap = w.heap) : PL w' N ao ps := h.keep hN (fun b _ => by rw [e]) (by rw [e]; exact Nat.le_refl _)
theorem wi_fi {x : Nat} (hx : x < 18446744073709551616) (h : wi x = true) : Fi x := by
  unfold wi at h
  rw [Bool.and_eq_true] at h
  exact both_fi x _ _ hx ⟨by decide, by decide⟩ ⟨by decide, by decide⟩ h.1 h.2
/-- The words of coefficients fit. -/
structure WfC (c : Cf) : Prop where
  b0 : c.b0 < 18446744073709551616
  b1 : c.b1 < 18446744073709551616
  b2 : c.b2 < 18446744073709551616
  a1 : c.a1 < 18446744073709551616
  a2 : c.a2 < 18446744073709551616
theorem inC_fi {c : Cf} (hw : WfC c) (h : inC c = true) : FiC c := by
  unfold inC at h
  simp only [Bool.and_eq_true] at h
  obtain ⟨⟨⟨⟨h1, h2⟩, h3⟩, h4⟩, h5⟩ := h
  exact ⟨wi_fi hw.b0 h1, wi_fi hw.b1 h2, wi_fi hw.b2 h3, wi_fi hw.a1 h4, wi_fi hw.a2 h5⟩
theorem strn1 (c : Cf) (l : List Nat) : strn c (-1) 0 rest0 [l] = [outs c rest0 (abs l)] := rfl
theorem strn2 (c : Cf) (l m : List Nat) : strn c (-1) 0 rest0 [l, m] = [outs c rest0 (abs l), outs c (sts c rest0 (abs l)) (abs m)] := rfl
theorem strn3 (c : Cf) (l m : List Nat) : strn c 1 0 rest0 [l, m] = [outs c rest0 (abs l), outs c rest0 (abs m)] := rfl
theorem map_get {α β : Type} {f : α → β} {l m : List α} (h : l.map f = m.map f) {i : Nat} {x y : α} (hx : l[i]? = some x) (hy : m[i]? = some y) : f x = f y := by
  have h1 : (l.map f)[i]? = some (f x) := by rw [List.getElem?_map, hx]; rfl
  have h2 : (m.map f)[i]? = some (f y) := by rw [List.getElem?_map, hy]; rfl
  rw [h, h2] at h1
  exact (Option.some.inj h1).symm
end Go.Proofs.Ytjfmpgfpehnnjai.Fi
