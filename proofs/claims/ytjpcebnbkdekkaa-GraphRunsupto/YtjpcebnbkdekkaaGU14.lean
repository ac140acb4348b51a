/- What the document's Run comes to. -/
import Derived.Test.YtjpcebnbkdekkaaGU13
import Derived.Test.YtjpcebnbkdekkaaGU8
import Derived.Deep.DeepCutAuto
namespace Go.Proofs.Ytjpcebnbkdekkaa.Fi
open Go.RowKit Go.Maps Go.Sort Fl
set_option linter.unusedSimpArgs false
set_option linter.unusedVariables false

theorem wpList_nil' {P : Program} {ops : Array Oper} {Q : Exit → Act → World → Prop} {a : Act} {w : World} (h : Q .normal a w) : wpList P ops Q [] a w := h
theorem own_new (w : World) (base : Nat) (hb : base ≤ w.heap.size) : (w.alloc (Obj.cells #[] 46)).ownsRow base 46 1 (.slice (some ⟨w.heap.size, 0, none⟩) 0 0) 0 (fls []) := by
  refine ⟨rfl, .inr ⟨w.heap.size, 0, #[], rfl, hb, ?_, Nat.le_refl _, by unfold maxLen; omega, rfl, rfl⟩⟩
  show (w.heap.push _)[w.heap.size]? = _
  simp
theorem belD {w : World} (n : Nat) : Below w.heap.size w (w.drewN n) := ⟨rfl, rfl, rfl, Nat.le_refl _, fun _ _ => rfl⟩
end Go.Proofs.Ytjpcebnbkdekkaa.Fi

/- How the laws ask Strain; what came of pieces, cell by cell. -/
namespace Go.Proofs.Ytjpcebnbkdekkaa.Fi
open Go.RowKit Go.Maps Go.Sort Fl
set_option linter.unusedSimpArgs false
set_option linter.unusedVariables false

/-- What is wrong with coefficients. -/
def er (c : Cf) : Int := if inC c then 0 else 3
theorem er_yes {c : Cf} (h : inC c = true) : er c = 0 := by unfold er; rw [h]; rfl
theorem er_no {c : Cf} (h : inC c = false) : er c = 3 := by unfold er; rw [h]; rfl
/-- What came of piece j. -/
theorem TO.at' {w : World} {base : Nat} {v : Value} {R : List (List (Option Nat))} (h : TO w base v R) {j : Nat} {r : List (Option Nat)} (hj : R[j]? = some r) :
    ∃ gb vc g xa xc, v = .slice (some ⟨gb, 0, none⟩) R.length vc ∧ R.length ≤ vc ∧ vc ≤ 9223372036854775807 ∧ gb < w.heap.size ∧ base ≤ gb ∧ w.cell? ⟨gb, j, none⟩ = some (.slice xa g.length xc) ∧ g.length ≤ xc ∧ xc ≤ 9223372036854775807 ∧ (xa = none → xc = 0) ∧ abs g = r ∧ IL w (fun b => base ≤ b) xa g := by
  obtain ⟨Vs, h1, h2, h3⟩ := h.ex
  obtain ⟨x, y1, y2⟩ := h3 j r hj
  obtain ⟨g, xa, xc, z1, z2, z3, z4, z5, z6⟩ := y2.ex
  have hjl : j < R.length := (List.getElem?_eq_some_iff.1 hj).1
  rcases h1.2 with ⟨e1, e2⟩ | ⟨q, cap, cur, e1, e2, e3, e4, hm, rest⟩
  · omega
  · refine ⟨q, cap, g, xa, xc, e1, e4, by unfold maxLen at hm; omega, (Array.getElem?_eq_some_iff.1 e3).1, e2, ?_, z2, z3, z4, z5, z6.keep (fun _ _ _ => rfl) (Nat.le_refl _) (fun b hb _ => hb.1)⟩
    subst e1
    rw [World.ownsRow.cellAt h1 j (by omega), y1, z1]
/-- One piece, in a block of its own. -/
theorem PL.one (w : World) (l : List Nat) (ao : Option Addr) (c : Nat) (h1 : l.length ≤ c) (h2 : c ≤ 9223372036854775807) (h3 : ao = none → c = 0) (hL : IL w (fun k => k < w.heap.size) ao l) (w' : World) (hw : w' = w.alloc (Obj.cells #[.slice ao l.length c] 38)) : PL w' w'.heap.size (some ⟨w.heap.size, 0, none⟩) [l] := by
  subst hw
  have hb : Below w.heap.size w (w.alloc (Obj.cells #[.slice ao l.length c] 38)) := (Below.refl _ _).alloc (Nat.le_refl _) _
  refine ⟨fun _ => ⟨w.heap.size, 0, rfl, by simp, fun j p hj => ?_⟩⟩
  match j, hj with
  | 0, hj =>
    simp at hj
    subst hj
    exact ⟨ao, c, by simp [go_sem], h1, h2, h3, hL.keep (fun b hk _ => hb.block b hk) hb.size (fun b hk _ => by simp; omega)⟩
theorem PL.two (w : World) (l m : List Nat) (ao bo : Option Addr) (c d : Nat) (h1 : l.length ≤ c) (h2 : c ≤ 9223372036854775807) (h3 : ao = none → c = 0) (hL : IL w (fun k => k < w.heap.size) ao l) (k1 : m.length ≤ d) (k2 : d ≤ 9223372036854775807) (k3 : bo = none → d = 0) (hM : IL w (fun k => k < w.heap.size) bo m) (w' : World) (hw : w' = w.alloc (Obj.cells #[.slice ao l.length c, .slice bo m.length d] 38)) : PL w' w'.heap.size (some ⟨w.heap.size, 0, none⟩) [l, m] := by
  subst hw
  have hb : Below w.heap.size w (w.alloc (Obj.cells #[.slice ao l.length c, .slice bo m.length d] 38)) := (Below.refl _ _).alloc (Nat.le_refl _) _
  refine ⟨fun _ => ⟨w.heap.size, 0, rfl, by simp, fun j p hj => ?_⟩⟩
  match j, hj with
  | 0, hj =>
    simp at hj
    subst hj
    exact ⟨ao, c, by simp [go_sem], h1, h2, h3, hL.keep (fun b hk _ => hb.block b hk) hb.size (fun b hk _ => by simp; omega)⟩
  | 1, hj =>
    simp at hj
    subst hj
    exact ⟨bo, d, by simp [go_sem], k1, k2, k3, hM.keep (fun b hk _ => hb.block b hk) hb.size (fun b hk _ => by simp; omega)⟩
theorem PL.drawn {w w' : World} {N : Nat} {ao : Option Addr} {ps : List (List Nat)} (h : PL w N ao ps) (hN : N ≤ w.heap.size) (e : w'.heap = w.heap) : PL w' N ao ps := h.keep hN (fun b _ => by rw [e]) (by rw [e]; exact Nat.le_refl _)
theorem wi_fi {x : Nat} (hx : x < 18446744073709551616) (h : wi x = true) : Fi x := by
  unfold wi at h
  rw [Bool.and_eq_true] at h
  exact both_fi x _ _ hx ⟨by decide, by decide⟩ ⟨by decide, by decide⟩ h.1 h.2
/-- The words of coefficients fit. -/
structure WfC (c : Cf) : Prop where
  b0 : c.b0 < 18446744073709551616
  b1 : c.b1 < 18446744073709551616
  b2 : c.b2 < 18446744073709551616
  a1 : c.a1 < 18446744073709551616
  a2 : c.a2 < 18446744073709551616
theorem inC_fi {c : Cf} (hw : WfC c) (h : inC c = true) : FiC c := by
  unfold inC at h
  simp only [Bool.and_eq_true] at h
  obtain ⟨⟨⟨⟨h1, h2⟩, h3⟩, h4⟩, h5⟩ := h
  exact ⟨wi_fi hw.b0 h1, wi_fi hw.b1 h2, wi_fi hw.b2 h3, wi_fi hw.a1 h4, wi_fi hw.a2 h5⟩
theorem strn1 (c : Cf) (l : List Nat) : strn c (-1) 0 rest0 [l] = [outs c rest0 (abs l)] := rfl
theorem strn2 (c : Cf) (l m : List Nat) : strn c (-1) 0 rest0 [l, m] = [outs c rest0 (abs l), outs c (sts c rest0 (abs l)) (abs m)] := rfl
theorem strn3 (c : Cf) (l m : List Nat) : strn c 1 0 rest0 [l, m] = [outs c rest0 (abs l), outs c rest0 (abs m)] := rfl
theorem map_get {α β : Type} {f : α → β} {l m : List α} (h : l.map f = m.map f) {i : Nat} {x y : α} (hx : l[i]? = some x) (hy : m[i]? = some y) : f x = f y := by
  have h1 : (l.map f)[i]? = some (f x) := by rw [List.getElem?_map, hx]; rfl
  have h2 : (m.map f)[i]? = some (f y) := by rw [List.getElem?_map, hy]; rfl
  rw [h, h2] at h1
  exact (Option.some.inj h1).symm
end Go.Proofs.Ytjpcebnbkdekkaa.Fi

/- Slices of slices; append(one's own floats, x...); pieces in a row of one's own. -/
namespace Go.Proofs.Ytjpcebnbkdekkaa.Fi
open Go.RowKit Go.Maps Go.Sort Fl
set_option linter.unusedSimpArgs false
set_option linter.unusedVariables false

theorem wpList_append_il {w : World} {ops : Array Oper} {rest : List Oper} {o : Oper} {a : Act} {Q : Exit → Act → World → Prop} (hgd : o.guard = none) (s y : Operand)
    (ho : o.op = .call { callee := .builtin .append, args := #[s, y], argTypes := #[38, 38] })
    (base : Nat) (v : Value) (n : Nat) (xs : List Value) (hs : a.eval s = v) (hown : w.ownsRow base 46 1 v n xs)
    (S' : Nat → Prop) (r : List Nat) (rm : Nat) (hrm : r.length = rm) (xa : Option Addr) (xc : Nat) (hx : a.eval y = .slice xa rm xc) (hc1 : rm ≤ xc) (hcn : xa = none → xc = 0) (hf : IL w S' xa r)
    (h63 : n + rm ≤ 4194304) (hbase : base ≤ w.heap.size)
    (h : ∀ v' w', w'.ownsRow base 46 1 v' (n + rm) (xs ++ fls r) → Gw w w' v v' → wpList Try.prog ops Q rest (a.put o.dst v') w') :
    wpList Try.prog ops Q (o :: rest) a w := by
  obtain ⟨i, hi, hz, hz1, hz2⟩ := info_parts infoF
  have fl : (fls r).length = rm := by unfold fls; rw [List.length_map, hrm]
  cases xa with
  | none =>
    have hc := hcn rfl
    have hm : rm = 0 := by omega
    have hx2 : a.eval y = .slice none 0 0 := by rw [hx, hm, hc]
    have hnil : fls r = [] := List.eq_nil_of_length_eq_zero (by rw [fl, hm])
    refine wpList_append_own_none hgd s y 38 ho base 46 i 1 Try.underlying38 hi v n xs hs hown hx2 (h v w ?_ ⟨⟨rfl, rfl, rfl, Nat.le_refl _, fun _ _ _ => rfl⟩, Or.inl rfl⟩)
    rw [hm, hnil, List.append_nil]; exact hown
  | some ad =>
    refine wpList_append_own_at w hgd s y 38 ho base 46 i (.float .f64 0) 1 8 Try.underlying38 hi hz hz1 hz2 rfl (by omega) v n xs hs hown ad rm xc (fls r) hx (by rw [fl]; omega) ?_ ?_ (by unfold maxLen; omega) (by omega) hbase (fun v' w' k1 k2 _ k4 => h v' w' k1 ⟨k2, k4.imp id (fun e => ⟨_, e, Nat.le_refl _⟩)⟩)
    · intro j u hj
      have hjm : j < r.length := by have := (List.getElem?_eq_some_iff.1 hj).1; rw [fl] at this; omega
      obtain ⟨nb, of, k1, _, _, k3⟩ := hf.at' (by omega)
      cases k1
      have hr : r[j]? = some (r[j]'hjm) := List.getElem?_eq_getElem hjm
      unfold fls at hj
      rw [List.getElem?_map, hr] at hj
      cases hj
      have e6 : (⟨nb, of, none⟩ : Addr).add j = ⟨nb, of + j, none⟩ := by unfold Addr.add; by_cases h : j = 0 <;> simp [h]
      rw [e6]; exact (k3 j _ hr).1
    · intro u hu
      unfold fls at hu
      obtain ⟨x, _, rfl⟩ := List.mem_map.1 hu
      rfl
theorem add_zero' (a : Addr) : a.add 0 = a := by unfold Addr.add; simp
theorem map_add0 (la : Option Addr) : la.map (fun x => x.add 0) = la := by cases la with
  | none => rfl
  | some a => show some (a.add 0) = some a; rw [add_zero']
/-- Where a slice stands from place n on. -/
def frm (la : Option Addr) (n c : Nat) : Option Addr := if c = n then la else la.map (fun x => x.add n)
theorem sizeF (w : World) : (Go.sizeOf 46).run Try.prog w = .ok 1 w := by
  simp [Go.sizeOf]
  kernel_rfl
theorem run_to (la : Option Addr) (m c n : Nat) (h1 : n ≤ c) (w : World) : (Instr.slice 38 (.slice la m c) none (some (.int .i64 (n : Int))) (some (.int .i64 (n : Int)))).run Try.prog w = .ok (.slice la n n) w := by
  have hu : Try.prog.underlying 38 = some (.slice 46) := Try.underlying38
  unfold Instr.slice
  simp [run_underlying hu, Instr.sliceBounds, run_sliceBound, h1, sizeF]
  intro _
  exact map_add0 la
theorem run_from (la : Option Addr) (m c n : Nat) (h1 : n ≤ m) (w : World) : (Instr.slice 38 (.slice la m c) (some (.int .i64 (n : Int))) none none).run Try.prog w = .ok (.slice (frm la n c) (m - n) (c - n)) w := by
  have hu : Try.prog.underlying 38 = some (.slice 46) := Try.underlying38
  unfold Instr.slice frm
  simp [run_underlying hu, Instr.sliceBounds, run_sliceBound, h1, sizeF]
theorem frm_none {la : Option Addr} {n c : Nat} (h : la = none → c = 0) (h2 : frm la n c = none) : c - n = 0 := by
  unfold frm at h2
  by_cases e : c = n
  · omega
  · rw [if_neg e] at h2
    cases la with
    | none => have := h rfl; omega
    | some a => cases h2
theorem IL.take {w : World} {S : Nat → Prop} {la : Option Addr} {l : List Nat} (h : IL w S la l) (n : Nat) : IL w S la (l.take n) := ⟨fun hn => by
  obtain ⟨b, off, h1, h2, h3, h4⟩ := h.at' (by rw [List.length_take] at hn; omega)
  refine ⟨b, off, h1, h2, h3, fun j x hj => h4 j x ?_⟩
  have hjn : j < n := by have := (List.getElem?_eq_some_iff.1 hj).1; rw [List.length_take] at this; omega
  rw [List.getElem?_take_of_lt hjn] at hj; exact hj⟩
theorem IL.drop {w : World} {S : Nat → Prop} {la : Option Addr} {l : List Nat} (h : IL w S la l) (n c : Nat) (hc : l.length ≤ c) : IL w S (frm la n c) (l.drop n) := ⟨fun hn => by
  rw [List.length_drop] at hn
  obtain ⟨b, off, h1, h2, h3, h4⟩ := h.at' (by omega)
  refine ⟨b, off + n, ?_, h2, h3, fun j x hj => ?_⟩
  · unfold frm
    rw [if_neg (by omega), h1]
    show some ((⟨b, off, none⟩ : Addr).add n) = _
    unfold Addr.add
    by_cases e : n = 0 <;> simp [e]
  · rw [List.getElem?_drop] at hj
    have := h4 (n + j) x hj
    rw [Nat.add_assoc]; exact this⟩
/-- Pieces in a row of one's own, their floats below block N. -/
structure VO (w : World) (base N : Nat) (v : Value) (ps : List (List Nat)) : Prop where
  ex : ∃ Vs : List Value, w.ownsRow base 38 1 v ps.length Vs ∧ Vs.length = ps.length ∧ ∀ (j : Nat) p, ps[j]? = some p → ∃ a c, Vs[j]? = some (.slice a p.length c) ∧ p.length ≤ c ∧ c ≤ 9223372036854775807 ∧ (a = none → c = 0) ∧ IL w (fun k => k < N) a p
theorem VO.nil (w : World) (base N : Nat) : VO w base N (.slice none 0 0) [] := ⟨⟨[], World.ownsRow_nil _ _ _ _, rfl, fun j p h => by simp at h⟩⟩
theorem VO.put {w w1 w2 : World} {base N : Nat} {v v' : Value} {ps : List (List Nat)} (Vs : List Value) (hV : Vs.length = ps.length) (h3 : ∀ (j : Nat) p, ps[j]? = some p → ∃ a c, Vs[j]? = some (.slice a p.length c) ∧ p.length ≤ c ∧ c ≤ 9223372036854775807 ∧ (a = none → c = 0) ∧ IL w (fun k => k < N) a p)
    (hN : N ≤ base) (hbz : base ≤ w.heap.size) (hb1 : Below w.heap.size w w1) (g1 : Gw w1 w2 v v') (hv : ∀ k, v.ownBlock = some k → base ≤ k) {a : Option Addr} {c : Nat} {p : List Nat} (o1 : w2.ownsRow base 38 1 v' (ps.length + 1) (Vs ++ [.slice a p.length c])) (q1 : p.length ≤ c) (q2 : c ≤ 9223372036854775807) (q3 : a = none → c = 0) (q4 : IL w (fun k => k < N) a p) : VO w2 base N v' (ps ++ [p]) := by
  have z1 := hb1.size; have z2 := g1.gr.size
  have hkeep : ∀ b, b < N → b < w.heap.size → w2.heap[b]? = w.heap[b]? := fun b hb l => by
    rw [g1.gr.block b (by omega) (fun q => by have := hv b q.symm; omega), hb1.block b l]
  refine ⟨⟨Vs ++ [.slice a p.length c], ?_, by simp [hV], fun j q hj => ?_⟩⟩
  · have e : (ps ++ [p]).length = ps.length + 1 := by simp
    rw [e]; exact o1
  · by_cases cc : j < ps.length
    · rw [List.getElem?_append_left cc] at hj
      obtain ⟨a', c', y1, y2, y3, y4, y5⟩ := h3 j q hj
      exact ⟨a', c', by rw [List.getElem?_append_left (by omega)]; exact y1, y2, y3, y4, y5.keep (fun b hb l => hkeep b hb l) (by omega) (fun _ h _ => h)⟩
    · have hjl : j < (ps ++ [p]).length := (List.getElem?_eq_some_iff.1 hj).1
      simp at hjl
      obtain rfl : j = ps.length := by omega
      rw [List.getElem?_append_right (Nat.le_refl _)] at hj
      simp at hj
      subst hj
      exact ⟨a, c, by rw [← hV]; simp, q1, q2, q3, q4.keep (fun b hb l => hkeep b hb l) (by omega) (fun _ h _ => h)⟩
theorem VO.PL {w : World} {base N : Nat} {v : Value} {ps : List (List Nat)} (h : VO w base N v ps) (hN : N ≤ w.heap.size) : ∃ ao c, v = .slice ao ps.length c ∧ ps.length ≤ c ∧ c ≤ 9223372036854775807 ∧ PL w w.heap.size ao ps := by
  obtain ⟨Vs, h1, h2, h3⟩ := h.ex
  rcases h1.2 with ⟨e1, e2⟩ | ⟨q, cap, cur, e1, e2, e3, e4, hm, rest⟩
  · exact ⟨none, 0, by rw [e1, e2], by omega, by omega, ⟨fun hn => by omega⟩⟩
  · refine ⟨some ⟨q, 0, none⟩, cap, e1, e4, by unfold maxLen at hm; omega, ⟨fun hn => ⟨q, 0, rfl, (Array.getElem?_eq_some_iff.1 e3).1, fun j p hj => ?_⟩⟩⟩
    obtain ⟨a, c, y1, y2, y3, y4, y5⟩ := h3 j p hj
    subst e1
    have hjl : j < ps.length := (List.getElem?_eq_some_iff.1 hj).1
    exact ⟨a, c, by rw [Nat.zero_add, World.ownsRow.cellAt h1 j (by omega)]; exact y1, y2, y3, y4, y5.keep (fun _ _ _ => rfl) (Nat.le_refl _) (fun b hb _ => by omega)⟩
theorem strn_flat (c : Cf) (i : Nat) (s : St) (ps : List (List Nat)) : (strn c (-1) i s ps).flatten = outs c s (abs ps.flatten) := by
  induction ps generalizing i s with
  | nil => rfl
  | cons p ps ih =>
    have e : at' (-1) i s = s := if_neg (by omega)
    show outs c (at' (-1) i s) (abs p) ++ (strn c (-1) (i + 1) (sts c (at' (-1) i s) (abs p)) ps).flatten = _
    rw [e, ih, List.flatten_cons, abs_app, outs_app]
end Go.Proofs.Ytjpcebnbkdekkaa.Fi
