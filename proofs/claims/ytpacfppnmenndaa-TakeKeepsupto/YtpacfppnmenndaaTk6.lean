/- A history in memory: line, with. -/
import Derived.Test.YtpacfppnmenndaaTk5
import Derived.ArgAppend
namespace Go.Proofs.Ytpacfppnmenndaa.Tk
open Go.RowKit Go.Maps Go.Sort Go.Proofs.Ytpacfppnmenndaa.Rg
open Go.Proofs.Ytpacfppnmenndaa.Y (Tn lt okT wr fst cod bfr OkL TL tab tc rows)
set_option linter.unusedVariables false
set_option linter.unusedSimpArgs false

/-- The cells of versions, as a list. -/
theorem VR.ex {w : World} {S : Nat → Prop} {va : Option Addr} {vs : List (List Tn)} (h : VR w S va vs) (h0 : 0 < vs.length) : ∃ (b off : Nat) (xs : List Value), va = some ⟨b, off, none⟩ ∧ b < w.heap.size ∧ S b ∧ xs.length = vs.length ∧ (∀ j u, xs[j]? = some u → w.cell? ⟨b, off + j, none⟩ = some u) ∧ (∀ u ∈ xs, u.oneCell' = true) ∧
    ∀ (j : Nat) L, vs[j]? = some L → ∃ ao c, xs[j]? = some (.slice ao L.length c) ∧ L.length ≤ c ∧ c ≤ 9223372036854775807 ∧ (ao = none → c = 0) ∧ LN w S ao L := by
  obtain ⟨b, off, e, k1, k2, q⟩ := h.at' h0
  have hx : ∀ j, j < vs.length → ∃ ao c L, vs[j]? = some L ∧ w.cell? ⟨b, off + j, none⟩ = some (.slice ao L.length c) := fun j hj => by
    obtain ⟨ao, c, hc, _⟩ := q j _ (List.getElem?_eq_getElem hj)
    exact ⟨ao, c, _, List.getElem?_eq_getElem hj, hc⟩
  refine ⟨b, off, (List.range vs.length).map (fun j => (w.cell? ⟨b, off + j, none⟩).getD (.int .i64 0)), e, k1, k2, by simp, fun j u hj => ?_, fun u hu => ?_, fun j L hj => ?_⟩
  · have hjl : j < vs.length := by have := (List.getElem?_eq_some_iff.1 hj).1; simpa using this
    obtain ⟨ao, c, L, _, hc⟩ := hx j hjl
    rw [List.getElem?_map, List.getElem?_range hjl] at hj
    simp only [Option.map_some, hc, Option.getD_some, Option.some.injEq] at hj
    rw [← hj]; exact hc
  · obtain ⟨j, hj, rfl⟩ := List.mem_map.1 hu
    obtain ⟨ao, c, L, _, hc⟩ := hx j (List.mem_range.1 hj)
    rw [hc]; rfl
  · have hjl : j < vs.length := (List.getElem?_eq_some_iff.1 hj).1
    obtain ⟨ao, c, hc, r⟩ := q j L hj
    refine ⟨ao, c, ?_, r⟩
    rw [List.getElem?_map, List.getElem?_range hjl]
    simp [hc]
/-- A history's slice. -/
structure HV (w : World) (S : Nat → Prop) (va : Option Addr) (vc : Nat) (h : Hs) : Prop where
  v : VR w S va h.vs
  c1 : h.vs.length ≤ vc
  c2 : vc ≤ 9223372036854775807
  c3 : va = none → vc = 0
theorem HV.keep {w w' : World} {S S' : Nat → Prop} {va : Option Addr} {vc : Nat} {hh : Hs} (h : HV w S va vc hh) (hk : ∀ b, S b → b < w.heap.size → w'.heap[b]? = w.heap[b]?) (hz : w.heap.size ≤ w'.heap.size) (hs : ∀ b, S b → b < w.heap.size → S' b) : HV w' S' va vc hh := ⟨h.v.keep hk hz hs, h.c1, h.c2, h.c3⟩
theorem HV.bel {w w' : World} {S : Nat → Prop} {va : Option Addr} {vc : Nat} {hh : Hs} (h : HV w S va vc hh) (hb : Below w.heap.size w w') : HV w' S va vc hh := ⟨h.v.bel hb, h.c1, h.c2, h.c3⟩
theorem HV.nil (w : World) (S : Nat → Prop) : HV w S none 0 ⟨[], 0⟩ := ⟨VR.nil _ _ _, Nat.le_refl _, by omega, fun _ => rfl⟩
set_option maxRecDepth 20000 in
set_option maxHeartbeats 4000000 in
theorem line_any (S : Nat → Prop) (va : Option Addr) (vc : Nat) (h : Hs) (w : World) (hV : HV w S va vc h) (hk : HOk h) (hs : h.st ≤ 1024) :
    Calls Try.prog 31 #[.agg #[.slice va h.vs.length vc, .int .i64 h.st]] w fun e w' => (∃ ao c, e = .returned (.slice ao h.line.length c) ∧ h.line.length ≤ c ∧ c ≤ 9223372036854775807 ∧ (ao = none → c = 0) ∧ LN w' S ao h.line) ∧ Below w.heap.size w w' := by
  have hst := hk.st
  by_cases h0 : h.st = 0
  · have HQ : Hid (∀ w', Below w.heap.size w w' → (∃ ao c, Ending.returned (.slice none 0 0) = .returned (.slice ao h.line.length c) ∧ h.line.length ≤ c ∧ c ≤ 9223372036854775807 ∧ (ao = none → c = 0) ∧ LN w' S ao h.line) ∧ Below w.heap.size w w') := fun w' hb => by
      have e : h.line = [] := by unfold Hs.line; rw [if_pos h0]
      rw [e]
      exact ⟨⟨none, 0, rfl, Nat.le_refl _, by omega, fun _ => rfl, LN.nil _ _ _⟩, hb⟩
    rw [h0]
    clear hV hk hst
    generalize h.vs.length = n at *
    go_enter Try.func31, Try.ntmps31
    go_wp2_with fail
    go_ret
    exact HQ.out _ (by go_grown)
  · have hl := Hs.line_at hk (by omega)
    obtain ⟨b, off, e, k1, k2, q⟩ := hV.v.at' (by omega)
    obtain ⟨ao, c, hc, r1, r2, r3, r4⟩ := q _ _ hl
    subst e
    obtain ⟨st, hst2⟩ : ∃ st, h.st = st + 1 := ⟨h.st - 1, by omega⟩
    have HQ : Hid (∀ w', Below w.heap.size w w' → (∃ ao' c', Ending.returned (.slice ao h.line.length c) = .returned (.slice ao' h.line.length c') ∧ h.line.length ≤ c' ∧ c' ≤ 9223372036854775807 ∧ (ao' = none → c' = 0) ∧ LN w' S ao' h.line) ∧ Below w.heap.size w w') := fun w' hb => ⟨⟨ao, c, rfl, r1, r2, r3, r4.bel hb⟩, hb⟩
    have hc1 := hV.c1
    have hc2 := hV.c2
    have hi : st < h.vs.length := by omega
    rw [hst2] at hc hs ⊢
    rw [show st + 1 - 1 = st by omega] at hc
    clear hV hk hst hl q r1 r2 r3 r4 hst2 h0
    generalize h.line.length = ll at *
    generalize h.vs.length = n at *
    have hi2 : (st : Int) < (n : Int) := by omega
    have e1 : IntKind.i64.wrap (((st + 1 : Nat) : Int) - 1) = (st : Int) := by rw [wid (by omega) (by omega)]; omega
    have e2 : ((((st + 1 : Nat) : Int)) == 0) = false := by simp; omega
    go_enter Try.func31, Try.ntmps31
    go_wp2_with fail
    go_ret
    exact HQ.out _ (by go_grown)
end Go.Proofs.Ytpacfppnmenndaa.Tk
