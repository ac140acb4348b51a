/- What the ear's part and parts come to at every tree of parts. -/
import Derived.Test.YtaohahahhjkcdahX7
namespace Go.Proofs.Ytaohahahhjkcdah.X
open Go.RowKit Go.Maps
set_option linter.unusedVariables false
set_option linter.unusedSimpArgs false

theorem during_any (t o x : Int) (w : World) (ho : 1 ≤ o) (hx : x ≤ 9223372036854775807) :
    Calls Try.prog 31 #[.agg #[.int .i64 t, .int .i64 o], .int .i64 x] w fun e w' => e = .returned (.int .i64 (Int.tdiv (max x 0) o)) ∧ Below w.heap.size w w' := by
  have ho' : o ≠ 0 := by omega
  have ho2 : (o == 0) = false := by simp; omega
  obtain ⟨n, h1, h2, h3⟩ := M.dur_is (x := x) ho
  have hw : IntKind.i64.wrap (Int.tdiv (max x 0) o) = Int.tdiv (max x 0) o := wid (by omega) (by
    by_cases c : 0 ≤ x
    · have := h3 c; omega
    · rcases h2 with h | h
      · have : 0 ≤ (n : Int) * o := Int.mul_nonneg (by omega) (by omega)
        omega
      · omega)
  clear h1 h2 h3
  have HV1 : Hid (x < 0 → Int.tdiv (max x 0) o = 0) := fun h => by show _ = _; rw [show max x 0 = 0 by omega]; simp
  have HV2 : Hid (0 ≤ x → Int.tdiv (max x 0) o = x / o) := fun h => by show _ = _; rw [show max x 0 = x by omega]; exact Int.tdiv_eq_ediv_of_nonneg h
  generalize Int.tdiv (max x 0) o = V at *
  by_cases c : x < 0
  · have hV := HV1.out c
    subst hV
    clear HV1 HV2
    go_enter Try.func31, Try.ntmps31
    go_wp2_with fail
    go_ret
    exact ⟨rfl, by go_grown⟩
  · have hV := HV2.out (by omega)
    subst hV
    clear HV1 HV2
    have c' : 0 ≤ x := by omega
    go_enter Try.func31, Try.ntmps31
    go_wp2_with fail
    go_ret
    exact ⟨rfl, by go_grown⟩
/-- A part as a value. -/
abbrev pa (p : M.Pt) (ea ka : Option Addr) (kc : Nat) : Value := .agg #[.int .i64 p.t, .int .i64 p.o, .int .i64 p.s, .slice ea p.ev.length p.ev.length, .slice ka p.kids.length kc]
def PartC (p : M.Pt) : Prop := ∀ (start : Int) (w : World) (q base : Nat) (f t : Int) (v : Value) (out : List Z.M.Ev) (ea ka : Option Addr) (kc : Nat), PV w (· < q) p ea ka kc → Ea w q base f t v out → out.length ≤ 4096 → M.Pok p → 0 ≤ start → start + p.t * p.o ≤ 1125899906842624 → 0 ≤ f → f ≤ 1125899906842624 → t ≤ 1125899906842624 →
  Calls Try.prog 29 #[.pointer (some ⟨q, 0, none⟩), pa p ea ka kc, .int .i64 start] w fun e w' => e = .returned (.bool (decide (out.length + (M.win f t (M.tm (M.pon p) p.o p.t.toNat start)).length ≤ 4096))) ∧ EQ w q base f t v out (M.win f t (M.tm (M.pon p) p.o p.t.toNat start)) w'

set_option maxHeartbeats 4000000 in
theorem parts_list (l : List M.Pt) (ih : ∀ p ∈ l, PartC p) (start : Int) (w : World) (q base : Nat) (f t : Int) (v : Value) (out : List Z.M.Ev) (ao : Option Addr) (c : Nat) (hL : PL w (· < q) ao l) (hc : l.length ≤ c) (hcm : c ≤ 9223372036854775807) (hA : Ea w q base f t v out) (ho : out.length ≤ 4096)
    (hok : ∀ p ∈ l, M.Pok p ∧ 0 ≤ start + p.s ∧ start + p.s + p.t * p.o ≤ 1125899906842624) (hf0 : 0 ≤ f) (hf1 : f ≤ 1125899906842624) (ht1 : t ≤ 1125899906842624) :
    Calls Try.prog 23 #[.pointer (some ⟨q, 0, none⟩), .slice ao l.length c, .int .i64 start] w fun e w' => e = .returned (.bool (decide (out.length + (M.win f t (M.pes l start)).length ≤ 4096))) ∧ EQ w q base f t v out (M.win f t (M.pes l start)) w' := by
  have H4 : Hid (∀ {k : Nat} {p : M.Pt}, l[k]? = some p → M.win f t (M.pes (l.take (k + 1)) start) = M.win f t (M.pes (l.take k) start) ++ M.win f t (M.pe p start)) := fun h => M.win_pes_take h f t start
  have H5 : Hid (∀ k, (M.win f t (M.pes (l.take k) start)).length ≤ (M.win f t (M.pes l start)).length) := fun k => M.win_pes_le f t start
  have H6 : Hid (M.win f t (M.pes l start) = M.win f t (M.pes (l.take l.length) start)) := by show _ = _; rw [List.take_length]
  generalize M.win f t (M.pes l start) = LT at *
  obtain ⟨D, hD⟩ : ∃ D, D = decide (out.length + LT.length ≤ 4096) := ⟨_, rfl⟩
  rw [← hD]
  have HD : Hid (D = decide (out.length + LT.length ≤ 4096)) := hD
  have hlq := hA.lt
  have hzq := hA.bz
  have qw : q < w.heap.size := by omega
  have HO : Hid (∀ p ∈ l, M.Pok p ∧ 0 ≤ start + p.s ∧ start + p.s + p.t * p.o ≤ 1125899906842624) := hok
  have IH : Hid (∀ p ∈ l, PartC p) := ih
  have HL : Hid (PL w (· < q) ao l) := hL
  have Hst : Hid (Ea w q base f t v (out ++ M.win f t (M.pes (l.take 0) start))) := by
    show Ea _ _ _ _ _ _ (out ++ [])
    rw [List.append_nil]; exact hA
  have Hsl : Hid ((out ++ M.win f t (M.pes (l.take 0) start)).length ≤ 4096) := by
    show (out ++ []).length ≤ 4096
    rw [List.append_nil]; exact ho
  have hg0 : Eg w q v v w := Eg.below v qw (Below.refl _ _)
  clear hD hok ih hL hA
  go_enter Try.func23, Try.ntmps23
  go_wp2_with fail
  go_loopw [11] (fun x wr => ∃ (i : Nat) (vi : Value), x = .int .i64 i ∧ i ≤ l.length ∧ Hid (Ea wr q base f t vi (out ++ M.win f t (M.pes (l.take i) start))) ∧ Eg w q v vi wr ∧ Hid ((out ++ M.win f t (M.pes (l.take i) start)).length ≤ 4096)) (fun x _ => l.length - (intOf x).toNat)
  case atStart => exact ⟨0, v, rfl, by omega, Hst, hg0, Hsl⟩
  case round =>
    obtain ⟨i, vi, rfl, hi, hAi, hGi, hli⟩ := hrel
    clear Hst hg0 Hsl
    have zr := hGi.z
    by_cases hlt : i < l.length
    · have hlt' : (i : Int) < (l.length : Int) := by omega
      obtain ⟨p, hp⟩ : ∃ p, l[i]? = some p := ⟨_, List.getElem?_eq_getElem hlt⟩
      have hmem : p ∈ l := List.mem_of_getElem? hp
      obtain ⟨o1, o2, o3⟩ := HO.out p hmem
      obtain ⟨bb, off, rfl, hbq, hc5⟩ := (HL.out.keep (Kp.below hGi.b) (fun _ h => h)).at' (by omega)
      obtain ⟨ea, ka, kc, q5, hPV⟩ := hc5 i p hp
      have r0 := q5.c0
      have r1 := q5.c1
      have r2 := q5.c2
      have r3 := q5.c3
      have r4 := q5.c4
      have bz : bb < wr.heap.size := by omega
      have qz : q < wr.heap.size := by omega
      have w3 : IntKind.i64.wrap ((i : Int) + 1) = (i : Int) + 1 := wid (by omega) (by omega)
      have pf := o1.fine
      have hto : 0 ≤ p.t * p.o := Int.mul_nonneg (by have := pf.t1; omega) (by have := pf.o1; omega)
      have ws : IntKind.i64.wrap (start + p.s) = start + p.s := wid (by omega) (by omega)
      have e4 := H4.out hp
      have e5 := H5.out (i + 1)
      rw [M.pe_eq, ] at e4
      have HP : ∀ (W : World), Below wr.heap.size wr W → Calls Try.prog 29 #[.pointer (some ⟨q, 0, none⟩), pa p ea ka kc, .int .i64 (start + p.s)] W fun e w' => e = .returned (.bool (decide ((out ++ M.win f t (M.pes (l.take i) start)).length + (M.win f t (M.tm (M.pon p) p.o p.t.toNat (start + p.s))).length ≤ 4096))) ∧ EQ W q base f t vi (out ++ M.win f t (M.pes (l.take i) start)) (M.win f t (M.tm (M.pon p) p.o p.t.toNat (start + p.s))) w' := fun W hb =>
        IH.out p hmem (start + p.s) W q base f t vi _ ea ka kc (hPV.keep (Kp.below (hb.mono (by omega))) (fun _ h => h)) (hAi.out.bel hb) hli.out o1 o2 o3 hf0 hf1 ht1
      have E4 : Hid (M.win f t (M.pes (l.take (i + 1)) start) = M.win f t (M.pes (l.take i) start) ++ M.win f t (M.tm (M.pon p) p.o p.t.toNat (start + p.s))) := e4
      have E5 : Hid ((M.win f t (M.pes (l.take (i + 1)) start)).length ≤ LT.length) := e5
      clear q5 hc5 hPV hp hmem IH HL HO H4 H5 H6 hAi pf o1 o2 o3 hto e4 e5
      generalize M.win f t (M.pes (l.take i) start) = W0 at *
      generalize M.win f t (M.tm (M.pon p) p.o p.t.toNat (start + p.s)) = WP at *
      obtain ⟨pt, po, ps, pev, pkids⟩ := p
      dsimp only at *
      by_cases cD : (out ++ W0).length + WP.length ≤ 4096
      · rw [decide_eq_true cD] at HP
        have HL1 : Hid ((out ++ M.win f t (M.pes (l.take (i + 1)) start)).length ≤ 4096) := by
          show _ ≤ _
          rw [E4.out, ← List.append_assoc, List.length_append]; exact cD
        have CD : Hid ((out ++ W0).length + WP.length ≤ 4096) := cD
        clear cD
        go_wp2_with fail
        refine (HP _ (by go_grown)).mono ?_
        rintro e w5 ⟨rfl, hEQ⟩
        obtain ⟨v5, g5, a5⟩ := hEQ.ex
        have A5 : Hid (Ea w5 q base f t v5 (out ++ M.win f t (M.pes (l.take (i + 1)) start))) := by
          show Ea _ _ _ _ _ _ _
          rw [E4.out, ← List.append_assoc]; exact a5 CD.out
        have G5 := (hGi.trans (Eg.below vi qz ((Below.refl _ wr).alloc (Nat.le_refl _) _))).trans g5
        clear hEQ g5 a5 r0 r1 r2 r3 r4
        go_wp2_with fail
        go_roundw
        case rel => exact ⟨i + 1, v5, by go_num, by omega, A5, G5, HL1⟩
        case measure => simp [intOf]; omega
      · have hDf : D = false := by
          rw [HD.out]
          apply decide_eq_false
          have h1 := E5.out
          rw [E4.out] at h1
          rw [List.length_append] at h1 cD
          omega
        subst hDf
        rw [decide_eq_false cD] at HP
        clear cD
        go_wp2_with fail
        refine (HP _ (by go_grown)).mono ?_
        rintro e w5 ⟨rfl, hEQ⟩
        obtain ⟨v5, g5, a5⟩ := hEQ.ex
        have G5 := (hGi.trans (Eg.below vi qz ((Below.refl _ wr).alloc (Nat.le_refl _) _))).trans g5
        have HR : Hid (EQ w q base f t v out LT w5) := ⟨v5, G5, fun hh => by have h3 := HD.out; rw [decide_eq_true hh] at h3; cases h3⟩
        clear hEQ g5 a5 r0 r1 r2 r3 r4
        go_wp2_with fail
        go_ret
        exact ⟨rfl, HR.out⟩
    · obtain rfl : i = l.length := by omega
      have hlt' : ¬ ((l.length : Nat) : Int) < l.length := by omega
      have hDt : D = true := by
        rw [HD.out, H6.out]
        have := hli.out
        rw [List.length_append] at this
        exact decide_eq_true this
      subst hDt
      have HR : Hid (EQ w q base f t v out LT wr) := ⟨vi, hGi, fun _ => by rw [H6.out]; exact hAi.out⟩
      clear H4 H5 H6 hAi IH HL HO
      go_wp2_with fail
      go_ret
      exact ⟨rfl, HR.out⟩
end Go.Proofs.Ytaohahahhjkcdah.X
