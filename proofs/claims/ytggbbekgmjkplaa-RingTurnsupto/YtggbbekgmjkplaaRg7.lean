/- The law's walk: a ring, step by step. -/
import Derived.Test.YtggbbekgmjkplaaRg6
namespace Go.Proofs.Ytggbbekgmjkplaa.Rg
open Go.RowKit Go.Maps Go.Sort
set_option linter.unusedVariables false
set_option linter.unusedSimpArgs false

theorem OT.rd {w : World} {base : Nat} {v : Value} {R : List Tu} (h : OT w base v R) : ∃ ao c, v = .slice ao R.length c ∧ R.length ≤ c ∧ c ≤ 9223372036854775807 ∧ ∀ j t, R[j]? = some t → ∃ b, ao = some ⟨b, 0, none⟩ ∧ base ≤ b ∧ b < w.heap.size ∧ w.cell? ⟨b, j * 3, none⟩ = some (.int .i64 t.k) ∧ w.cell? ⟨b, j * 3 + 1, none⟩ = some (.bool t.ok) ∧ w.cell? ⟨b, j * 3 + 2, none⟩ = some (.int .i64 t.len) := by
  have h1 : w.ownsRow base 31 3 v R.length (tcs R) := h
  rcases h1.2 with ⟨e1, e2⟩ | ⟨q, cap, cur, e1, e2, e3, e4, hm, rest⟩
  · refine ⟨none, 0, by rw [e1, e2], by omega, by omega, fun j t hj => ?_⟩
    have := (List.getElem?_eq_some_iff.1 hj).1
    omega
  · refine ⟨some ⟨q, 0, none⟩, cap, e1, e4, by unfold maxLen at hm; omega, fun j t hj => ?_⟩
    have hjl : j < R.length := (List.getElem?_eq_some_iff.1 hj).1
    have hc := tcs_get hj
    subst e1
    refine ⟨q, rfl, e2, (Array.getElem?_eq_some_iff.1 e3).1, ?_, ?_, ?_⟩
    · rw [World.ownsRow.cellAt h1 (j * 3) (by omega)]; exact hc.1
    · rw [World.ownsRow.cellAt h1 (j * 3 + 1) (by omega)]; exact hc.2.1
    · rw [World.ownsRow.cellAt h1 (j * 3 + 2) (by omega)]; exact hc.2.2
set_option maxRecDepth 20000 in
set_option maxHeartbeats 8000000 in
theorem turns_walk (n : Int) (l : List Int) (ao : Option Addr) (m cp : Nat) (w : World) (hL : IL w (fun k => k < w.heap.size) ao l) (hm : l.length = m) (hc : m ≤ cp) (hcm : cp ≤ 9223372036854775807) (hl : m ≤ 1048576) :
    Calls Try.prog 3 #[.int .i64 n, .slice ao m cp] w fun e w' => e = .returned (.bool true) ∧ Below w.heap.size w w' := by
  have HR := Ring_any n l ao m cp w hL hm hc hcm hl
  have HL : Hid (IL w (fun k => k < w.heap.size) ao l) := hL
  clear hL
  go_enter Try.func3, Try.ntmps3
  go_wp2_with fail
  refine HR.mono ?_
  rintro e w1 ⟨hb1, ⟨hbad, rfl⟩ | ⟨N, v, base, rfl, hN1, hN2, rfl, hbase, hOT⟩⟩
  · have HW := Wrong_any n w1
    rw [if_pos hbad] at HW
    have HB : Hid (Below w.heap.size w w1) := hb1
    clear HR hb1 HL
    go_wp2_with fail
    refine HW.mono ?_
    rintro e w2 ⟨rfl, hw⟩
    rw [hw]
    clear hw HW
    go_wp2_with fail
    go_ret
    exact ⟨rfl, HB.out⟩
  · have HW := Wrong_any (N : Int) w1
    rw [if_neg (by omega)] at HW
    obtain ⟨ga, gc, rfl, g1, g2, g3⟩ := hOT.rd
    rw [tus_len, hm] at g1 ⊢
    have HG : Hid (∀ j t, (tus N [] l)[j]? = some t → ∃ b, ga = some ⟨b, 0, none⟩ ∧ base ≤ b ∧ b < w1.heap.size ∧ w1.cell? ⟨b, j * 3, none⟩ = some (.int .i64 t.k) ∧ w1.cell? ⟨b, j * 3 + 1, none⟩ = some (.bool t.ok) ∧ w1.cell? ⟨b, j * 3 + 2, none⟩ = some (.int .i64 t.len)) := g3
    have HB : Hid (Below w.heap.size w w1) := hb1
    have z1 := hb1.size
    clear HR hb1 g3 hOT
    go_wp2_with fail
    refine HW.mono ?_
    rintro e w2 ⟨rfl, hw⟩
    rw [hw]
    clear hw HW
    go_wp2_with fail
    go_loopw [42, 8] (fun i v ww => ∃ k : Nat, k ≤ m ∧ i = .int .i64 k ∧ (∃ ia ic, v = .slice ia (qs N [] (l.take k)).length ic ∧ (qs N [] (l.take k)).length ≤ ic ∧ ic ≤ 9223372036854775807 ∧ Hid (ia = none → ic = 0) ∧ Hid (IL ww (fun b => w1.heap.size ≤ b) ia (qs N [] (l.take k)))) ∧ Hid (Below w1.heap.size w1 ww)) (fun i _ _ => m - (intOf i).toNat)
    case atStart => exact ⟨0, Nat.zero_le _, rfl, ⟨none, 0, rfl, Nat.zero_le _, by omega, fun _ => rfl, IL.nil _ _ _⟩, Below.refl _ _⟩
    case round =>
      obtain ⟨k, hk, rfl, ⟨ia, ic, rfl, i1, i2, hin, hil⟩, hbr⟩ := hrel
      by_cases hlt : k < m
      · obtain ⟨x, hx⟩ : ∃ x, l[k]? = some x := ⟨_, List.getElem?_eq_getElem (by omega)⟩
        have hbw : Below w.heap.size w wr := HB.out.trans (hbr.out.mono HB.out.size)
        obtain ⟨nb, of, rfl, hnb, hnb2, q0⟩ := (HL.out.keep (fun j hj _ => hbw.block j hj) hbw.size (fun b hb _ => hb)).at' (by omega)
        have cx := q0 k x hx
        have hlt' : (k : Int) < (m : Int) := by omega
        have w3 : IntKind.i64.wrap ((k : Int) + 1) = (k : Int) + 1 := wid (by omega) (by omega)
        have HT2 : Hid (qs N [] (l.take (k + 1)) = nq N (qs N [] (l.take k)) x) := by show _ = _; rw [take_one hx, qs_app]
        have hql : (qs N [] (l.take k)).length ≤ N := qs_le (Nat.zero_le _) _
        obtain ⟨gb, rfl, gb1, gb2, gc0, gc1, gc2⟩ := HG.out k _ (tus_get (n := N) (q := []) hx)
        generalize qs N [] (l.take k) = q at *
        have htl : (tu N q x).len = (nq N q x).length := rfl
        rw [htl] at gc2
        have hcall := Turn_any w1.heap.size N q ia q.length ic x wr hil.out rfl i1 i2 hin.out hql hN2 hbr.out.size
        have zr := hbr.out.size
        have d0 := keepC hbr.out gb2 gc0
        have d1 := keepC hbr.out gb2 gc1
        have d2 := keepC hbr.out gb2 gc2
        clear q0 hx hin hil gc0 gc1 gc2 htl hbw
        go_wp2_with fail
        refine hcall.mono ?_
        rintro e w2 ⟨hb2, oa, oc, rfl, o1, o2, o3, o4⟩
        have e0 := keepC (a := ⟨gb, k * 3, none⟩) hb2 (by show gb < _; omega) d0
        have e1 := keepC (a := ⟨gb, k * 3 + 1, none⟩) hb2 (by show gb < _; omega) d1
        have e2 := keepC (a := ⟨gb, k * 3 + 2, none⟩) hb2 (by show gb < _; omega) d2
        have HI : Hid (IL w2 (fun b => w1.heap.size ≤ b) oa (nq N q x)) := o4
        have HO : Hid (oa = none → oc = 0) := o3
        have HLl : Hid (∃ L, L = (nq N q x).length) := ⟨_, rfl⟩
        have HB2 : Hid (Below w1.heap.size w1 w2) := hbr.out.trans (hb2.mono zr)
        obtain ⟨L, hL⟩ := HLl.out
        have HLq : Hid (L = (nq N q x).length) := hL
        rw [← hL] at o1 e2 ⊢
        generalize (tu N q x).k = K at *
        generalize (tu N q x).ok = OK at *
        have z2 := hb2.size
        clear o3 o4 d0 d1 d2 hcall hL hb2 hbr HLl
        go_wp2_with fail
        refine ⟨⟨k + 1, by omega, by go_num, ⟨oa, oc, ?_, ?_, o2, HO, ?_⟩, HB2⟩, by simp [intOf]; omega⟩
        · rw [HT2.out, ← HLq.out]
        · rw [HT2.out, ← HLq.out]; exact o1
        · rw [HT2.out]; exact HI
      · obtain rfl : k = m := by omega
        have hd : decide ((k : Int) < (k : Int)) = false := by simp
        have HF : Hid (Below w.heap.size w wr) := HB.out.trans (hbr.out.mono HB.out.size)
        clear hbr hin hil HG HL
        go_wp2_with fail
        go_ret
        exact ⟨rfl, HF.out⟩
end Go.Proofs.Ytggbbekgmjkplaa.Rg
