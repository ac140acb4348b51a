/- What the closure that changes a tone comes to. -/
import Derived.Test.YtjakaceckmhjiafDoorY4
import Derived.Deep.DeepCutAuto
namespace Go.Proofs.YtjakaceckmhjiafDoor.Y
open Go.RowKit Go.Sort
set_option linter.unusedVariables false
set_option linter.unusedSimpArgs false

/-- The function that changes pitches. -/
def SV (w : World) (v : Value) (c : Ch) : Prop := ∃ b1, CB w b1 c ∧ ((c.mir = false ∧ v = .func (.func 49) #[] #[.pointer (some ⟨b1, 0, none⟩)]) ∨ (c.mir = true ∧ ∃ b2, b2 < w.heap.size ∧ w.cell? ⟨b2, 0, none⟩ = some (.func (.func 49) #[] #[.pointer (some ⟨b1, 0, none⟩)]) ∧ v = .func (.func 51) #[] #[.pointer (some ⟨b1, 0, none⟩), .pointer (some ⟨b2, 0, none⟩)]))
theorem SV.keep {w w' : World} {v : Value} {c : Ch} (h : SV w v c) (hb : Below w.heap.size w w') : SV w' v c := by
  obtain ⟨b1, hc, h⟩ := h
  refine ⟨b1, hc.keep hb, ?_⟩
  rcases h with h | ⟨hm, b2, hl, hcell, hv⟩
  · exact .inl h
  · exact .inr ⟨hm, b2, by have := hb.size; omega, keepC hb hl hcell, hv⟩

/-- What a change makes of a tone. -/
def TQ (c : Ch) (E : Int) (x : Tn) (e : Ending) : Prop := ∃ y : Tn, e = .returned (.tuple #[.agg #[.int .i64 y.t, .int .i64 y.g, .int .i64 y.l, .int .i64 y.a, .int .i64 y.o], .int .i64 (ce c E x)]) ∧ (ce c E x = 0 → y = cx c E x)

theorem sl_bd (s t : Int) (h1 : 1 ≤ s) (h2 : s ≤ 16) (h3 : 0 ≤ t) (h4 : t ≤ 2097152) : 0 ≤ s * t ∧ s * t ≤ 33554432 :=
  ⟨Int.mul_nonneg (by omega) h3, by have := Int.mul_le_mul h2 h4 h3 (by omega); omega⟩

/-- What stands behind the call of sounding. -/
structure Aft (w w1 : World) (c : Ch) (A1 : Int) (x : Tn) (b1 pb : Nat) (A B C : Int) : Prop where
  bel : Below w.heap.size w w1
  cb : CB w1 b1 c
  sz : w.heap.size + 1 < w1.heap.size
  t0 : w1.cell? ⟨w.heap.size, 0, none⟩ = some (.int .i64 A1)
  t1 : w1.cell? ⟨w.heap.size, 1, none⟩ = some (.int .i64 x.g)
  d0 : w1.cell? ⟨w.heap.size + 1, 0, none⟩ = some (.int .i64 0)
  d1 : w1.cell? ⟨w.heap.size + 1, 1, none⟩ = some (.int .i64 0)
  d2 : w1.cell? ⟨w.heap.size + 1, 2, none⟩ = some (.int .i64 0)
  d3 : w1.cell? ⟨w.heap.size + 1, 3, none⟩ = some (.int .i64 0)
  d4 : w1.cell? ⟨w.heap.size + 1, 4, none⟩ = some (.int .i64 0)
  f0 : w1.frozen? ⟨w.heap.size + 1, 0, none⟩ = false
  f1 : w1.frozen? ⟨w.heap.size + 1, 1, none⟩ = false
  f2 : w1.frozen? ⟨w.heap.size + 1, 2, none⟩ = false
  f3 : w1.frozen? ⟨w.heap.size + 1, 3, none⟩ = false
  f4 : w1.frozen? ⟨w.heap.size + 1, 4, none⟩ = false
  pl : pb < w1.heap.size
  p0 : w1.cell? ⟨pb, 0, none⟩ = some (.int .i64 A)
  p1 : w1.cell? ⟨pb, 1, none⟩ = some (.int .i64 B)
  p2 : w1.cell? ⟨pb, 2, none⟩ = some (.int .i64 C)
theorem Aft.mk' {w w1 : World} {c : Ch} {A1 : Int} {x : Tn} {b1 : Nat} {A B C : Int} (hc : CB w b1 c)
    (hb1 : Below (w.heap.size + 1 + 1) ((w.alloc (Obj.cells #[.int .i64 A1, .int .i64 x.g, .int .i64 x.l, .int .i64 x.a, .int .i64 x.o] 44)).alloc (Obj.cells #[.int .i64 0, .int .i64 0, .int .i64 0, .int .i64 0, .int .i64 0] 44)) w1) :
    Aft w (w1.alloc (Obj.cells #[.int .i64 A, .int .i64 B, .int .i64 C] 24)) c A1 x b1 w1.heap.size A B C := by
  have z1 := hb1.size
  simp at z1
  have h01 : Below w.heap.size w w1 := Below.trans (by go_grown) (hb1.mono (by omega))
  have h02 : Below w.heap.size w (w1.alloc (Obj.cells #[.int .i64 A, .int .i64 B, .int .i64 C] 24)) := h01.alloc h01.size _
  have s0 : w.heap.size < w1.heap.size := by omega
  have s1 : w.heap.size + 1 < w1.heap.size := by omega
  have y0 : w.heap.size ≠ w1.heap.size := by omega
  have y1 : w.heap.size + 1 ≠ w1.heap.size := by omega
  have hb2 : Below (w.heap.size + 1 + 1) ((w.alloc (Obj.cells #[.int .i64 A1, .int .i64 x.g, .int .i64 x.l, .int .i64 x.a, .int .i64 x.o] 44)).alloc (Obj.cells #[.int .i64 0, .int .i64 0, .int .i64 0, .int .i64 0, .int .i64 0] 44)) (w1.alloc (Obj.cells #[.int .i64 A, .int .i64 B, .int .i64 C] 24)) := hb1.alloc (by omega) _
  exact ⟨h02, hc.keep h02, by simp; omega, keepC hb2 (by omega) (by simp [go_sem]), keepC hb2 (by omega) (by simp [go_sem]), keepC hb2 (by omega) (by simp [go_sem]), keepC hb2 (by omega) (by simp [go_sem]), keepC hb2 (by omega) (by simp [go_sem]), keepC hb2 (by omega) (by simp [go_sem]), keepC hb2 (by omega) (by simp [go_sem]), keepF hb2 (by omega) (by simp [go_sem]), keepF hb2 (by omega) (by simp [go_sem]), keepF hb2 (by omega) (by simp [go_sem]), keepF hb2 (by omega) (by simp [go_sem]), keepF hb2 (by omega) (by simp [go_sem]), by simp, by simp [go_sem], by simp [go_sem], by simp [go_sem]⟩
theorem rep1_pq (b : Nat) (c : Ch) (l a o : Int) (w : World) (ht : Tab w) (hc : CB w b c) (hm : c.mir = false) :
    Calls Tryd.prog 49 #[.agg #[.int .i64 l, .int .i64 a, .int .i64 o], .pointer (some ⟨b, 0, none⟩)] w fun e w' => PQ c l a o e ∧ Below w.heap.size w w' :=
  (rep1_any b c l a o w ht hc).mono fun e w' ⟨he, hb⟩ => ⟨by
    obtain ⟨e1, e2, e3, e4⟩ := pe_plain (l := l) (a := a) (o := o) hm
    exact ⟨_, _, _, by rw [he, e1], fun _ => ⟨e2.symm, e3.symm, e4.symm⟩⟩, hb⟩
theorem ce_pe {c : Ch} {E : Int} {x : Tn} (h : pe c x.l x.a x.o ≠ 0) : ce c E x = pe c x.l x.a x.o := by unfold ce; rw [if_pos h]
theorem ce_far {c : Ch} {E : Int} {x : Tn} (h : pe c x.l x.a x.o = 0) (h2 : far c E x = true) : ce c E x = 4 := by unfold ce; rw [if_neg (by simp [h]), if_pos h2]

set_option maxRecDepth 20000 in
set_option maxHeartbeats 8000000 in
theorem chg1_any (c : Ch) (E : Int) (x : Tn) (b1 b2 b3 : Nat) (sv : Value) (w : World) (ht : Tab w) (hc : CB w b1 c) (h2 : b2 < w.heap.size) (e2 : w.cell? ⟨b2, 0, none⟩ = some (.int .i64 E)) (h3 : b3 < w.heap.size) (e3 : w.cell? ⟨b3, 0, none⟩ = some sv) (hs : SV w sv c) (hr : rng c = true) (hok : okT x = true) (hE1 : x.t + x.g ≤ E) (hE2 : E ≤ 2097152) :
    Calls Tryd.prog 38 #[.agg #[.int .i64 x.t, .int .i64 x.g, .int .i64 x.l, .int .i64 x.a, .int .i64 x.o], .pointer (some ⟨b1, 0, none⟩), .pointer (some ⟨b2, 0, none⟩), .pointer (some ⟨b3, 0, none⟩)] w fun e w' => TQ c E x e ∧ Below w.heap.size w w' := by
  have hc0 := hc
  obtain ⟨lt, c0, c1, c2, c3, c4, c5, c6, c7, c8⟩ := hc
  obtain ⟨o1, o2, o3, o4⟩ := okT_yes hok
  obtain ⟨r1, r2, r3, r4⟩ := rng_yes hr
  have n1 : b1 ≠ w.heap.size := by omega
  have n2 : b2 ≠ w.heap.size := by omega
  have n3 : b3 ≠ w.heap.size := by omega
  have n1' : b1 ≠ w.heap.size + 1 := by omega
  have n2' : b2 ≠ w.heap.size + 1 := by omega
  have n3' : b3 ≠ w.heap.size + 1 := by omega
  obtain ⟨q1, hq1, hs⟩ := hs
  have HA0 : Hid (c.back = false → a1 c E x = x.t) := fun h => by unfold a1; rw [h]; rfl
  have HA1 : Hid (c.back = true → a1 c E x = E - x.t - x.g) := fun h => by unfold a1; rw [h]; rfl
  have hA : 0 ≤ a1 c E x ∧ a1 c E x ≤ 2097152 := by cases hbk : c.back; (rw [HA0.out hbk]; omega); (rw [HA1.out hbk]; omega)
  obtain ⟨m1, m2⟩ := sl_bd c.slow (a1 c E x) r1 r2 hA.1 hA.2
  obtain ⟨m3, m4⟩ := sl_bd c.slow x.g r1 r2 (by omega) (by omega)
  have HF0 : Hid (pe c x.l x.a x.o = 0 → far c E x = false → TQ c E x (.returned (.tuple #[.agg #[.int .i64 (c.slow * a1 c E x + c.d), .int .i64 (c.slow * x.g), .int .i64 (px c x.l x.a x.o), .int .i64 (py c x.l x.a x.o), .int .i64 (pz c x.l x.a x.o)], .int .i64 0]))) := fun hpe hf => ⟨cx c E x, by rw [ce_mk hpe hf]; rfl, fun _ => rfl⟩
  have HF4 : Hid (pe c x.l x.a x.o = 0 → far c E x = true → TQ c E x (.returned (.tuple #[.agg #[.int .i64 0, .int .i64 0, .int .i64 0, .int .i64 0, .int .i64 0], .int .i64 4]))) := fun hpe hf => ⟨⟨0, 0, 0, 0, 0⟩, by rw [ce_far hpe hf], fun h => absurd ((ce_far hpe hf).symm.trans h) (by decide)⟩
  have HFE : Hid (pe c x.l x.a x.o ≠ 0 → TQ c E x (.returned (.tuple #[.agg #[.int .i64 0, .int .i64 0, .int .i64 0, .int .i64 0, .int .i64 0], .int .i64 (pe c x.l x.a x.o)]))) := fun hpe => ⟨⟨0, 0, 0, 0, 0⟩, by rw [ce_pe hpe], fun h => absurd ((ce_pe hpe).symm.trans h) hpe⟩
  have HFR : Hid (far c E x = (decide (1048576 < c.slow * a1 c E x + c.d) || decide (1048576 < c.slow * x.g))) := rfl
  go_enter Tryd.func38, Tryd.ntmps38
  go_upto_if 11 with fail
  go_cut [] (fun wx => wx = (w.alloc (Obj.cells #[.int .i64 (a1 c E x), .int .i64 x.g, .int .i64 x.l, .int .i64 x.a, .int .i64 x.o] 44)).alloc (Obj.cells #[.int .i64 0, .int .i64 0, .int .i64 0, .int .i64 0, .int .i64 0] 44))
  case first =>
    clear HF0 HF4 HFE HFR m1 m2 m3 m4 hA
    cases hbk : c.back
    · have e := HA0.out hbk
      rw [hbk] at c0
      go_wp2_with fail
      go_meet
      case rel => rw [e]
    · have e := HA1.out hbk
      rw [hbk] at c0
      go_wp2_with fail
      go_meet
      case rel => rw [e]
  case rest =>
    subst hcut
    clear HA0 HA1
    generalize a1 c E x = A1 at *
    go_upto_region 3 with fail
    go_cut [7, 8] (fun p e wx => ∃ (A B C : Int) (pb : Nat), p = .pointer (some ⟨pb, 0, none⟩) ∧ e = .int .i64 (pe c x.l x.a x.o) ∧ Hid (pe c x.l x.a x.o = 0 → A = px c x.l x.a x.o ∧ B = py c x.l x.a x.o ∧ C = pz c x.l x.a x.o) ∧ Aft w wx c A1 x b1 pb A B C)
    case first =>
      clear HF0 HF4 HFE HFR m1 m2 m3 m4 hA
      rcases hs with ⟨hm, rfl⟩ | ⟨hm, q2, hq2, hcell, rfl⟩
      · skip
        go_wp2_with fail
        refine (rep1_pq q1 c x.l x.a x.o _ (ht.step (by go_grown)) (hq1.keep (by go_grown)) hm).mono ?_
        rintro e w1 ⟨⟨A, B, C, rfl, hpq⟩, hb1⟩
        have hAf := Aft.mk' (A := A) (B := B) (C := C) hc0 (hb1.mono (by simp))
        have HPQ : Hid _ := hpq
        clear hpq hb1
        generalize pe c x.l x.a x.o = PE at *
        go_wp2_with fail
        go_meet
        case rel => exact ⟨A, B, C, w1.heap.size, rfl, rfl, HPQ.out, hAf⟩
      · have nq2 : q2 ≠ w.heap.size := by omega
        have nq2' : q2 ≠ w.heap.size + 1 := by omega
        go_wp2_with fail
        refine (rep2_any q1 q2 c x.l x.a x.o _ (ht.step (by go_grown)) (hq1.keep (by go_grown)) (by simp; omega) (by simp [go_sem, hcell, nq2, nq2', hq2]) hm).mono ?_
        rintro e w1 ⟨⟨A, B, C, rfl, hpq⟩, hb1⟩
        have hAf := Aft.mk' (A := A) (B := B) (C := C) hc0 (hb1.mono (by simp))
        have HPQ : Hid _ := hpq
        clear hpq hb1
        generalize pe c x.l x.a x.o = PE at *
        go_wp2_with fail
        go_meet
        case rel => exact ⟨A, B, C, w1.heap.size, rfl, rfl, HPQ.out, hAf⟩
    case rest =>
      obtain ⟨A, B, C, pb, rfl, rfl, hpq, hAf⟩ := hcut
      obtain ⟨h01, hcb, s1, t0, t1, d0, d1, d2, d3, d4, f0, f1, f2, f3, f4, pl, p0, p1, p2⟩ := hAf
      have k1 := hcb.c1
      have k8 := hcb.c8
      have kl := hcb.lt
      have s0 : w.heap.size < wc.heap.size := by omega
      clear c0 c1 c2 c3 c4 c5 c6 c7 c8 hc0 hcb ht hq1 hs e2 e3 n1 n2 n3 n1' n2' n3' hE1 hE2 hok
      by_cases hpe : pe c x.l x.a x.o = 0
      · have hpe2 : (pe c x.l x.a x.o != 0) = false := by simp [hpe]
        obtain ⟨eA, eB, eC⟩ := hpq.out hpe
        subst eA eB eC
        have HG0 : Hid _ := HF0.out hpe
        have HG4 : Hid _ := HF4.out hpe
        clear HF0 HF4 HFE hpq
        generalize px c x.l x.a x.o = PX at *
        generalize py c x.l x.a x.o = PY at *
        generalize pz c x.l x.a x.o = PZ at *
        generalize pe c x.l x.a x.o = PE at *
        cases hf : far c E x
        · have HH : Hid _ := HG0.out hf
          have hf2 := HFR.out
          rw [hf] at hf2
          simp at hf2
          obtain ⟨g1, g2⟩ := hf2
          clear HG0 HG4 HFR hf
          have g1' : ¬ 1048576 < c.slow * A1 + c.d := by omega
          have g2' : ¬ 1048576 < c.slow * x.g := by omega
          go_upto_region 9 with fail
          generalize hW2 : wc.alloc _ = W2
          have sW : w.heap.size + 1 < W2.heap.size := by rw [← hW2]; simp; omega
          have sV : wc.heap.size < W2.heap.size := by rw [← hW2]; simp
          have hBW : Below w.heap.size w W2 := by rw [← hW2]; exact h01.alloc h01.size _
          have y1 : w.heap.size + 1 ≠ wc.heap.size := by omega
          have v0 : W2.cell? ⟨wc.heap.size, 0, none⟩ = some (.int .i64 (c.slow * A1 + c.d)) := by rw [← hW2]; simp [go_sem]
          have v1 : W2.cell? ⟨wc.heap.size, 1, none⟩ = some (.int .i64 (c.slow * x.g)) := by rw [← hW2]; simp [go_sem]
          have v2 : W2.cell? ⟨wc.heap.size, 2, none⟩ = some (.int .i64 PX) := by rw [← hW2]; simp [go_sem]
          have v3 : W2.cell? ⟨wc.heap.size, 3, none⟩ = some (.int .i64 PY) := by rw [← hW2]; simp [go_sem]
          have v4 : W2.cell? ⟨wc.heap.size, 4, none⟩ = some (.int .i64 PZ) := by rw [← hW2]; simp [go_sem]
          replace d0 : W2.cell? ⟨w.heap.size + 1, 0, none⟩ = some (.int .i64 0) := by rw [← hW2]; simp [go_sem, d0, s1, y1]
          replace d1 : W2.cell? ⟨w.heap.size + 1, 1, none⟩ = some (.int .i64 0) := by rw [← hW2]; simp [go_sem, d1, s1, y1]
          replace d2 : W2.cell? ⟨w.heap.size + 1, 2, none⟩ = some (.int .i64 0) := by rw [← hW2]; simp [go_sem, d2, s1, y1]
          replace d3 : W2.cell? ⟨w.heap.size + 1, 3, none⟩ = some (.int .i64 0) := by rw [← hW2]; simp [go_sem, d3, s1, y1]
          replace d4 : W2.cell? ⟨w.heap.size + 1, 4, none⟩ = some (.int .i64 0) := by rw [← hW2]; simp [go_sem, d4, s1, y1]
          replace f0 : W2.frozen? ⟨w.heap.size + 1, 0, none⟩ = false := by rw [← hW2]; simp [go_sem, f0, s1, y1]
          replace f1 : W2.frozen? ⟨w.heap.size + 1, 1, none⟩ = false := by rw [← hW2]; simp [go_sem, f1, s1, y1]
          replace f2 : W2.frozen? ⟨w.heap.size + 1, 2, none⟩ = false := by rw [← hW2]; simp [go_sem, f2, s1, y1]
          replace f3 : W2.frozen? ⟨w.heap.size + 1, 3, none⟩ = false := by rw [← hW2]; simp [go_sem, f3, s1, y1]
          replace f4 : W2.frozen? ⟨w.heap.size + 1, 4, none⟩ = false := by rw [← hW2]; simp [go_sem, f4, s1, y1]
          clear hW2 s1 y1 s0 kl h01 t0 t1 p0 p1 p2 pl k1 k8
          go_wp2_with fail
          refine bodyPost_ret (v := .tuple #[.agg #[.int .i64 (c.slow * A1 + c.d), .int .i64 (c.slow * x.g), .int .i64 PX, .int .i64 PY, .int .i64 PZ], .int .i64 0]) (by simp [results, Tryd.results38, go_sem, d0, d1, d2, d3, d4]) rfl ⟨HH.out, ?_⟩
          all_goals (repeat' (first | exact hBW | refine Below.setCell ?_ ?_ _ | refine Below.alloc ?_ ?_ _))
          all_goals first | (simp; done) | (simp; omega) | omega
        · have HH : Hid _ := HG4.out hf
          have hf2 := HFR.out
          rw [hf] at hf2
          simp at hf2
          clear HG0 HG4 HFR hf
          by_cases g1 : 1048576 < c.slow * A1 + c.d
          · clear hf2
            go_upto_region 8 with fail
            generalize hW2 : wc.alloc _ = W2
            have sW : w.heap.size + 1 < W2.heap.size := by rw [← hW2]; simp; omega
            have sV : wc.heap.size < W2.heap.size := by rw [← hW2]; simp
            have hBW : Below w.heap.size w W2 := by rw [← hW2]; exact h01.alloc h01.size _
            have y1 : w.heap.size + 1 ≠ wc.heap.size := by omega
            have v0 : W2.cell? ⟨wc.heap.size, 0, none⟩ = some (.int .i64 (c.slow * A1 + c.d)) := by rw [← hW2]; simp [go_sem]
            have v1 : W2.cell? ⟨wc.heap.size, 1, none⟩ = some (.int .i64 (c.slow * x.g)) := by rw [← hW2]; simp [go_sem]
            have v2 : W2.cell? ⟨wc.heap.size, 2, none⟩ = some (.int .i64 PX) := by rw [← hW2]; simp [go_sem]
            have v3 : W2.cell? ⟨wc.heap.size, 3, none⟩ = some (.int .i64 PY) := by rw [← hW2]; simp [go_sem]
            have v4 : W2.cell? ⟨wc.heap.size, 4, none⟩ = some (.int .i64 PZ) := by rw [← hW2]; simp [go_sem]
            replace d0 : W2.cell? ⟨w.heap.size + 1, 0, none⟩ = some (.int .i64 0) := by rw [← hW2]; simp [go_sem, d0, s1, y1]
            replace d1 : W2.cell? ⟨w.heap.size + 1, 1, none⟩ = some (.int .i64 0) := by rw [← hW2]; simp [go_sem, d1, s1, y1]
            replace d2 : W2.cell? ⟨w.heap.size + 1, 2, none⟩ = some (.int .i64 0) := by rw [← hW2]; simp [go_sem, d2, s1, y1]
            replace d3 : W2.cell? ⟨w.heap.size + 1, 3, none⟩ = some (.int .i64 0) := by rw [← hW2]; simp [go_sem, d3, s1, y1]
            replace d4 : W2.cell? ⟨w.heap.size + 1, 4, none⟩ = some (.int .i64 0) := by rw [← hW2]; simp [go_sem, d4, s1, y1]
            replace f0 : W2.frozen? ⟨w.heap.size + 1, 0, none⟩ = false := by rw [← hW2]; simp [go_sem, f0, s1, y1]
            replace f1 : W2.frozen? ⟨w.heap.size + 1, 1, none⟩ = false := by rw [← hW2]; simp [go_sem, f1, s1, y1]
            replace f2 : W2.frozen? ⟨w.heap.size + 1, 2, none⟩ = false := by rw [← hW2]; simp [go_sem, f2, s1, y1]
            replace f3 : W2.frozen? ⟨w.heap.size + 1, 3, none⟩ = false := by rw [← hW2]; simp [go_sem, f3, s1, y1]
            replace f4 : W2.frozen? ⟨w.heap.size + 1, 4, none⟩ = false := by rw [← hW2]; simp [go_sem, f4, s1, y1]
            clear hW2 s1 y1 s0 kl h01 t0 t1 p0 p1 p2 pl k1 k8
            go_wp2_with fail
            refine bodyPost_ret (v := .tuple #[.agg #[.int .i64 0, .int .i64 0, .int .i64 0, .int .i64 0, .int .i64 0], .int .i64 4]) (by simp [results, Tryd.results38, go_sem, d0, d1, d2, d3, d4]) rfl ⟨HH.out, ?_⟩
            all_goals (repeat' (first | exact hBW | refine Below.setCell ?_ ?_ _ | refine Below.alloc ?_ ?_ _))
            all_goals first | (simp; done) | (simp; omega) | omega
          · have g2 : 1048576 < c.slow * x.g := by omega
            clear hf2
            go_upto_region 8 with fail
            generalize hW2 : wc.alloc _ = W2
            have sW : w.heap.size + 1 < W2.heap.size := by rw [← hW2]; simp; omega
            have sV : wc.heap.size < W2.heap.size := by rw [← hW2]; simp
            have hBW : Below w.heap.size w W2 := by rw [← hW2]; exact h01.alloc h01.size _
            have y1 : w.heap.size + 1 ≠ wc.heap.size := by omega
            have v0 : W2.cell? ⟨wc.heap.size, 0, none⟩ = some (.int .i64 (c.slow * A1 + c.d)) := by rw [← hW2]; simp [go_sem]
            have v1 : W2.cell? ⟨wc.heap.size, 1, none⟩ = some (.int .i64 (c.slow * x.g)) := by rw [← hW2]; simp [go_sem]
            have v2 : W2.cell? ⟨wc.heap.size, 2, none⟩ = some (.int .i64 PX) := by rw [← hW2]; simp [go_sem]
            have v3 : W2.cell? ⟨wc.heap.size, 3, none⟩ = some (.int .i64 PY) := by rw [← hW2]; simp [go_sem]
            have v4 : W2.cell? ⟨wc.heap.size, 4, none⟩ = some (.int .i64 PZ) := by rw [← hW2]; simp [go_sem]
            replace d0 : W2.cell? ⟨w.heap.size + 1, 0, none⟩ = some (.int .i64 0) := by rw [← hW2]; simp [go_sem, d0, s1, y1]
            replace d1 : W2.cell? ⟨w.heap.size + 1, 1, none⟩ = some (.int .i64 0) := by rw [← hW2]; simp [go_sem, d1, s1, y1]
            replace d2 : W2.cell? ⟨w.heap.size + 1, 2, none⟩ = some (.int .i64 0) := by rw [← hW2]; simp [go_sem, d2, s1, y1]
            replace d3 : W2.cell? ⟨w.heap.size + 1, 3, none⟩ = some (.int .i64 0) := by rw [← hW2]; simp [go_sem, d3, s1, y1]
            replace d4 : W2.cell? ⟨w.heap.size + 1, 4, none⟩ = some (.int .i64 0) := by rw [← hW2]; simp [go_sem, d4, s1, y1]
            replace f0 : W2.frozen? ⟨w.heap.size + 1, 0, none⟩ = false := by rw [← hW2]; simp [go_sem, f0, s1, y1]
            replace f1 : W2.frozen? ⟨w.heap.size + 1, 1, none⟩ = false := by rw [← hW2]; simp [go_sem, f1, s1, y1]
            replace f2 : W2.frozen? ⟨w.heap.size + 1, 2, none⟩ = false := by rw [← hW2]; simp [go_sem, f2, s1, y1]
            replace f3 : W2.frozen? ⟨w.heap.size + 1, 3, none⟩ = false := by rw [← hW2]; simp [go_sem, f3, s1, y1]
            replace f4 : W2.frozen? ⟨w.heap.size + 1, 4, none⟩ = false := by rw [← hW2]; simp [go_sem, f4, s1, y1]
            clear hW2 s1 y1 s0 kl h01 t0 t1 p0 p1 p2 pl k1 k8
            go_wp2_with fail
            refine bodyPost_ret (v := .tuple #[.agg #[.int .i64 0, .int .i64 0, .int .i64 0, .int .i64 0, .int .i64 0], .int .i64 4]) (by simp [results, Tryd.results38, go_sem, d0, d1, d2, d3, d4]) rfl ⟨HH.out, ?_⟩
            all_goals (repeat' (first | exact hBW | refine Below.setCell ?_ ?_ _ | refine Below.alloc ?_ ?_ _))
            all_goals first | (simp; done) | (simp; omega) | omega
      · have hpe2 : (pe c x.l x.a x.o != 0) = true := by simp [hpe]
        have HH : Hid _ := HFE.out hpe
        clear HF0 HF4 HFE HFR hpq m1 m2 m3 m4 t0 t1 p0 p1 p2 pl k1 k8 kl s0
        generalize pe c x.l x.a x.o = PE at *
        go_wp2_with fail
        refine bodyPost_ret (v := .tuple #[.agg #[.int .i64 0, .int .i64 0, .int .i64 0, .int .i64 0, .int .i64 0], .int .i64 PE]) (by simp [results, Tryd.results38, go_sem, d0, d1, d2, d3, d4]) rfl ⟨HH.out, ?_⟩
        all_goals (repeat' (first | exact h01 | refine Below.setCell ?_ ?_ _ | refine Below.alloc ?_ ?_ _))
        all_goals first | (simp; done) | (simp; omega) | omega
end Go.Proofs.YtjakaceckmhjiafDoor.Y
