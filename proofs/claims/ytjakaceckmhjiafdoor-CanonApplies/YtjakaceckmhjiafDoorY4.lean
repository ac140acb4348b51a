/- What the closures that change a tone come to. -/
import Derived.Test.YtjakaceckmhjiafDoorY2
import Derived.Test.YtjakaceckmhjiafDoorQW5
namespace Go.Proofs.YtjakaceckmhjiafDoor.Y
open Go.RowKit Go.Sort
set_option linter.unusedVariables false
set_option linter.unusedSimpArgs false

/-- A change lies in a block. -/
structure CB (w : World) (b : Nat) (c : Ch) : Prop where
  lt : b < w.heap.size
  c0 : w.cell? ⟨b, 0, none⟩ = some (.bool c.back)
  c1 : w.cell? ⟨b, 1, none⟩ = some (.int .i64 c.slow)
  c2 : w.cell? ⟨b, 2, none⟩ = some (.bool c.mir)
  c3 : w.cell? ⟨b, 3, none⟩ = some (.int .i64 c.xl)
  c4 : w.cell? ⟨b, 4, none⟩ = some (.int .i64 c.xa)
  c5 : w.cell? ⟨b, 5, none⟩ = some (.int .i64 c.xo)
  c6 : w.cell? ⟨b, 6, none⟩ = some (.int .i64 c.s)
  c7 : w.cell? ⟨b, 7, none⟩ = some (.int .i64 c.h)
  c8 : w.cell? ⟨b, 8, none⟩ = some (.int .i64 c.d)
theorem CB.keep {w w' : World} {b : Nat} {c : Ch} (h : CB w b c) (hb : Below w.heap.size w w') : CB w' b c :=
  ⟨by have := hb.size; have := h.lt; omega, keepC hb h.lt h.c0, keepC hb h.lt h.c1, keepC hb h.lt h.c2, keepC hb h.lt h.c3, keepC hb h.lt h.c4, keepC hb h.lt h.c5, keepC hb h.lt h.c6, keepC hb h.lt h.c7, keepC hb h.lt h.c8⟩
/-- The value of a change. -/
abbrev chv (c : Ch) : Value := .agg #[.bool c.back, .int .i64 c.slow, .bool c.mir, .int .i64 c.xl, .int .i64 c.xa, .int .i64 c.xo, .int .i64 c.s, .int .i64 c.h, .int .i64 c.d]

/-- moved. -/
theorem rep1_any (b : Nat) (c : Ch) (l a o : Int) (w : World) (ht : Tab w) (hc : CB w b c) :
    Calls Tryd.prog 49 #[.agg #[.int .i64 l, .int .i64 a, .int .i64 o], .pointer (some ⟨b, 0, none⟩)] w fun e w' => e = .returned (.tuple #[.agg #[.int .i64 (M.ml l a o c.s c.h), .int .i64 (M.ma l a o c.s c.h), .int .i64 (M.mo l a o c.s c.h)], .int .i64 (M.me l a o c.s c.h)]) ∧ Below w.heap.size w w' := by
  obtain ⟨lt, c0, c1, c2, c3, c4, c5, c6, c7, c8⟩ := hc
  have hm := Move_any l a o c.s c.h
  generalize M.ml l a o c.s c.h = U0 at *
  generalize M.ma l a o c.s c.h = U1 at *
  generalize M.mo l a o c.s c.h = U2 at *
  generalize M.me l a o c.s c.h = E at *
  go_enter Tryd.func49, Tryd.ntmps49
  go_wp2_with fail
  refine (hm _ (ht.step (by go_grown))).mono ?_
  rintro e w1 ⟨rfl, hb1⟩
  have z1 := hb1.size
  simp at z1
  have s1 : w.heap.size + 1 < w1.heap.size := by omega
  have d0 : w1.cell? ⟨w.heap.size + 1, 0, none⟩ = some (.int .i64 0) := keepC hb1 (by simp) (by simp [go_sem])
  have d1 : w1.cell? ⟨w.heap.size + 1, 1, none⟩ = some (.int .i64 0) := keepC hb1 (by simp) (by simp [go_sem])
  have d2 : w1.cell? ⟨w.heap.size + 1, 2, none⟩ = some (.int .i64 0) := keepC hb1 (by simp) (by simp [go_sem])
  have f0 : w1.frozen? ⟨w.heap.size + 1, 0, none⟩ = false := keepF hb1 (by simp) (by simp [go_sem])
  have f1 : w1.frozen? ⟨w.heap.size + 1, 1, none⟩ = false := keepF hb1 (by simp) (by simp [go_sem])
  have f2 : w1.frozen? ⟨w.heap.size + 1, 2, none⟩ = false := keepF hb1 (by simp) (by simp [go_sem])
  have h01 : Below w.heap.size w w1 := Below.trans (by go_grown) (hb1.mono (by simp; omega))
  go_wp2_with fail
  refine bodyPost_ret (v := .tuple #[.agg #[.int .i64 U0, .int .i64 U1, .int .i64 U2], .int .i64 E]) (by simp [results, Tryd.results49, go_sem, d0, d1, d2]) rfl ⟨rfl, ?_⟩
  exact ((h01.setCell (by simp) _).setCell (by simp) _).setCell (by simp) _

theorem pe_plain {c : Ch} {l a o : Int} (h : c.mir = false) : pe c l a o = M.me l a o c.s c.h ∧ px c l a o = M.ml l a o c.s c.h ∧ py c l a o = M.ma l a o c.s c.h ∧ pz c l a o = M.mo l a o c.s c.h := by
  unfold pe px py pz; rw [h]; exact ⟨rfl, rfl, rfl, rfl⟩
theorem pe_err {c : Ch} {l a o : Int} (h : c.mir = true) (h2 : M.re l a o c.xl c.xa c.xo ≠ 0) : pe c l a o = M.re l a o c.xl c.xa c.xo := by
  unfold pe; rw [if_pos h, if_pos h2]
theorem pe_mir {c : Ch} {l a o : Int} (h : c.mir = true) (h2 : M.re l a o c.xl c.xa c.xo = 0) : pe c l a o = M.me (M.rl l a o c.xl c.xa c.xo) (M.ra l a o c.xl c.xa c.xo) (M.ro l a o c.xl c.xa c.xo) c.s c.h := by
  unfold pe; rw [if_pos h, if_neg (by simp [h2])]
theorem px_mir {c : Ch} {l a o : Int} (h : c.mir = true) : px c l a o = M.ml (M.rl l a o c.xl c.xa c.xo) (M.ra l a o c.xl c.xa c.xo) (M.ro l a o c.xl c.xa c.xo) c.s c.h ∧ py c l a o = M.ma (M.rl l a o c.xl c.xa c.xo) (M.ra l a o c.xl c.xa c.xo) (M.ro l a o c.xl c.xa c.xo) c.s c.h ∧ pz c l a o = M.mo (M.rl l a o c.xl c.xa c.xo) (M.ra l a o c.xl c.xa c.xo) (M.ro l a o c.xl c.xa c.xo) c.s c.h := by
  unfold px py pz; rw [if_pos h, if_pos h, if_pos h]; exact ⟨rfl, rfl, rfl⟩
/-- What a change makes of a pitch. -/
def PQ (c : Ch) (l a o : Int) (e : Ending) : Prop := ∃ A B C : Int, e = .returned (.tuple #[.agg #[.int .i64 A, .int .i64 B, .int .i64 C], .int .i64 (pe c l a o)]) ∧ (pe c l a o = 0 → A = px c l a o ∧ B = py c l a o ∧ C = pz c l a o)

set_option maxHeartbeats 4000000 in
theorem rep2_any (b1 b2 : Nat) (c : Ch) (l a o : Int) (w : World) (ht : Tab w) (hc : CB w b1 c) (hb2 : b2 < w.heap.size) (e2 : w.cell? ⟨b2, 0, none⟩ = some (.func (.func 49) #[] #[.pointer (some ⟨b1, 0, none⟩)])) (hm : c.mir = true) :
    Calls Tryd.prog 51 #[.agg #[.int .i64 l, .int .i64 a, .int .i64 o], .pointer (some ⟨b1, 0, none⟩), .pointer (some ⟨b2, 0, none⟩)] w fun e w' => PQ c l a o e ∧ Below w.heap.size w w' := by
  have hc0 := hc
  obtain ⟨lt, c0, c1, c2, c3, c4, c5, c6, c7, c8⟩ := hc
  have hM := Mirror_any l a o c.xl c.xa c.xo
  have HX : Hid _ := px_mir (l := l) (a := a) (o := o) hm
  have HP : Hid _ := pe_mir (l := l) (a := a) (o := o) hm
  have HE : Hid _ := pe_err (l := l) (a := a) (o := o) hm
  generalize M.rl l a o c.xl c.xa c.xo = V0 at *
  generalize M.ra l a o c.xl c.xa c.xo = V1 at *
  generalize M.ro l a o c.xl c.xa c.xo = V2 at *
  generalize M.re l a o c.xl c.xa c.xo = RE at *
  go_enter Tryd.func51, Tryd.ntmps51
  go_wp2_with fail
  refine (hM _ (ht.step (by go_grown))).mono ?_
  rintro e w1 ⟨rfl, hb1⟩
  have z1 := hb1.size
  simp at z1
  have s1 : w.heap.size + 1 < w1.heap.size := by omega
  have d0 : w1.cell? ⟨w.heap.size + 1, 0, none⟩ = some (.int .i64 0) := keepC hb1 (by simp) (by simp [go_sem])
  have d1 : w1.cell? ⟨w.heap.size + 1, 1, none⟩ = some (.int .i64 0) := keepC hb1 (by simp) (by simp [go_sem])
  have d2 : w1.cell? ⟨w.heap.size + 1, 2, none⟩ = some (.int .i64 0) := keepC hb1 (by simp) (by simp [go_sem])
  have f0 : w1.frozen? ⟨w.heap.size + 1, 0, none⟩ = false := keepF hb1 (by simp) (by simp [go_sem])
  have f1 : w1.frozen? ⟨w.heap.size + 1, 1, none⟩ = false := keepF hb1 (by simp) (by simp [go_sem])
  have f2 : w1.frozen? ⟨w.heap.size + 1, 2, none⟩ = false := keepF hb1 (by simp) (by simp [go_sem])
  have h01 : Below w.heap.size w w1 := Below.trans (by go_grown) (hb1.mono (by simp; omega))
  by_cases hre : RE = 0
  · have hre2 : (RE != 0) = false := by simp [hre]
    have g2 := keepC h01 hb2 e2
    have sz2 : b2 < w1.heap.size := by omega
    have sz3 : w.heap.size + 1 ≠ w1.heap.size := by omega
    go_wp2_with fail
    refine (rep1_any b1 c V0 V1 V2 _ (ht.step (h01.trans (by have := h01.size; exact Below.alloc (Below.refl _ _) (by omega) _))) (hc0.keep (h01.trans (by have := h01.size; exact Below.alloc (Below.refl _ _) (by omega) _)))).mono ?_
    rintro e w3 ⟨rfl, hb3⟩
    have z3 := hb3.size
    simp at z3
    have s3 : w.heap.size + 1 < w3.heap.size := by omega
    replace d0 : w3.cell? ⟨w.heap.size + 1, 0, none⟩ = some (.int .i64 0) := keepC hb3 (by simp; omega) (by simp [go_sem, d0, s1, sz3])
    replace d1 : w3.cell? ⟨w.heap.size + 1, 1, none⟩ = some (.int .i64 0) := keepC hb3 (by simp; omega) (by simp [go_sem, d1, s1, sz3])
    replace d2 : w3.cell? ⟨w.heap.size + 1, 2, none⟩ = some (.int .i64 0) := keepC hb3 (by simp; omega) (by simp [go_sem, d2, s1, sz3])
    replace f0 : w3.frozen? ⟨w.heap.size + 1, 0, none⟩ = false := keepF hb3 (by simp; omega) (by simp [go_sem, f0, s1, sz3])
    replace f1 : w3.frozen? ⟨w.heap.size + 1, 1, none⟩ = false := keepF hb3 (by simp; omega) (by simp [go_sem, f1, s1, sz3])
    replace f2 : w3.frozen? ⟨w.heap.size + 1, 2, none⟩ = false := keepF hb3 (by simp; omega) (by simp [go_sem, f2, s1, sz3])
    have h03 : Below w.heap.size w w3 := (h01.alloc h01.size _).trans (hb3.mono (by simp; omega))
    have HP2 := HP.out hre
    have HX2 := HX.out
    have HF : Hid (PQ c l a o (.returned (.tuple #[.agg #[.int .i64 (M.ml V0 V1 V2 c.s c.h), .int .i64 (M.ma V0 V1 V2 c.s c.h), .int .i64 (M.mo V0 V1 V2 c.s c.h)], .int .i64 (M.me V0 V1 V2 c.s c.h)]))) := ⟨_, _, _, by rw [HP2], fun _ => ⟨HX2.1.symm, HX2.2.1.symm, HX2.2.2.symm⟩⟩
    clear HP HE HX HX2 HP2
    generalize M.ml V0 V1 V2 c.s c.h = U0 at *
    generalize M.ma V0 V1 V2 c.s c.h = U1 at *
    generalize M.mo V0 V1 V2 c.s c.h = U2 at *
    generalize M.me V0 V1 V2 c.s c.h = E at *
    go_wp2_with fail
    refine bodyPost_ret (v := .tuple #[.agg #[.int .i64 U0, .int .i64 U1, .int .i64 U2], .int .i64 E]) (by simp [results, Tryd.results51, go_sem, d0, d1, d2]) rfl ⟨HF.out, ?_⟩
    exact ((h03.setCell (by simp) _).setCell (by simp) _).setCell (by simp) _
  · have hre2 : (RE != 0) = true := by simp [hre]
    have HP2 := HE.out hre
    have HF : Hid (PQ c l a o (.returned (.tuple #[.agg #[.int .i64 0, .int .i64 0, .int .i64 0], .int .i64 RE]))) := ⟨0, 0, 0, by rw [HP2], fun h => absurd (HP2.symm.trans h) hre⟩
    have sz3 : w.heap.size + 1 ≠ w1.heap.size := by omega
    clear HP HE HX HP2
    go_wp2_with fail
    refine bodyPost_ret (v := .tuple #[.agg #[.int .i64 0, .int .i64 0, .int .i64 0], .int .i64 RE]) (by simp [results, Tryd.results51, go_sem, d0, d1, d2, s1, sz3]) rfl ⟨HF.out, ?_⟩
    have h11 := h01.size
    exact (((h01.setCell (p := ⟨w.heap.size + 1, 0, none⟩) (by simp) (.int .i64 0)).setCell (p := ⟨w.heap.size + 1, 1, none⟩) (by simp) (.int .i64 0)).setCell (p := ⟨w.heap.size + 1, 2, none⟩) (by simp) (.int .i64 0)).alloc (by simp; omega) _
end Go.Proofs.YtjakaceckmhjiafDoor.Y
