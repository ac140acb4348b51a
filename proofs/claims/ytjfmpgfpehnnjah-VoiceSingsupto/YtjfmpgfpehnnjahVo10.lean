/- What New, Off and Render come to. -/
import Derived.Test.YtjfmpgfpehnnjahVo9
import Derived.Deep.OwnRows
import Derived.Laws.MakeOwn
import Derived.Maps.AppendAt
namespace Go.Proofs.Ytjfmpgfpehnnjah.Vo
open Go.RowKit Go.Maps Go.Sort
set_option linter.unusedSimpArgs false
set_option linter.unusedVariables false

theorem wr_cases (p : Pt) : (¬ (1 ≤ p.shape ∧ p.shape ≤ 4) ∧ wr p = 1 ∧ she p.shape = 1) ∨ ((1 ≤ p.shape ∧ p.shape ≤ 4) ∧ she p.shape = 0 ∧ ((inB p = true ∧ wr p = 0) ∨ (inB p = false ∧ wr p = 3))) := by
  by_cases c : 1 ≤ p.shape ∧ p.shape ≤ 4
  · right
    refine ⟨c, if_pos c, ?_⟩
    cases hb : inB p
    · right; exact ⟨rfl, by rw [wr_in c, hb]; rfl⟩
    · left; exact ⟨rfl, by rw [wr_in c, hb]; rfl⟩
  · left; exact ⟨c, if_neg c, if_neg c⟩
/-- What New answers. -/
structure NewQ (w : World) (p : Pt) (e : Ending) (w' : World) : Prop where
  b : Below w.heap.size w w'
  bad : wr p ≠ 0 → e = .returned (.tuple #[.pointer none, .int .i64 (wr p)])
  ok : wr p = 0 → ∃ v, e = .returned (.tuple #[.pointer (some ⟨v, 0, none⟩), .int .i64 0]) ∧ w.heap.size ≤ v ∧ VL w' v p 0 none
set_option maxHeartbeats 2000000 in
theorem New_any (hC : CirC) (p : Pt) (w : World) : Calls Try.prog 24 #[pv p] w fun e w' => NewQ w p e w' := by
  have q1 := fun w => Shape_any hC p.shape 0 w (by decide)
  have q2 := fun w => inRange_any p w
  have hph : pha p 0 = 0 := by unfold pha; simp
  clear hC
  rcases wr_cases p with ⟨_, h1, h2⟩ | ⟨_, h1, ⟨h2, h3⟩ | ⟨h2, h3⟩⟩
  · rw [h2] at q1
    have HR : Hid (∀ e w', e = .returned (.tuple #[.pointer none, .int .i64 1]) → Below w.heap.size w w' → NewQ w p e w') := fun e w' he hb => ⟨hb, fun _ => by rw [h1]; exact he, fun h => by omega⟩
    generalize shp p.shape ((0 : Nat) : Int) = XV at *
    obtain ⟨shape, step, gain, atk, dec, rel, sus⟩ := p
    clear h1 h2 q2 hph
    go_enter Try.func24, Try.ntmps24
    go_wp2_with fail
    refine (q1 _).mono ?_
    rintro e w1 ⟨rfl, hb1⟩
    have hb : Below w.heap.size w w1 := Below.trans (by go_grown) (hb1.mono (by simp))
    go_wp2_with fail
    go_returns
    exact HR.out _ _ rfl hb
  all_goals
    rw [h1] at q1
    rw [h2] at q2
  · have HR : Hid (∀ e w' v, e = .returned (.tuple #[.pointer (some ⟨v, 0, none⟩), .int .i64 0]) → Below w.heap.size w w' → w.heap.size ≤ v → VL w' v p 0 none → NewQ w p e w') := fun e w' v he hb hv hV => ⟨hb, fun h => by omega, fun _ => ⟨v, he, hv, hV⟩⟩
    have HV : Hid (∀ (w' : World) (v : Nat), w'.cell? ⟨v, 0, none⟩ = some (.int .i64 p.shape) → w'.cell? ⟨v, 1, none⟩ = some (.int .u32 p.step) → w'.cell? ⟨v, 2, none⟩ = some (.float .f64 p.gain) → w'.cell? ⟨v, 3, none⟩ = some (.int .i64 p.atk) → w'.cell? ⟨v, 4, none⟩ = some (.int .i64 p.dec) → w'.cell? ⟨v, 5, none⟩ = some (.int .i64 p.rel) → w'.cell? ⟨v, 6, none⟩ = some (.int .i64 p.sus) → w'.cell? ⟨v, 7, none⟩ = some (.int .u32 0) → w'.cell? ⟨v, 8, none⟩ = some (.bool false) → w'.cell? ⟨v, 9, none⟩ = some (.int .i64 0) → w'.cell? ⟨v, 10, none⟩ = some (.int .i64 0) → (∀ i, w'.frozen? ⟨v, i, none⟩ = false) → v < w'.heap.size → VL w' v p 0 none) :=
      fun w' v a0 a1 a2 a3 a4 a5 a6 a7 a8 a9 a10 f l => ⟨a0, a1, a2, a3, a4, a5, a6, by rw [hph]; exact a7, a8, a9, a10, f, l, (fun k hk => by cases hk), by omega⟩
    generalize shp p.shape ((0 : Nat) : Int) = XV at *
    obtain ⟨shape, step, gain, atk, dec, rel, sus⟩ := p
    simp only at *
    clear h1 h2 h3 hph
    go_enter Try.func24, Try.ntmps24
    go_wp2_with fail
    refine (q1 _).mono ?_
    rintro e w1 ⟨rfl, hb1⟩
    have hb : Below w.heap.size w w1 := Below.trans (by go_grown) (hb1.mono (by simp))
    have x0 := keepC hb1 (b := w.heap.size) (o := 0) (v := .int .i64 shape) (by simp) (by simp [go_sem])
    have x1 := keepC hb1 (b := w.heap.size) (o := 1) (v := .int .u32 step) (by simp) (by simp [go_sem])
    have x2 := keepC hb1 (b := w.heap.size) (o := 2) (v := .float .f64 gain) (by simp) (by simp [go_sem])
    have x3 := keepC hb1 (b := w.heap.size) (o := 3) (v := .int .i64 atk) (by simp) (by simp [go_sem])
    have x4 := keepC hb1 (b := w.heap.size) (o := 4) (v := .int .i64 dec) (by simp) (by simp [go_sem])
    have x5 := keepC hb1 (b := w.heap.size) (o := 5) (v := .int .i64 rel) (by simp) (by simp [go_sem])
    have x6 := keepC hb1 (b := w.heap.size) (o := 6) (v := .int .i64 sus) (by simp) (by simp [go_sem])
    have s1 : w.heap.size < w1.heap.size := by have := hb1.size; simp at this; omega
    clear hb1
    go_wp2_with fail
    refine (q2 _).mono ?_
    rintro e w2 ⟨rfl, hb2⟩
    have y0 := keepC hb2 s1 x0
    have y1 := keepC hb2 s1 x1
    have y2 := keepC hb2 s1 x2
    have y3 := keepC hb2 s1 x3
    have y4 := keepC hb2 s1 x4
    have y5 := keepC hb2 s1 x5
    have y6 := keepC hb2 s1 x6
    have s2 : w.heap.size < w2.heap.size := by have := hb2.size; omega
    have hb02 := hb.trans (hb2.mono (by omega))
    clear x0 x1 x2 x3 x4 x5 x6 hb2 hb s1 q1 q2
    go_wp2_with fail
    go_returns
    refine HR.out _ _ w2.heap.size rfl (hb02.trans ((by go_grown : Below w2.heap.size w2 _).mono (by omega))) (by omega) (HV.out _ _ ?_ ?_ ?_ ?_ ?_ ?_ ?_ ?_ ?_ ?_ ?_ ?_ ?_)
    all_goals first | (simp [go_sem]; done) | (intro i; simp [go_sem]; done)
  · have HR : Hid (∀ e w', e = .returned (.tuple #[.pointer none, .int .i64 3]) → Below w.heap.size w w' → NewQ w p e w') := fun e w' he hb => ⟨hb, fun _ => by rw [h3]; exact he, fun h => by omega⟩
    generalize shp p.shape ((0 : Nat) : Int) = XV at *
    obtain ⟨shape, step, gain, atk, dec, rel, sus⟩ := p
    simp only at *
    clear h1 h2 h3 hph
    go_enter Try.func24, Try.ntmps24
    go_wp2_with fail
    refine (q1 _).mono ?_
    rintro e w1 ⟨rfl, hb1⟩
    have hb : Below w.heap.size w w1 := Below.trans (by go_grown) (hb1.mono (by simp))
    have x0 := keepC hb1 (b := w.heap.size) (o := 0) (v := .int .i64 shape) (by simp) (by simp [go_sem])
    have x1 := keepC hb1 (b := w.heap.size) (o := 1) (v := .int .u32 step) (by simp) (by simp [go_sem])
    have x2 := keepC hb1 (b := w.heap.size) (o := 2) (v := .float .f64 gain) (by simp) (by simp [go_sem])
    have x3 := keepC hb1 (b := w.heap.size) (o := 3) (v := .int .i64 atk) (by simp) (by simp [go_sem])
    have x4 := keepC hb1 (b := w.heap.size) (o := 4) (v := .int .i64 dec) (by simp) (by simp [go_sem])
    have x5 := keepC hb1 (b := w.heap.size) (o := 5) (v := .int .i64 rel) (by simp) (by simp [go_sem])
    have x6 := keepC hb1 (b := w.heap.size) (o := 6) (v := .int .i64 sus) (by simp) (by simp [go_sem])
    have s1 : w.heap.size < w1.heap.size := by have := hb1.size; simp at this; omega
    clear hb1
    go_wp2_with fail
    refine (q2 _).mono ?_
    rintro e w2 ⟨rfl, hb2⟩
    have hb02 := hb.trans (hb2.mono (by omega))
    go_wp2_with fail
    go_returns
    exact HR.out _ _ rfl hb02
/-- What is kept: all below N but the voice's block. -/
structure Kn (w : World) (b N : Nat) (w' : World) : Prop where
  k : ∀ j, j < N → j ≠ b → w'.heap[j]? = w.heap[j]?
  z : w.heap.size ≤ w'.heap.size
  b : Below b w w'
theorem Kn.refl (w : World) (b N : Nat) : Kn w b N w := ⟨fun _ _ _ => rfl, Nat.le_refl _, Below.refl _ _⟩
theorem Kn.trans {w w1 w2 : World} {b N : Nat} (h : Kn w b N w1) (h2 : Kn w1 b N w2) : Kn w b N w2 :=
  ⟨fun j hj hne => (h2.k j hj hne).trans (h.k j hj hne), Nat.le_trans h.z h2.z, h.b.trans h2.b⟩
theorem Kn.bel {w w' : World} {b N : Nat} (hb : Below w.heap.size w w') (hN : N ≤ w.heap.size) (hp : b < N) : Kn w b N w' :=
  ⟨fun j hj _ => hb.block j (by omega), hb.size, hb.mono (by omega)⟩
theorem Kn.put {w : World} {b N x o : Nat} {v : Value} (h : x = b ∨ N ≤ x) (hb : b ≤ x) : Kn w b N (w.setCell ⟨x, o, none⟩ v) :=
  ⟨fun j hj hne => Below.heap_setCell _ _ _ _ (by show j ≠ x; omega), by simp [World.setCell], (Below.refl b w).setCell (p := ⟨x, o, none⟩) hb _⟩
/-- A voice's own cells, put anew. -/
theorem VL.put {w w' : World} {b : Nat} {p : Pt} {T T' : Nat} {o o' : Option Nat} (h : VL w b p T o) (hc : ∀ i, i < 7 → w'.cell? ⟨b, i, none⟩ = w.cell? ⟨b, i, none⟩) (h7 : w'.cell? ⟨b, 7, none⟩ = some (.int .u32 (pha p T'))) (h8 : w'.cell? ⟨b, 8, none⟩ = some (.bool o'.isSome)) (h9 : w'.cell? ⟨b, 9, none⟩ = some (.int .i64 (tm T' o'))) (h10 : w'.cell? ⟨b, 10, none⟩ = some (.int .i64 (lst p o'))) (hf : ∀ i, w'.frozen? ⟨b, i, none⟩ = w.frozen? ⟨b, i, none⟩) (hz : w'.heap.size = w.heap.size) (ho : Off T' o') (hb : T' ≤ 4611686018427387904) : VL w' b p T' o' :=
  ⟨(hc 0 (by decide)).trans h.c0, (hc 1 (by decide)).trans h.c1, (hc 2 (by decide)).trans h.c2, (hc 3 (by decide)).trans h.c3, (hc 4 (by decide)).trans h.c4, (hc 5 (by decide)).trans h.c5, (hc 6 (by decide)).trans h.c6, h7, h8, h9, h10, fun i => (hf i).trans (h.fz i), by have := h.lt; omega, ho, hb⟩
/-- Let go: now, if it is held. -/
def off1 (T : Nat) (o : Option Nat) : Option Nat := match o with
  | none => some T
  | some k => some k
theorem oth {w : World} {b x o : Nat} (v : Value) (h : x ≠ o) : (w.setCell ⟨b, x, none⟩ v).cell? ⟨b, o, none⟩ = w.cell? ⟨b, o, none⟩ := World.cell?_setCell_other _ _ _ _ (fun e => h (congrArg Addr.off e))
set_option maxHeartbeats 2000000 in
theorem Off_any (p : Pt) (h : Ok p) (b T : Nat) (o : Option Nat) (w : World) (hV : VL w b p T o) :
    Calls Try.prog 25 #[.pointer (some ⟨b, 0, none⟩)] w fun e w' => e = .returned (.tuple #[]) ∧ VL w' b p T (off1 T o) ∧ Kn w b w.heap.size w' := by
  cases o with
  | some k =>
    have c8 : w.cell? ⟨b, 8, none⟩ = some (.bool true) := hV.c8
    have lt := hV.lt
    have HV : Hid (VL w b p T (some k)) := hV
    clear hV
    go_enter Try.func25, Try.ntmps25
    go_wp2_with fail
    refine bodyPost_ret (results_none rfl _ _ _) rfl ?_
    exact ⟨rfl, HV.out, Kn.refl _ _ _⟩
  | none =>
    have c8 : w.cell? ⟨b, 8, none⟩ = some (.bool false) := hV.c8
    have lt := hV.lt
    have q := level_any p h b T none w hV
    rw [lev_none] at q
    have HV : Hid (VL w b p T none) := hV
    have HE : Hid (lst p (some T) = held p T ∧ tm T (some T) = 0) := ⟨rfl, by show (T : Int) - T = 0; omega⟩
    obtain ⟨hv, hhv⟩ : ∃ hv, hv = held p T := ⟨_, rfl⟩
    rw [← hhv] at q
    have HE2 : Hid (hv = held p T) := hhv
    clear hV hhv
    go_enter Try.func25, Try.ntmps25
    go_wp2_with fail
    refine q.mono ?_
    rintro e w1 ⟨rfl, hb1⟩
    have HV1 : Hid (VL w1 b p T none) := HV.out.bel hb1
    have y8 : w1.cell? ⟨b, 8, none⟩ = some (.bool false) := HV1.out.c8
    have y9 : w1.cell? ⟨b, 9, none⟩ = some (.int .i64 (T : Int)) := HV1.out.c9
    have y10 : w1.cell? ⟨b, 10, none⟩ = some (.int .i64 0) := HV1.out.c10
    have z8 := HV1.out.fz 8
    have z9 := HV1.out.fz 9
    have z10 := HV1.out.fz 10
    have lt1 := HV1.out.lt
    clear c8 HV
    go_wp2_with fail
    go_end0
    refine ⟨rfl, HV1.out.put (T' := T) (o' := some T) (fun i hi => ?_) ?_ ?_ ?_ ?_ (fun i => ?_) (by simp [World.setCell]) (fun k hk => by cases hk; omega) HV1.out.bd, ?_⟩
    · rw [oth _ (by omega), oth _ (by omega), oth _ (by omega)]
    · rw [oth _ (by omega), oth _ (by omega), oth _ (by omega)]; exact HV1.out.c7
    · rw [oth _ (by omega)]; exact World.cell?_setCell_same _ _ _ (by rw [oth _ (by omega)]; exact y8)
    · rw [HE.out.2]; exact World.cell?_setCell_same _ _ _ (by rw [oth _ (by omega), oth _ (by omega)]; exact y9)
    · rw [HE.out.1, ← HE2.out, oth _ (by omega), oth _ (by omega)]; exact World.cell?_setCell_same _ _ _ y10
    · rw [World.frozen?_setCell, World.frozen?_setCell, World.frozen?_setCell]
    · exact (((Kn.bel hb1 (Nat.le_refl _) lt).trans (Kn.put (.inl rfl) (Nat.le_refl _))).trans (Kn.put (.inl rfl) (Nat.le_refl _))).trans (Kn.put (.inl rfl) (Nat.le_refl _))
end Go.Proofs.Ytjfmpgfpehnnjah.Vo
