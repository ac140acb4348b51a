/- What New, Off and Render come to. -/
import Derived.Test.YtjpcebnbkdekkaaGU9
import Derived.Deep.OwnRows
import Derived.Laws.MakeOwn
import Derived.Maps.AppendAt
namespace Go.Proofs.Ytjpcebnbkdekkaa.Vo
open Go.RowKit Go.Maps Go.Sort
set_option linter.unusedSimpArgs false
set_option linter.unusedVariables false

theorem wr_cases (p : Pt) : (¬ (1 ≤ p.shape ∧ p.shape ≤ 4) ∧ wr p = 1 ∧ she p.shape = 1) ∨ ((1 ≤ p.shape ∧ p.shape ≤ 4) ∧ she p.shape = 0 ∧ ((inB p = true ∧ wr p = 0) ∨ (inB p = false ∧ wr p = 3))) := by
  by_cases c : 1 ≤ p.shape ∧ p.shape ≤ 4
  · right
    refine ⟨c, if_pos c, ?_⟩
    cases hb : inB p
    · right; exact ⟨rfl, by rw [wr_in c, hb]; rfl⟩
    · left; exact ⟨rfl, by rw [wr_in c, hb]; rfl⟩
  · left; exact ⟨c, if_neg c, if_neg c⟩
/-- What New answers. -/
structure NewQ (w : World) (p : Pt) (e : Ending) (w' : World) : Prop where
  b : Below w.heap.size w w'
  bad : wr p ≠ 0 → e = .returned (.tuple #[.pointer none, .int .i64 (wr p)])
  ok : wr p = 0 → ∃ v, e = .returned (.tuple #[.pointer (some ⟨v, 0, none⟩), .int .i64 0]) ∧ w.heap.size ≤ v ∧ VL w' v p 0 none
set_option maxHeartbeats 2000000 in
theorem New_any (hC : CirC) (p : Pt) (w : World) : Calls Try.prog 50 #[pv p] w fun e w' => NewQ w p e w' := by
  have q1 := fun w => Shape_any hC p.shape 0 w (by decide)
  have q2 := fun w => inRange_any p w
  have hph : pha p 0 = 0 := by unfold pha; simp
  clear hC
  rcases wr_cases p with ⟨_, h1, h2⟩ | ⟨_, h1, ⟨h2, h3⟩ | ⟨h2, h3⟩⟩
  · rw [h2] at q1
    have HR : Hid (∀ e w', e = .returned (.tuple #[.pointer none, .int .i64 1]) → Below w.heap.size w w' → NewQ w p e w') := fun e w' he hb => ⟨hb, fun _ => by rw [h1]; exact he, fun h => by omega⟩
    generalize shp p.shape ((0 : Nat) : Int) = XV at *
    obtain ⟨shape, step, gain, atk, dec, rel, sus⟩ := p
    clear h1 h2 q2 hph
    go_enter Try.func50, Try.ntmps50
    go_wp2_with fail
    refine (q1 _).mono ?_
    rintro e w1 ⟨rfl, hb1⟩
    have hb : Below w.heap.size w w1 := Below.trans (by go_grown) (hb1.mono (by simp))
    go_wp2_with fail
    go_returns
    exact HR.out _ _ rfl hb
  all_goals
    rw [h1] at q1
    rw [h2] at q2
  · have HR : Hid (∀ e w' v, e = .returned (.tuple #[.pointer (some ⟨v, 0, none⟩), .int .i64 0]) → Below w.heap.size w w' → w.heap.size ≤ v → VL w' v p 0 none → NewQ w p e w') := fun e w' v he hb hv hV => ⟨hb, fun h => by omega, fun _ => ⟨v, he, hv, hV⟩⟩
    have HV : Hid (∀ (w' : World) (v : Nat), w'.cell? ⟨v, 0, none⟩ = some (.int .i64 p.shape) → w'.cell? ⟨v, 1, none⟩ = some (.int .u32 p.step) → w'.cell? ⟨v, 2, none⟩ = some (.float .f64 p.gain) → w'.cell? ⟨v, 3, none⟩ = some (.int .i64 p.atk) → w'.cell? ⟨v, 4, none⟩ = some (.int .i64 p.dec) → w'.cell? ⟨v, 5, none⟩ = some (.int .i64 p.rel) → w'.cell? ⟨v, 6, none⟩ = some (.int .i64 p.sus) → w'.cell? ⟨v, 7, none⟩ = some (.int .u32 0) → w'.cell? ⟨v, 8, none⟩ = some (.bool false) → w'.cell? ⟨v, 9, none⟩ = some (.int .i64 0) → w'.cell? ⟨v, 10, none⟩ = some (.int .i64 0) → (∀ i, w'.frozen? ⟨v, i, none⟩ = false) → v < w'.heap.size → VL w' v p 0 none) :=
      fun w' v a0 a1 a2 a3 a4 a5 a6 a7 a8 a9 a10 f l => ⟨a0, a1, a2, a3, a4, a5, a6, by rw [hph]; exact a7, a8, a9, a10, f, l, (fun k hk => by cases hk), by omega⟩
    generalize shp p.shape ((0 : Nat) : Int) = XV at *
    obtain ⟨shape, step, gain, atk, dec, rel, sus⟩ := p
    simp only at *
    clear h1 h2 h3 hph
    go_enter Try.func50, Try.ntmps50
    go_wp2_with fail
    refine (q1 _).mono ?_
    rintro e w1 ⟨rfl, hb1⟩
    have hb : Below w.heap.size w w1 := Below.trans (by go_grown) (hb1.mono (by simp))
    have x0 := keepC hb1 (b := w.heap.size) (o := 0) (v := .int .i64 shape) (by simp) (by simp [go_sem])
    have x1 := keepC hb1 (b := w.heap.size) (o := 1) (v := .int .u32 step) (by simp) (by simp [go_sem])
    have x2 := keepC hb1 (b := w.heap.size) (o := 2) (v := .float .f64 gain) (by simp) (by simp [go_sem])
    have x3 := keepC hb1 (b := w.heap.size) (o := 3) (v := .int .i64 atk) (by simp) (by simp [go_sem])
    have x4 := keepC hb1 (b := w.heap.size) (o := 4) (v := .int .i64 dec) (by simp) (by simp [go_sem])
    have x5 := keepC hb1 (b := w.heap.size) (o := 5) (v := .int .i64 rel) (by simp) (by simp [go_sem])
    have x6 := keepC hb1 (b := w.heap.size) (o := 6) (v := .int .i64 sus) (by simp) (by simp [go_sem])
    have s1 : w.heap.size < w1.heap.size := by have := hb1.size; simp at this; omega
    clear hb1
    go_wp2_with fail
    refine (q2 _).mono ?_
    rintro e w2 ⟨rfl, hb2⟩
    have y0 := keepC hb2 s1 x0
    have y1 := keepC hb2 s1 x1
    have y2 := keepC hb2 s1 x2
    have y3 := keepC hb2 s1 x3
    have y4 := keepC hb2 s1 x4
    have y5 := keepC hb2 s1 x5
    have y6 := keepC hb2 s1 x6
    have s2 : w.heap.size < w2.heap.size := by have := hb2.size; omega
    have hb02 := hb.trans (hb2.mono (by omega))
    clear x0 x1 x2 x3 x4 x5 x6 hb2 hb s1 q1 q2
    go_wp2_with fail
    go_returns
    refine HR.out _ _ w2.heap.size rfl (hb02.trans ((by go_grown : Below w2.heap.size w2 _).mono (by omega))) (by omega) (HV.out _ _ ?_ ?_ ?_ ?_ ?_ ?_ ?_ ?_ ?_ ?_ ?_ ?_ ?_)
    all_goals first | (simp [go_sem]; done) | (intro i; simp [go_sem]; done)
  · have HR : Hid (∀ e w', e = .returned (.tuple #[.pointer none, .int .i64 3]) → Below w.heap.size w w' → NewQ w p e w') := fun e w' he hb => ⟨hb, fun _ => by rw [h3]; exact he, fun h => by omega⟩
    generalize shp p.shape ((0 : Nat) : Int) = XV at *
    obtain ⟨shape, step, gain, atk, dec, rel, sus⟩ := p
    simp only at *
    clear h1 h2 h3 hph
    go_enter Try.func50, Try.ntmps50
    go_wp2_with fail
    refine (q1 _).mono ?_
    rintro e w1 ⟨rfl, hb1⟩
    have hb : Below w.heap.size w w1 := Below.trans (by go_grown) (hb1.mono (by simp))
    have x0 := keepC hb1 (b := w.heap.size) (o := 0) (v := .int .i64 shape) (by simp) (by simp [go_sem])
    have x1 := keepC hb1 (b := w.heap.size) (o := 1) (v := .int .u32 step) (by simp) (by simp [go_sem])
    have x2 := keepC hb1 (b := w.heap.size) (o := 2) (v := .float .f64 gain) (by simp) (by simp [go_sem])
    have x3 := keepC hb1 (b := w.heap.size) (o := 3) (v := .int .i64 atk) (by simp) (by simp [go_sem])
    have x4 := keepC hb1 (b := w.heap.size) (o := 4) (v := .int .i64 dec) (by simp) (by simp [go_sem])
    have x5 := keepC hb1 (b := w.heap.size) (o := 5) (v := .int .i64 rel) (by simp) (by simp [go_sem])
    have x6 := keepC hb1 (b := w.heap.size) (o := 6) (v := .int .i64 sus) (by simp) (by simp [go_sem])
    have s1 : w.heap.size < w1.heap.size := by have := hb1.size; simp at this; omega
    clear hb1
    go_wp2_with fail
    refine (q2 _).mono ?_
    rintro e w2 ⟨rfl, hb2⟩
    have hb02 := hb.trans (hb2.mono (by omega))
    go_wp2_with fail
    go_returns
    exact HR.out _ _ rfl hb02
/-- What is kept: all below N but the voice's block. -/
structure Kn (w : World) (b N : Nat) (w' : World) : Prop where
  k : ∀ j, j < N → j ≠ b → w'.heap[j]? = w.heap[j]?
  z : w.heap.size ≤ w'.heap.size
  b : Below b w w'
theorem Kn.refl (w : World) (b N : Nat) : Kn w b N w := ⟨fun _ _ _ => rfl, Nat.le_refl _, Below.refl _ _⟩
theorem Kn.trans {w w1 w2 : World} {b N : Nat} (h : Kn w b N w1) (h2 : Kn w1 b N w2) : Kn w b N w2 :=
  ⟨fun j hj hne => (h2.k j hj hne).trans (h.k j hj hne), Nat.le_trans h.z h2.z, h.b.trans h2.b⟩
theorem Kn.bel {w w' : World} {b N : Nat} (hb : Below w.heap.size w w') (hN : N ≤ w.heap.size) (hp : b < N) : Kn w b N w' :=
  ⟨fun j hj _ => hb.block j (by omega), hb.size, hb.mono (by omega)⟩
theorem Kn.put {w : World} {b N x o : Nat} {v : Value} (h : x = b ∨ N ≤ x) (hb : b ≤ x) : Kn w b N (w.setCell ⟨x, o, none⟩ v) :=
  ⟨fun j hj hne => Below.heap_setCell _ _ _ _ (by show j ≠ x; omega), by simp [World.setCell], (Below.refl b w).setCell (p := ⟨x, o, none⟩) hb _⟩
/-- A voice's own cells, put anew. -/
theorem VL.put {w w' : World} {b : Nat} {p : Pt} {T T' : Nat} {o o' : Option Nat} (h : VL w b p T o) (hc : ∀ i, i < 7 → w'.cell? ⟨b, i, none⟩ = w.cell? ⟨b, i, none⟩) (h7 : w'.cell? ⟨b, 7, none⟩ = some (.int .u32 (pha p T'))) (h8 : w'.cell? ⟨b, 8, none⟩ = some (.bool o'.isSome)) (h9 : w'.cell? ⟨b, 9, none⟩ = some (.int .i64 (tm T' o'))) (h10 : w'.cell? ⟨b, 10, none⟩ = some (.int .i64 (lst p o'))) (hf : ∀ i, w'.frozen? ⟨b, i, none⟩ = w.frozen? ⟨b, i, none⟩) (hz : w'.heap.size = w.heap.size) (ho : Off T' o') (hb : T' ≤ 4611686018427387904) : VL w' b p T' o' :=
  ⟨(hc 0 (by decide)).trans h.c0, (hc 1 (by decide)).trans h.c1, (hc 2 (by decide)).trans h.c2, (hc 3 (by decide)).trans h.c3, (hc 4 (by decide)).trans h.c4, (hc 5 (by decide)).trans h.c5, (hc 6 (by decide)).trans h.c6, h7, h8, h9, h10, fun i => (hf i).trans (h.fz i), by have := h.lt; omega, ho, hb⟩
/-- Let go: now, if it is held. -/
def off1 (T : Nat) (o : Option Nat) : Option Nat := match o with
  | none => some T
  | some k => some k
theorem oth {w : World} {b x o : Nat} (v : Value) (h : x ≠ o) : (w.setCell ⟨b, x, none⟩ v).cell? ⟨b, o, none⟩ = w.cell? ⟨b, o, none⟩ := World.cell?_setCell_other _ _ _ _ (fun e => h (congrArg Addr.off e))
end Go.Proofs.Ytjpcebnbkdekkaa.Vo

/- What Render comes to. -/
namespace Go.Proofs.Ytjpcebnbkdekkaa.Vo
open Go.RowKit Go.Maps Go.Sort
set_option linter.unusedSimpArgs false
set_option linter.unusedVariables false

theorem infoF : (Try.prog.info? 46).map (fun i => (i.zero, i.size, i.bytes)) = some (some (.float .f64 0), 1, 8) := by kernel_rfl
/-- Floats in a block of their own. -/
def FR (w : World) (nb n : Nat) (f : Nat → Nat) : Prop := w.rowIs nb 46 n (fun i => .float .f64 (f i))
/-- What Render leaves. -/
structure RnQ (w : World) (b : Nat) (p : Pt) (T : Nat) (o : Option Nat) (n : Nat) (e : Ending) (w' : World) : Prop where
  ex : e = .returned (.tuple #[.slice (some ⟨w.heap.size, 0, none⟩) n n, .int .i64 0])
  fr : FR w' w.heap.size n (fun i => S p o (T + i))
  v : VL w' b p (T + n) o
  k : Kn w b w.heap.size w'
theorem Kn.drew (w : World) (b N : Nat) : Kn w b N w.drew := ⟨fun _ _ _ => rfl, Nat.le_refl _, (Below.refl _ _).drew⟩
theorem tm_step (T : Nat) (o : Option Nat) : tm (T + 1) o = tm T o + 1 := by
  cases o with
  | none => show ((T + 1 : Nat) : Int) = (T : Int) + 1; omega
  | some k => show ((T + 1 : Nat) : Int) - k = (T : Int) - k + 1; omega
theorem tm_bd (T : Nat) (o : Option Nat) (h : Off T o) : 0 ≤ tm T o ∧ tm T o ≤ T := by
  cases o with
  | none => show 0 ≤ (T : Int) ∧ (T : Int) ≤ T; omega
  | some k => have := h k rfl; show 0 ≤ (T : Int) - k ∧ (T : Int) - k ≤ T; omega
theorem Off.mono {T T' : Nat} {o : Option Nat} (h : Off T o) (h2 : T ≤ T') : Off T' o := fun k hk => Nat.le_trans (h k hk) h2
def fz (p : Pt) (o : Option Nat) (T k i : Nat) : Nat := if i < k then S p o (T + i) else 0
set_option maxHeartbeats 4000000 in
theorem Render_bad (b : Nat) (n : Int) (w : World) (hn : n < 0 ∨ 65536 < n) :
    Calls Try.prog 103 #[.pointer (some ⟨b, 0, none⟩), .int .i64 n] w fun e w' => e = .returned (.tuple #[.slice none 0 0, .int .i64 3]) ∧ w' = w := by
  rcases (show n < 0 ∨ (¬ n < 0 ∧ 65536 < n) by omega) with c | ⟨c, d⟩
  all_goals
    go_enter Try.func103, Try.ntmps103
    go_wp2_with fail
    go_returns
    exact ⟨rfl, rfl⟩
set_option maxHeartbeats 4000000 in
theorem Render_any (hC : CirC) (p : Pt) (h : Ok p) (hst : p.step < 4294967296) (b T : Nat) (o : Option Nat) (n : Nat) (w : World) (hV : VL w b p T o) (hn : n ≤ 65536) (hT : T + n ≤ 4611686018427387904) :
    Calls Try.prog 103 #[.pointer (some ⟨b, 0, none⟩), .int .i64 n] w fun e w' => RnQ w b p T o n e w' := by
  have mk : (Instr.makeSlice 38 (.int .i64 (n : Int)) (.int .i64 (n : Int))).run Try.prog w = .ok (.slice (some ⟨w.heap.size, 0, none⟩) n n) (w.alloc (.cells (madeCells #[.float .f64 0] n) 46)) := run_make_row' (P := Try.prog) 38 46 (.float .f64 0) 8 Try.underlying38 infoF rfl .i64 .i64 n (by omega) (by omega) w
  have n1 : ¬ (n : Int) < 0 := by omega
  have n2 : ¬ (65536 : Int) < n := by omega
  have lt := hV.lt
  have q := fun (w' : World) (T' : Nat) (hV : VL w' b p T' o) => sample_any hC p h b T' o w' hV
  have HO : Hid (Off T o) := hV.off
  have hbA : Below w.heap.size w (w.alloc (.cells (madeCells #[.float .f64 0] n) 46)) := (Below.refl _ _).alloc (Nat.le_refl _) _
  have HF : Hid (FR (w.alloc (.cells (madeCells #[.float .f64 0] n) 46)) w.heap.size n (fz p o T 0)) := World.rowIs.congr (World.rowIs_made w (.float .f64 0) n 46) (fun i _ => rfl)
  have HV : Hid (VL (w.alloc (.cells (madeCells #[.float .f64 0] n) 46)) b p T o) := hV.bel hbA
  have hzA : (w.alloc (.cells (madeCells #[.float .f64 0] n) 46)).heap.size = w.heap.size + 1 := by simp
  clear hV hC
  go_enter Try.func103, Try.ntmps103
  go_wp2_with (simp only [mk])
  generalize w.alloc (.cells (madeCells #[.float .f64 0] n) 46) = W0 at *
  clear mk
  go_loopw [18] (fun i ww => ∃ k : Nat, k ≤ n ∧ i = .int .i64 k ∧ Hid (VL ww b p (T + k) o) ∧ Hid (FR ww w.heap.size n (fz p o T k)) ∧ Kn w b w.heap.size ww ∧ w.heap.size < ww.heap.size) (fun i _ => n - (intOf i).toNat)
  case atStart => exact ⟨0, by omega, rfl, HV, HF, Kn.bel hbA (Nat.le_refl _) lt, by omega⟩
  case round =>
    obtain ⟨k, hk, rfl, hV, hF, hK, hz⟩ := hrel
    by_cases hlt : k < n
    · have q1 := q wr (T + k) hV.out
      generalize hS : S p o (T + k) = SV at *
      have HS : Hid (S p o (T + k) = SV) := hS
      clear hS q HV HF
      go_wp2_with fail
      refine q1.mono ?_
      rintro e w2 ⟨rfl, hb2⟩
      have HV2 : Hid (VL w2 b p (T + k) o) := hV.out.bel hb2
      have HF2 : Hid (FR w2 w.heap.size n (fz p o T k)) := World.rowIs.of_block hF.out (hb2.block _ hz)
      have hz2 : w.heap.size < w2.heap.size := by have := hb2.size; omega
      have lt2 : b < w2.heap.size := by omega
      have x1 := HV2.out.c1
      have x7 := HV2.out.c7
      have x9 := HV2.out.c9
      have z7 := HV2.out.fz 7
      have z9 := HV2.out.fz 9
      have y : w2.cell? ⟨w.heap.size, k, none⟩ = some (.float .f64 0) := (World.rowIs.cell HF2.out hlt).trans (by unfold fz; rw [if_neg (by omega)])
      have yf := World.rowIs.frozen HF2.out k
      have tb := tm_bd (T + k) o HV2.out.off
      have hne : b ≠ w.heap.size := by omega
      have hne' : w.heap.size ≠ b := by omega
      have HP : Hid (pha p (T + (k + 1)) = (pha p (T + k) + p.step) % 4294967296) := pha_step p (T + k)
      have HTm : Hid (tm (T + (k + 1)) o = tm (T + k) o + 1) := tm_step (T + k) o
      have phb := pha_lt p (T + k)
      have HV3 : Hid (VL (w2.setCell ⟨w.heap.size, k, none⟩ (.float .f64 SV)) b p (T + k) o) := HV2.out.keep (Below.heap_setCell _ _ _ _ hne) (by simp [World.setCell])
      have HF3 : Hid (FR (w2.setCell ⟨w.heap.size, k, none⟩ (.float .f64 SV)) w.heap.size n (fz p o T (k + 1))) := World.rowIs.congr (World.rowIs.set HF2.out k (.float .f64 SV)) (fun i hi => by
        unfold fz
        by_cases e : i = k
        · rw [if_pos e, if_pos (by omega), e, HS.out]
        · rw [if_neg e]
          by_cases e2 : i < k
          · rw [if_pos e2, if_pos (by omega)]
          · rw [if_neg e2, if_neg (by omega)])
      have hK3 : Kn w b w.heap.size (w2.setCell ⟨w.heap.size, k, none⟩ (.float .f64 SV)) := (hK.trans (Kn.bel hb2 (by omega) lt)).trans (Kn.put (.inr (Nat.le_refl _)) (by omega))
      have hz3 : w.heap.size < (w2.setCell ⟨w.heap.size, k, none⟩ (.float .f64 SV)).heap.size := by simpa [World.setCell] using hz2
      clear hV hF
      go_wp2_with fail
      clear x1 x7 x9 z7 z9 y yf HV2 HF2 hK hz2 lt2 q1
      generalize w2.setCell ⟨w.heap.size, k, none⟩ (.float .f64 SV) = W3 at *
      have x1 := HV3.out.c1
      have x7 := HV3.out.c7
      have x9 := HV3.out.c9
      have z7 := HV3.out.fz 7
      have z9 := HV3.out.fz 9
      have lt3 := HV3.out.lt
      clear hb2
      generalize pha p (T + k) = PH at *
      generalize tm (T + k) o = TM at *
      obtain ⟨st, hst'⟩ : ∃ st, st = p.step := ⟨_, rfl⟩
      rw [← hst'] at x1 hst
      have HSt : Hid (st = p.step) := hst'
      clear hst'
      go_region
      all_goals
        go_wp2_with fail
      have e7 : (((PH : Int) + (st : Int)) % 4294967296) = ((pha p (T + (k + 1)) : Nat) : Int) := by rw [HP.out, HSt.out]; omega
      have e9 : TM + 1 = tm (T + (k + 1)) o := HTm.out.symm
      refine ⟨⟨k + 1, by omega, by go_num, HV3.out.put (T' := T + (k + 1)) (o' := o) (fun i hi => ?_) ?_ ?_ ?_ ?_ (fun i => ?_) (by simp [World.setCell]) (HO.out.mono (by omega)) (by omega), ?_, ?_, by simpa [World.setCell] using hz3⟩, by simp [intOf]; omega⟩
      · show (World.setCell _ _ _).cell? _ = _
        rw [oth _ (by omega), oth _ (by omega)]
      · show (World.setCell _ _ _).cell? _ = _
        rw [oth _ (by omega), e7]; exact World.cell?_setCell_same _ _ _ x7
      · show (World.setCell _ _ _).cell? _ = _
        rw [oth _ (by omega), oth _ (by omega)]; exact HV3.out.c8
      · show (World.setCell _ _ _).cell? _ = _
        rw [e9]; exact World.cell?_setCell_same _ _ _ (by rw [oth _ (by omega)]; exact x9)
      · show (World.setCell _ _ _).cell? _ = _
        rw [oth _ (by omega), oth _ (by omega)]; exact HV3.out.c10
      · show (World.setCell _ _ _).frozen? _ = _
        rw [World.frozen?_setCell, World.frozen?_setCell]
      · exact World.rowIs.drew (World.rowIs.setOther (World.rowIs.setOther HF3.out hne' _) hne' _)
      · exact ((hK3.trans (Kn.put (.inl rfl) (Nat.le_refl _))).trans (Kn.put (.inl rfl) (Nat.le_refl _))).trans (Kn.drew _ _ _)
    · obtain rfl : k = n := by omega
      clear q HV HF
      go_wp2_with fail
      go_returns
      exact ⟨rfl, World.rowIs.congr hF.out (fun i hi => by unfold fz; rw [if_pos hi]), hV.out, hK⟩
end Go.Proofs.Ytjpcebnbkdekkaa.Vo
