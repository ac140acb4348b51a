/- does: what a node that does not remember does. -/
import Derived.Test.YtjpcebnbkdekkaaGU17
import Derived.Test.YtjpcebnbkdekkaaGU16
namespace Go.Proofs.Ytjpcebnbkdekkaa.Gh
open Go.RowKit Go.Maps Go.Sort Fl
set_option linter.unusedVariables false
set_option linter.unusedSimpArgs false

/-- What does answers. -/
def DoQ (w : World) (d : Nd) (ev : Value) (e : Ending) (w' : World) : Prop := ∃ fv, e = .returned fv ∧ Below w.heap.size w w' ∧ ∀ (F O : Nat → Prop) (V : Hist) (T i : Nat), (∀ b, Nb w w' b → F b) → NK w' F O V T i d ev (simV ev fv)
theorem nbox (w : World) (cs : Array Value) (t : TypeId) : Below w.heap.size w (w.alloc (Obj.cells cs t)) ∧ (w.alloc (Obj.cells cs t)).heap.size = w.heap.size + 1 := ⟨(Below.refl _ _).alloc (Nat.le_refl _) _, by simp⟩
theorem Nb.up {w w1 w2 : World} {b : Nat} (h : Nb w1 w2 b) (hz : w.heap.size ≤ w1.heap.size) : Nb w w2 b := ⟨by have := h.1; omega, h.2⟩
set_option maxRecDepth 4000 in
set_option maxHeartbeats 4000000 in
theorem does_any (d : Nd) (fo eo : Option Addr) (fc ec m : Nat) (S : Nat → Prop) (w : World) (hd : 1 ≤ d.kind ∧ d.kind ≤ 5) (hm : many d) (h0 : ∀ k ∈ d.frm, 0 ≤ k) (hx : d.x < 18446744073709551616) (hE : ZL w S eo d.frm) (hl : d.frm.length = m) (hec : m ≤ ec) :
    Calls Try.prog 46 #[nv d fo fc, .slice eo m ec] w fun e w' => DoQ w d (.slice eo m ec) e w' := by
  have q1 := fun p w => input_mk p w
  have q2 := fun x w => steady_mk x w
  have q3 := fun x p w => gain_mk x p w
  have q4 := fun eo ec w => mix_mk0 eo ec w
  have q5 := fun p q w => times_mk p q w
  have HQ : Hid (∀ fv w1 w2, Below w.heap.size w w1 → Below w1.heap.size w1 w2 → (∀ (F O : Nat → Prop) (V : Hist) (T i : Nat), (∀ b, Nb w1 w2 b → F b) → NK w2 F O V T i d (.slice eo m ec) (simV (.slice eo m ec) fv)) → DoQ w d (.slice eo m ec) (.returned fv) w2) := fun fv w1 w2 h1 h2 h3 => ⟨fv, rfl, h1.trans (h2.mono h1.size), fun F O V T i hF => h3 F O V T i (fun b hb => hF b (hb.up h1.size))⟩
  have HB : Hid (Below w.heap.size w (w.alloc (Obj.cells (nc d fo fc) 53))) := (nbox w _ _).1
  have HE : Hid (ZL (w.alloc (Obj.cells (nc d fo fc) 53)) S eo d.frm) := hE.bel HB.out
  have Hf0 : Hid (0 < d.frm.length → ∃ eb of, eo = some ⟨eb, of, none⟩ ∧ (w.alloc (Obj.cells (nc d fo fc) 53)).cell? ⟨eb, of, none⟩ = some (.int .i64 (f0 d)) ∧ (1 < d.frm.length → (w.alloc (Obj.cells (nc d fo fc) 53)).cell? ⟨eb, of + 1, none⟩ = some (.int .i64 (f1 d)))) := fun hpos => by
    obtain ⟨eb, of, h1, h2, h3, h4⟩ := HE.out.at' hpos
    refine ⟨eb, of, h1, ?_, fun hp1 => ?_⟩
    · have := h4 0 _ (List.getElem?_eq_getElem hpos)
      have e0 : d.frm[0] = ((f0 d : Nat) : Int) := by
        have h5 := h0 _ (List.getElem_mem hpos)
        unfold f0
        rw [List.getD_eq_getElem?_getD, List.getElem?_eq_getElem hpos]
        show d.frm[0] = ((d.frm[0].toNat : Nat) : Int)
        omega
      rw [e0] at this
      exact this
    · have := h4 1 _ (List.getElem?_eq_getElem hp1)
      have e0 : d.frm[1] = ((f1 d : Nat) : Int) := by
        have h5 := h0 _ (List.getElem_mem hp1)
        unfold f1
        rw [List.getD_eq_getElem?_getD, List.getElem?_eq_getElem hp1]
        show d.frm[1] = ((d.frm[1].toNat : Nat) : Int)
        omega
      rw [e0] at this
      exact this
  have Hd : Hid (many d ∧ d.frm.length = m ∧ d.x < 18446744073709551616) := ⟨hm, hl, hx⟩
  have hdn : ∀ j : Int, (d.kind == j) = decide (d.kind = j) := fun j => rfl
  rcases (show d.kind = 1 ∨ d.kind = 2 ∨ d.kind = 3 ∨ d.kind = 4 ∨ d.kind = 5 by omega) with hk | hk | hk | hk | hk
  · have Hk : Hid (d.kind = 1) := hk
    clear hd hm h0 hx hE hl hdn Hf0
    go_enter Try.func46, Try.ntmps46
    go_wp2_with fail
    refine (q1 _ _).mono ?_
    rintro e w2 ⟨cb, rfl, h1, h2, h3⟩
    have HR : Hid (DoQ w d (.slice eo m ec) (.returned (.func (.func 60) #[] #[pt cb])) w2) := HQ.out _ _ _ HB.out h3 (fun F O V T i hF => .inl ⟨Hk.out, cb, rfl, hF cb h1, h2⟩)
    clear h1 h2 h3 HQ
    go_wp2_with fail
    go_ret
    exact HR.out
  · have Hk : Hid (d.kind = 2) := hk
    clear hd hm h0 hx hE hl hdn Hf0
    go_enter Try.func46, Try.ntmps46
    go_wp2_with fail
    refine (q2 _ _).mono ?_
    rintro e w2 ⟨cb, rfl, h1, h2, h3⟩
    have HR : Hid (DoQ w d (.slice eo m ec) (.returned (.func (.func 61) #[] #[pt cb])) w2) := HQ.out _ _ _ HB.out h3 (fun F O V T i hF => .inr (.inl ⟨Hk.out, cb, rfl, hF cb h1, h2, Hd.out.2.2⟩))
    clear h1 h2 h3 HQ
    go_wp2_with fail
    go_ret
    exact HR.out
  · have Hk : Hid (d.kind = 3) := hk
    have hl1 : d.frm.length = 1 := hm.1 (.inl hk)
    obtain ⟨eb, of, rfl, y1, y2⟩ := Hf0.out (by omega)
    have hm1 : m = 1 := by omega
    subst hm1
    have le := lt_cell y1
    clear hd hm h0 hx hE hl hdn y2 Hf0 HE hl1
    go_enter Try.func46, Try.ntmps46
    go_wp2_with fail
    refine U2.wp_region_tail_read 5 (by decide) (by kernel_rfl) (by kernel_rfl) (by kernel_rfl) (by kernel_rfl) ?_
    dsimp only [List.take, List.drop]
    repeat (quiet_step (fail))
    refine wpQuiet_nil ?_
    rintro w2 ⟨nq, rfl⟩
    have HB2 : Hid (Below w.heap.size w ((w.alloc (Obj.cells (nc d fo fc) 53)).drewN nq)) := HB.out.trans (belD'.mono HB.out.size)
    go_wp2_with fail
    refine (q3 _ _ _).mono ?_
    rintro e w3 ⟨cb, cx, rfl, h1, h1x, h2, h2x, h3⟩
    have HR : Hid (DoQ w d (.slice (some ⟨eb, of, none⟩) 1 ec) (.returned (.func (.func 62) #[] #[pt cb, pt cx])) w3) := HQ.out _ _ _ HB2.out h3 (fun F O V T i hF => .inr (.inr (.inl ⟨Hk.out, cb, cx, rfl, hF cb h1, hF cx h1x, h2, h2x, Hd.out.2.2⟩)))
    clear h1 h1x h2 h2x h3 HQ
    go_wp2_with fail
    go_ret
    exact HR.out
  · have Hk : Hid (d.kind = 4) := hk
    by_cases hm0 : m = 0
    · subst hm0
      have H0 : Hid (d.frm = []) := List.eq_nil_of_length_eq_zero hl
      clear hd hm h0 hx hE hl hdn Hf0 HE
      go_enter Try.func46, Try.ntmps46
      go_wp2_with fail
      refine (q4 _ _ _).mono ?_
      rintro e w2 ⟨cb, rfl, h1, h2, h3⟩
      have HR : Hid (DoQ w d (.slice eo 0 ec) (.returned (.func (.func 61) #[] #[pt cb])) w2) := HQ.out _ _ _ HB.out h3 (fun F O V T i hF => .inr (.inr (.inr (.inl ⟨Hk.out, H0.out, cb, rfl, hF cb h1, h2⟩))))
      clear h1 h2 h3 HQ
      go_wp2_with fail
      go_ret
      exact HR.out
    · have H0 : Hid (d.frm ≠ []) := fun h => by rw [h] at hl; exact hm0 hl.symm
      have q6 := fun w => mix_mk1 eo m ec w (by omega)
      clear hd hm h0 hx hE hl hdn Hf0 HE
      go_enter Try.func46, Try.ntmps46
      go_wp2_with fail
      refine (q6 _).mono ?_
      rintro e w2 ⟨cb, rfl, h1, h2, h3⟩
      have HR : Hid (DoQ w d (.slice eo m ec) (.returned (.func (.func 64) #[] #[pt cb])) w2) := HQ.out _ _ _ HB.out h3 (fun F O V T i hF => .inr (.inr (.inr (.inr (.inl ⟨Hk.out, H0.out, cb, rfl, hF cb h1, h2⟩)))))
      clear h1 h2 h3 HQ
      go_wp2_with fail
      go_ret
      exact HR.out
  · have Hk : Hid (d.kind = 5) := hk
    have hl1 : d.frm.length = 2 := hm.2.1 hk
    obtain ⟨eb, of, rfl, y1, y2⟩ := Hf0.out (by omega)
    have y2 := y2 (by omega)
    have hm1 : m = 2 := by omega
    subst hm1
    have le := lt_cell y1
    clear hd hm h0 hx hE hl hdn Hf0 HE hl1
    go_enter Try.func46, Try.ntmps46
    go_wp2_with fail
    refine U2.wp_region_tail_read 6 (by decide) (by kernel_rfl) (by kernel_rfl) (by kernel_rfl) (by kernel_rfl) ?_
    dsimp only [List.take, List.drop]
    repeat (quiet_step (fail))
    refine wpQuiet_nil ?_
    rintro w2 ⟨nq, rfl⟩
    have HB2 : Hid (Below w.heap.size w ((w.alloc (Obj.cells (nc d fo fc) 53)).drewN nq)) := HB.out.trans (belD'.mono HB.out.size)
    go_wp2_with fail
    refine (q5 _ _ _).mono ?_
    rintro e w3 ⟨cb, cx, rfl, h1, h1x, h2, h2x, h3⟩
    have HR : Hid (DoQ w d (.slice (some ⟨eb, of, none⟩) 2 ec) (.returned (.func (.func 63) #[] #[pt cb, pt cx])) w3) := HQ.out _ _ _ HB2.out h3 (fun F O V T i hF => .inr (.inr (.inr (.inr (.inr (.inl ⟨Hk.out, cb, cx, rfl, hF cb h1, hF cx h1x, h2, h2x⟩))))))
    clear h1 h1x h2 h2x h3 HQ
    go_wp2_with fail
    go_ret
    exact HR.out
end Go.Proofs.Ytjpcebnbkdekkaa.Gh

/- Filters, voices and delays are made; build. -/
namespace Go.Proofs.Ytjpcebnbkdekkaa.Gh
open Go.RowKit Go.Maps Go.Sort Fl
set_option linter.unusedVariables false
set_option linter.unusedSimpArgs false

set_option maxHeartbeats 2000000 in
theorem strainer_mk (eo : Option Addr) (m ec : Nat) (c : Fi.Cf) (w : World) : Calls Try.prog 44 #[.slice eo m ec, Fi.cv c] w fun e w' => Below w.heap.size w w' ∧ (Fi.inC c = false → e = .returned (.tuple #[.nilIface, .int .i64 3])) ∧ (Fi.inC c = true → ∃ b, e = .returned (.tuple #[.iface 128 (.agg #[.slice eo m ec, pt b]), .int .i64 0]) ∧ Nb w w' b ∧ Fi.FL w' b c Fi.rest0) := by
  have HN := fun w => Fi.New_any c w
  have HB := nbox w #[.float .f64 c.b0, .float .f64 c.b1, .float .f64 c.b2, .float .f64 c.a1, .float .f64 c.a2] 48
  cases hz : Fi.inC c
  · have HN' : ∀ w, Calls Try.prog 49 #[Fi.cv c] w fun e w' => e = .returned (.tuple #[.pointer none, .int .i64 3]) ∧ Below w.heap.size w w' := fun w => (HN w).mono fun e w' h => ⟨h.bad hz, h.b⟩
    have HB' : Hid (Below w.heap.size w (w.alloc (Obj.cells #[.float .f64 c.b0, .float .f64 c.b1, .float .f64 c.b2, .float .f64 c.a1, .float .f64 c.a2] 48))) := HB.1
    clear HN hz HB
    obtain ⟨b0, b1, b2, a1, a2⟩ := c
    go_enter Try.func44, Try.ntmps44
    go_wp2_with fail
    refine (HN' _).mono ?_
    rintro e w1 ⟨rfl, hb1⟩
    have hb : Hid (Below w.heap.size w w1) := HB'.out.trans (hb1.mono (by simp))
    clear hb1
    go_wp2_with fail
    go_returns
    exact ⟨hb.out, fun _ => rfl, fun h => by cases h⟩
  · have HN' : ∀ w, Calls Try.prog 49 #[Fi.cv c] w fun e w' => ∃ v, e = .returned (.tuple #[.pointer (some ⟨v, 0, none⟩), .int .i64 0]) ∧ Hid (Fi.FL w' v c Fi.rest0) ∧ w.heap.size ≤ v ∧ Below w.heap.size w w' := fun w => (HN w).mono fun e w' h => by
      obtain ⟨v, h1, h2, h3⟩ := h.ok hz
      exact ⟨v, h1, h3, h2, h.b⟩
    have HB' : Hid (Below w.heap.size w (w.alloc (Obj.cells #[.float .f64 c.b0, .float .f64 c.b1, .float .f64 c.b2, .float .f64 c.a1, .float .f64 c.a2] 48))) := HB.1
    have Hcc : Hid (∃ cc : Fi.Cf, cc = c) := ⟨c, rfl⟩
    clear HN hz HB
    obtain ⟨b0, b1, b2, a1, a2⟩ := c
    go_enter Try.func44, Try.ntmps44
    go_wp2_with fail
    refine (HN' _).mono ?_
    rintro e w1 ⟨v, rfl, hV, hv, hb1⟩
    have hb : Hid (Below w.heap.size w w1) := HB'.out.trans (hb1.mono (by simp))
    have hvz : w.heap.size ≤ v := by simp at hv; omega
    clear hb1 hv
    go_wp2_with fail
    go_returns
    exact ⟨hb.out, fun h => absurd h (by decide), fun _ => ⟨v, rfl, ⟨hvz, hV.out.lt⟩, hV.out⟩⟩
set_option maxHeartbeats 4000000 in
theorem singer_mk (hC : Vo.CirC) (eo : Option Addr) (m ec : Nat) (p : Vo.Pt) (hg : p.gain < 18446744073709551616) (hst : p.step < 4294967296) (w : World) : Calls Try.prog 45 #[.slice eo m ec, Vo.pv p] w fun e w' => Below w.heap.size w w' ∧ (Vo.wr p ≠ 0 → e = .returned (.tuple #[.nilIface, .int .i64 (Vo.wr p)])) ∧ (Vo.wr p = 0 → ∃ b vb, e = .returned (.tuple #[.iface 132 (pt b), .int .i64 0]) ∧ Nb w w' b ∧ Nb w w' vb ∧ GL w' b vb 0 p (.slice eo m ec)) := by
  have HN := fun w => Vo.New_any hC p w
  have Hok : Hid (Vo.wr p = 0 → Vo.Ok p) := fun h => Vo.wr_ok hg h
  by_cases hz : Vo.wr p = 0
  · have HN' : ∀ w, Calls Try.prog 50 #[Vo.pv p] w fun e w' => ∃ v, e = .returned (.tuple #[.pointer (some ⟨v, 0, none⟩), .int .i64 0]) ∧ Hid (Vo.VL w' v p 0 none) ∧ w.heap.size ≤ v ∧ Below w.heap.size w w' := fun w => (HN w).mono fun e w' h => by
      obtain ⟨v, h1, h2, h3⟩ := h.ok hz
      exact ⟨v, h1, h3, h2, h.b⟩
    have Hz : Hid (Vo.wr p = 0) := hz
    have HO : Hid (Vo.Ok p) := Hok.out hz
    clear HN hz Hok hC
    obtain ⟨shape, step, gain, atk, dec, rel, sus⟩ := p
    simp only at *
    go_enter Try.func45, Try.ntmps45
    go_wp2_with fail
    refine (HN' _).mono ?_
    rintro e w1 ⟨v, rfl, hV, hv, hb1⟩
    have hb : Hid (Below w.heap.size w w1) := Below.trans (by go_grown) (hb1.mono (by simp))
    have hvz : w.heap.size ≤ v := by simp at hv; omega
    have x0 := Fi.keepC hb1 (a := ⟨w.heap.size, 0, none⟩) (v := .int .i64 shape) (by simp) (by simp [go_sem])
    have x1 := Fi.keepC hb1 (a := ⟨w.heap.size, 1, none⟩) (v := .int .u32 step) (by simp) (by simp [go_sem])
    have x2 := Fi.keepC hb1 (a := ⟨w.heap.size, 2, none⟩) (v := .float .f64 gain) (by simp) (by simp [go_sem])
    have x3 := Fi.keepC hb1 (a := ⟨w.heap.size, 3, none⟩) (v := .int .i64 atk) (by simp) (by simp [go_sem])
    have x4 := Fi.keepC hb1 (a := ⟨w.heap.size, 4, none⟩) (v := .int .i64 dec) (by simp) (by simp [go_sem])
    have x5 := Fi.keepC hb1 (a := ⟨w.heap.size, 5, none⟩) (v := .int .i64 rel) (by simp) (by simp [go_sem])
    have x6 := Fi.keepC hb1 (a := ⟨w.heap.size, 6, none⟩) (v := .int .i64 sus) (by simp) (by simp [go_sem])
    have lw := lt_cell x0
    have lv : v < w1.heap.size := hV.out.lt
    clear hb1 hv HN'
    go_wp2_with fail
    go_returns
    refine ⟨hb.out.trans ((by go_grown : Below w1.heap.size w1 _).mono (by omega)), fun h => absurd Hz.out h, fun _ => ⟨w1.heap.size, v, rfl, ⟨by omega, by simp⟩, ⟨hvz, by simp; omega⟩, ⟨by simp [go_sem], by simp [go_sem], by simp [go_sem], by simp [go_sem], by simp [go_sem], by simp [go_sem], by simp [go_sem], by simp [go_sem], by simp [go_sem], fun i => by simp [go_sem], hV.out.bel ((Below.refl _ _).alloc (Nat.le_refl _) _), HO.out, hst, Hz.out, by omega⟩⟩⟩
  · have HN' : ∀ w, Calls Try.prog 50 #[Vo.pv p] w fun e w' => e = .returned (.tuple #[.pointer none, .int .i64 (Vo.wr p)]) ∧ Below w.heap.size w w' := fun w => (HN w).mono fun e w' h => ⟨h.bad hz, h.b⟩
    obtain ⟨r, hr⟩ : ∃ r, r = Vo.wr p := ⟨_, rfl⟩
    rw [← hr] at HN' ⊢
    have hrz : ¬ r = 0 := by rw [hr]; exact hz
    clear HN hz Hok hC hr
    obtain ⟨shape, step, gain, atk, dec, rel, sus⟩ := p
    go_enter Try.func45, Try.ntmps45
    go_wp2_with fail
    refine (HN' _).mono ?_
    rintro e w1 ⟨rfl, hb1⟩
    have hb : Hid (Below w.heap.size w w1) := Below.trans (by go_grown) (hb1.mono (by simp))
    clear hb1
    go_wp2_with fail
    go_returns
    exact ⟨hb.out, fun _ => rfl, fun h => absurd h hrz⟩
/-- What a chapter of its own says of a node. -/
def wr2 (d : Nd) : Int := if d.kind = 7 then (if Fi.inC d.c = true then 0 else 3) else if d.kind = 8 then Vo.wr d.p else 0
/-- What build answers. -/
structure BuQ (w : World) (d : Nd) (e : Ending) (w' : World) : Prop where
  b : Below w.heap.size w w'
  bad : wr2 d ≠ 0 → e = .returned (.tuple #[.nilIface, .int .i64 (wr2 d)])
  ok : wr2 d = 0 → ∃ (ev v : Value) (O : Nat → Prop), e = .returned (.tuple #[v, .int .i64 0]) ∧ (∀ b, O b → Nb w w' b) ∧ ∀ (F : Nat → Prop) (V : Hist) (i : Nat), (∀ b, Nb w w' b → ¬ O b → F b) → NodeL w' F O V 0 i d ev v
/-- A node that is handed in. -/
structure NA (w : World) (S : Nat → Prop) (d : Nd) (fo : Option Addr) (fc : Nat) : Prop where
  z : ZL w S fo d.frm
  c : d.frm.length ≤ fc
  cm : fc ≤ 9223372036854775807
  nn : fo = none → fc = 0
  x : d.x < 18446744073709551616
  g : d.p.gain < 18446744073709551616
  st : d.p.step < 4294967296
  len : d.frm.length ≤ 17592186044416
end Go.Proofs.Ytjpcebnbkdekkaa.Gh

/- build: any node is made. -/
namespace Go.Proofs.Ytjpcebnbkdekkaa.Gh
open Go.RowKit Go.Maps Go.Sort Fl
set_option linter.unusedVariables false
set_option linter.unusedSimpArgs false

theorem NK.form {w : World} {F O : Nat → Prop} {V : Hist} {T i : Nat} {d : Nd} {ev fv : Value} (h : NK w F O V T i d ev (simV ev fv)) : ∃ N cp, fv = .func (.func N) #[] cp := by
  rcases h with ⟨_, cb, hv, _⟩ | ⟨_, cb, hv, _⟩ | ⟨_, cb, cx, hv, _⟩ | ⟨_, _, cb, hv, _⟩ | ⟨_, _, cb, hv, _⟩ | ⟨_, cb, cx, hv, _⟩ | ⟨_, b, hh, D, p, g, hv, _⟩ | ⟨_, b, hv, _⟩ | ⟨_, b, vb, hv, _⟩
  all_goals first | (cases hv; exact ⟨_, _, rfl⟩) | cases hv
theorem BuQ.sim {w w1 w2 : World} {d : Nd} {ao : Option Addr} {m c : Nat} {fv : Value} (hz : w.heap.size ≤ w1.heap.size) (hb1 : Below w.heap.size w w1) (hm : d.frm.length = m) (hc : m ≤ c) (hcm : c ≤ 9223372036854775807) (hZ : ZL w1 (fun b => w.heap.size ≤ b ∧ b < w1.heap.size) ao d.frm) (hk : d.kind ≤ 5) (hb2 : Below w1.heap.size w1 w2) (hq : ∀ (F O : Nat → Prop) (V : Hist) (T i : Nat), (∀ b, Nb w1 w2 b → F b) → NK w2 F O V T i d (.slice ao m c) (simV (.slice ao m c) fv)) : BuQ w d (.returned (.tuple #[simV (.slice ao m c) fv, .int .i64 0])) w2 := by
  have hw : wr2 d = 0 := by unfold wr2; rw [if_neg (by omega), if_neg (by omega)]
  refine ⟨hb1.trans (hb2.mono hz), fun h => absurd hw h, fun _ => ⟨_, _, fun _ => False, rfl, fun b hb => hb.elim, fun F V i hF => ⟨⟨ao, c, by rw [hm], by omega, hcm, hZ.keep (fun b _ hl => hb2.block b hl) hb2.size (fun b hb _ => hF b ⟨hb.1, by have := hb2.size; omega⟩ id)⟩, hq F _ V 0 i (fun b hb => hF b (hb.up hz) id)⟩⟩⟩
/-- The ears of a node lie ahead of all that may change. -/
theorem ears_of {w w1 w2 : World} {d : Nd} {ao : Option Addr} {m c : Nat} {F O : Nat → Prop} (hm : d.frm.length = m) (hc : m ≤ c) (hcm : c ≤ 9223372036854775807) (hZ : ZL w1 (fun b => w.heap.size ≤ b ∧ b < w1.heap.size) ao d.frm) (hb2 : Below w1.heap.size w1 w2) (hO : ∀ b, O b → w1.heap.size ≤ b) (hF : ∀ b, Nb w w2 b → ¬ O b → F b) : EarL w2 F (.slice ao m c) d.frm :=
  ⟨⟨ao, c, by rw [hm], by omega, hcm, hZ.keep (fun b _ hl => hb2.block b hl) hb2.size (fun b hb _ => hF b ⟨hb.1, by have := hb2.size; omega⟩ (fun q => by have := hO b q; omega))⟩⟩
set_option maxRecDepth 8000 in
set_option maxHeartbeats 8000000 in
theorem build_any (hC : Vo.CirC) (d : Nd) (fo : Option Addr) (fc : Nat) (S : Nat → Prop) (w : World) (hN : NA w S d fo fc) (hk : 1 ≤ d.kind ∧ d.kind ≤ 8) (hm : many d) (h0 : ∀ k ∈ d.frm, 0 ≤ k) (h6 : d.kind = 6 → d.n ≤ 4096) :
    Calls Try.prog 37 #[nv d fo fc] w fun e w' => BuQ w d e w' := by
  obtain ⟨m, hl⟩ : ∃ m, d.frm.length = m := ⟨_, rfl⟩
  have hnb := nbox w (nc d fo fc) 53
  have hbN : Below w.heap.size w (w.alloc (Obj.cells (nc d fo fc) 53)) := hnb.1
  have hq := clone_any d.frm S fo m fc (w.alloc (Obj.cells (nc d fo fc) 53)) (hN.z.bel hbN) hl (by have := hN.c; omega) hN.nn (by have := hN.len; omega)
  have HN : Hid (NA w S d fo fc ∧ many d ∧ d.frm.length = m ∧ (∀ k ∈ d.frm, 0 ≤ k)) := ⟨hN, hm, hl, h0⟩
  have HB0 : Hid (Below w.heap.size w (w.alloc (Obj.cells (nc d fo fc) 53)) ∧ (w.alloc (Obj.cells (nc d fo fc) 53)).heap.size = w.heap.size + 1) := hnb
  have hlen : d.frm.length = m := hl
  clear hN hm h0 hnb hbN
  by_cases c5 : d.kind ≤ 5
  · have Hk : Hid (d.kind ≤ 5 ∧ 1 ≤ d.kind) := ⟨c5, hk.1⟩
    have k6 : ¬ d.kind = 6 := by omega
    have k7 : ¬ d.kind = 7 := by omega
    have k8 : ¬ d.kind = 8 := by omega
    clear h6 hk c5
    go_enter Try.func37, Try.ntmps37
    go_wp2_with fail
    refine hq.mono ?_
    rintro e w1 ⟨ao, c, rfl, hc1, hc2, hZ, hb1⟩
    have HZ : Hid (ZL w1 (fun b => w.heap.size ≤ b ∧ b < w1.heap.size) ao d.frm) := hZ.keep (fun _ _ _ => rfl) (Nat.le_refl _) (fun b hb _ => ⟨by have := hb.1; rw [HB0.out.2] at this; omega, hb.2⟩)
    have HB1 : Hid (Below w.heap.size w w1) := HB0.out.1.trans (hb1.mono (by rw [HB0.out.2]; omega))
    have lw : w.heap.size < w1.heap.size := by have := hb1.size; rw [HB0.out.2] at this; omega
    have y0 := Fi.keepC hb1 (a := ⟨w.heap.size, 0, none⟩) (v := .int .i64 d.kind) (by simp) (by simp [go_sem])
    have y1 := Fi.keepC hb1 (a := ⟨w.heap.size, 1, none⟩) (v := .slice fo d.frm.length fc) (by simp) (by simp [go_sem])
    have y2 := Fi.keepC hb1 (a := ⟨w.heap.size, 2, none⟩) (v := .int .i64 d.n) (by simp) (by simp [go_sem])
    have y3 := Fi.keepC hb1 (a := ⟨w.heap.size, 3, none⟩) (v := .float .f64 d.x) (by simp) (by simp [go_sem])
    have y4 := Fi.keepC hb1 (a := ⟨w.heap.size, 4, none⟩) (v := .float .f64 d.c.b0) (by simp) (by simp [go_sem])
    have y5 := Fi.keepC hb1 (a := ⟨w.heap.size, 5, none⟩) (v := .float .f64 d.c.b1) (by simp) (by simp [go_sem])
    have y6 := Fi.keepC hb1 (a := ⟨w.heap.size, 6, none⟩) (v := .float .f64 d.c.b2) (by simp) (by simp [go_sem])
    have y7 := Fi.keepC hb1 (a := ⟨w.heap.size, 7, none⟩) (v := .float .f64 d.c.a1) (by simp) (by simp [go_sem])
    have y8 := Fi.keepC hb1 (a := ⟨w.heap.size, 8, none⟩) (v := .float .f64 d.c.a2) (by simp) (by simp [go_sem])
    have y9 := Fi.keepC hb1 (a := ⟨w.heap.size, 9, none⟩) (v := .int .i64 d.p.shape) (by simp) (by simp [go_sem])
    have y10 := Fi.keepC hb1 (a := ⟨w.heap.size, 10, none⟩) (v := .int .u32 d.p.step) (by simp) (by simp [go_sem])
    have y11 := Fi.keepC hb1 (a := ⟨w.heap.size, 11, none⟩) (v := .float .f64 d.p.gain) (by simp) (by simp [go_sem])
    have y12 := Fi.keepC hb1 (a := ⟨w.heap.size, 12, none⟩) (v := .int .i64 d.p.atk) (by simp) (by simp [go_sem])
    have y13 := Fi.keepC hb1 (a := ⟨w.heap.size, 13, none⟩) (v := .int .i64 d.p.dec) (by simp) (by simp [go_sem])
    have y14 := Fi.keepC hb1 (a := ⟨w.heap.size, 14, none⟩) (v := .int .i64 d.p.rel) (by simp) (by simp [go_sem])
    have y15 := Fi.keepC hb1 (a := ⟨w.heap.size, 15, none⟩) (v := .int .i64 d.p.sus) (by simp) (by simp [go_sem])
    rw [hlen] at y1
    clear hq hb1 hZ hlen
    have hq2 := does_any d fo ao fc c m _ w1 ⟨Hk.out.2, Hk.out.1⟩ HN.out.2.1 HN.out.2.2.2 HN.out.1.x HZ.out hl hc1
    simp only [nv, nc, hl] at hq2
    go_wp2_with fail
    refine hq2.mono ?_
    rintro e w2 ⟨fv, rfl, hb2, hq3⟩
    have HR : Hid (BuQ w d (.returned (.tuple #[simV (.slice ao m c) fv, .int .i64 0])) w2) := BuQ.sim HB1.out.size HB1.out hl hc1 hc2 HZ.out Hk.out.1 hb2 hq3
    obtain ⟨fN, fcp, rfl⟩ := (hq3 (fun _ => True) (fun _ => True) (fun _ _ => none) 0 0 (fun _ _ => trivial)).form
    clear hb2 hq3 hq2
    go_wp2_with fail
    go_returns
    exact HR.out
  · rcases (show d.kind = 6 ∨ d.kind = 7 ∨ d.kind = 8 by omega) with hk6 | hk7 | hk8
    · have Hk : Hid (d.kind = 6) := hk6
      have hn1 : 1 ≤ d.n := HN.out.2.1.2.2 hk6
      have hn2 := h6 hk6
      obtain ⟨D, hD⟩ : ∃ D : Nat, d.n = D := ⟨d.n.toNat, by omega⟩
      have HD : Hid (d.n = D) := hD
      clear h6 hk c5
      go_enter Try.func37, Try.ntmps37
      go_wp2_with fail
      refine hq.mono ?_
      rintro e w1 ⟨ao, c, rfl, hc1, hc2, hZ, hb1⟩
      have HZ : Hid (ZL w1 (fun b => w.heap.size ≤ b ∧ b < w1.heap.size) ao d.frm) := hZ.keep (fun _ _ _ => rfl) (Nat.le_refl _) (fun b hb _ => ⟨by have := hb.1; rw [HB0.out.2] at this; omega, hb.2⟩)
      have HB1 : Hid (Below w.heap.size w w1) := HB0.out.1.trans (hb1.mono (by rw [HB0.out.2]; omega))
      have lw : w.heap.size < w1.heap.size := by have := hb1.size; rw [HB0.out.2] at this; omega
      have y0 := Fi.keepC hb1 (a := ⟨w.heap.size, 0, none⟩) (v := .int .i64 d.kind) (by simp) (by simp [go_sem])
      have y1 := Fi.keepC hb1 (a := ⟨w.heap.size, 1, none⟩) (v := .slice fo d.frm.length fc) (by simp) (by simp [go_sem])
      have y2 := Fi.keepC hb1 (a := ⟨w.heap.size, 2, none⟩) (v := .int .i64 d.n) (by simp) (by simp [go_sem])
      have y3 := Fi.keepC hb1 (a := ⟨w.heap.size, 3, none⟩) (v := .float .f64 d.x) (by simp) (by simp [go_sem])
      have y4 := Fi.keepC hb1 (a := ⟨w.heap.size, 4, none⟩) (v := .float .f64 d.c.b0) (by simp) (by simp [go_sem])
      have y5 := Fi.keepC hb1 (a := ⟨w.heap.size, 5, none⟩) (v := .float .f64 d.c.b1) (by simp) (by simp [go_sem])
      have y6 := Fi.keepC hb1 (a := ⟨w.heap.size, 6, none⟩) (v := .float .f64 d.c.b2) (by simp) (by simp [go_sem])
      have y7 := Fi.keepC hb1 (a := ⟨w.heap.size, 7, none⟩) (v := .float .f64 d.c.a1) (by simp) (by simp [go_sem])
      have y8 := Fi.keepC hb1 (a := ⟨w.heap.size, 8, none⟩) (v := .float .f64 d.c.a2) (by simp) (by simp [go_sem])
      have y9 := Fi.keepC hb1 (a := ⟨w.heap.size, 9, none⟩) (v := .int .i64 d.p.shape) (by simp) (by simp [go_sem])
      have y10 := Fi.keepC hb1 (a := ⟨w.heap.size, 10, none⟩) (v := .int .u32 d.p.step) (by simp) (by simp [go_sem])
      have y11 := Fi.keepC hb1 (a := ⟨w.heap.size, 11, none⟩) (v := .float .f64 d.p.gain) (by simp) (by simp [go_sem])
      have y12 := Fi.keepC hb1 (a := ⟨w.heap.size, 12, none⟩) (v := .int .i64 d.p.atk) (by simp) (by simp [go_sem])
      have y13 := Fi.keepC hb1 (a := ⟨w.heap.size, 13, none⟩) (v := .int .i64 d.p.dec) (by simp) (by simp [go_sem])
      have y14 := Fi.keepC hb1 (a := ⟨w.heap.size, 14, none⟩) (v := .int .i64 d.p.rel) (by simp) (by simp [go_sem])
      have y15 := Fi.keepC hb1 (a := ⟨w.heap.size, 15, none⟩) (v := .int .i64 d.p.sus) (by simp) (by simp [go_sem])
      rw [hlen] at y1
      clear hq hb1 hZ hlen
      rw [hk6] at y0
      rw [hD] at y2
      have mk : (Instr.makeSlice 38 (.int .i64 (D : Int)) (.int .i64 (D : Int))).run Try.prog w1 = .ok (.slice (some ⟨w1.heap.size, 0, none⟩) D D) (w1.alloc (.cells (madeCells #[.float .f64 0] D) 46)) := run_make_row' (P := Try.prog) 38 46 (.float .f64 0) 8 Try.underlying38 Fi.infoF rfl .i64 .i64 D (by omega) (by omega) w1
      have HR : Hid (∀ w3, w3 = (w1.alloc (.cells (madeCells #[.float .f64 0] D) 46)).alloc (Obj.cells #[.slice ao m c, .slice (some ⟨w1.heap.size, 0, none⟩) D D, .int .i64 0] 113) → BuQ w d (.returned (.tuple #[.iface 111 (pt (w1.heap.size + 1)), .int .i64 0])) w3) := fun w3 hw3 => by
        have hb2 : Below w1.heap.size w1 w3 := by rw [hw3]; exact ((Below.refl _ _).alloc (Nat.le_refl _) _).alloc (by simp) _
        have z3 : w3.heap.size = w1.heap.size + 2 := by rw [hw3]; simp
        have zb := HB1.out.size
        have hw2 : wr2 d = 0 := by unfold wr2; rw [if_neg (by rw [Hk.out]; decide), if_neg (by rw [Hk.out]; decide)]
        have hDL : DL w3 (w1.heap.size + 1) w1.heap.size D 0 (.slice ao m c) (fun _ => 0) := by
          rw [hw3]
          refine ⟨by simp [go_sem], by simp [go_sem], by simp [go_sem], fun i => by simp [go_sem], World.rowIs.alloc (World.rowIs_made w1 (.float .f64 0) D 46) _, fun _ => (show (0 : Nat) < 18446744073709551616 by decide), by omega, by omega, by omega⟩
        refine ⟨HB1.out.trans (hb2.mono zb), fun h => absurd hw2 h, fun _ => ⟨_, _, fun b => b = w1.heap.size ∨ b = w1.heap.size + 1, rfl, fun b hb => ?_, fun F V i hF => ⟨ears_of hl hc1 hc2 HZ.out hb2 (fun b hb => by omega) hF, .inr (.inr (.inr (.inr (.inr (.inr (.inl ⟨Hk.out, w1.heap.size + 1, w1.heap.size, D, 0, _, rfl, .inr rfl, .inl rfl, hDL, HD.out, fun j hj => ?_⟩))))))⟩⟩⟩
        · show w.heap.size ≤ b ∧ b < w3.heap.size
          omega
        · rw [pv_neg _ _ (by omega)]
          exact (show ab 0 = some 0 by decide)
      have k7 : ¬ (6 : Int) = 7 := by decide
      go_wp2_with (simp only [mk])
      go_returns
      exact HR.out _ rfl
    · have Hk : Hid (d.kind = 7) := hk7
      clear h6 hk c5
      go_enter Try.func37, Try.ntmps37
      go_wp2_with fail
      refine hq.mono ?_
      rintro e w1 ⟨ao, c, rfl, hc1, hc2, hZ, hb1⟩
      have HZ : Hid (ZL w1 (fun b => w.heap.size ≤ b ∧ b < w1.heap.size) ao d.frm) := hZ.keep (fun _ _ _ => rfl) (Nat.le_refl _) (fun b hb _ => ⟨by have := hb.1; rw [HB0.out.2] at this; omega, hb.2⟩)
      have HB1 : Hid (Below w.heap.size w w1) := HB0.out.1.trans (hb1.mono (by rw [HB0.out.2]; omega))
      have lw : w.heap.size < w1.heap.size := by have := hb1.size; rw [HB0.out.2] at this; omega
      have y0 := Fi.keepC hb1 (a := ⟨w.heap.size, 0, none⟩) (v := .int .i64 d.kind) (by simp) (by simp [go_sem])
      have y1 := Fi.keepC hb1 (a := ⟨w.heap.size, 1, none⟩) (v := .slice fo d.frm.length fc) (by simp) (by simp [go_sem])
      have y2 := Fi.keepC hb1 (a := ⟨w.heap.size, 2, none⟩) (v := .int .i64 d.n) (by simp) (by simp [go_sem])
      have y3 := Fi.keepC hb1 (a := ⟨w.heap.size, 3, none⟩) (v := .float .f64 d.x) (by simp) (by simp [go_sem])
      have y4 := Fi.keepC hb1 (a := ⟨w.heap.size, 4, none⟩) (v := .float .f64 d.c.b0) (by simp) (by simp [go_sem])
      have y5 := Fi.keepC hb1 (a := ⟨w.heap.size, 5, none⟩) (v := .float .f64 d.c.b1) (by simp) (by simp [go_sem])
      have y6 := Fi.keepC hb1 (a := ⟨w.heap.size, 6, none⟩) (v := .float .f64 d.c.b2) (by simp) (by simp [go_sem])
      have y7 := Fi.keepC hb1 (a := ⟨w.heap.size, 7, none⟩) (v := .float .f64 d.c.a1) (by simp) (by simp [go_sem])
      have y8 := Fi.keepC hb1 (a := ⟨w.heap.size, 8, none⟩) (v := .float .f64 d.c.a2) (by simp) (by simp [go_sem])
      have y9 := Fi.keepC hb1 (a := ⟨w.heap.size, 9, none⟩) (v := .int .i64 d.p.shape) (by simp) (by simp [go_sem])
      have y10 := Fi.keepC hb1 (a := ⟨w.heap.size, 10, none⟩) (v := .int .u32 d.p.step) (by simp) (by simp [go_sem])
      have y11 := Fi.keepC hb1 (a := ⟨w.heap.size, 11, none⟩) (v := .float .f64 d.p.gain) (by simp) (by simp [go_sem])
      have y12 := Fi.keepC hb1 (a := ⟨w.heap.size, 12, none⟩) (v := .int .i64 d.p.atk) (by simp) (by simp [go_sem])
      have y13 := Fi.keepC hb1 (a := ⟨w.heap.size, 13, none⟩) (v := .int .i64 d.p.dec) (by simp) (by simp [go_sem])
      have y14 := Fi.keepC hb1 (a := ⟨w.heap.size, 14, none⟩) (v := .int .i64 d.p.rel) (by simp) (by simp [go_sem])
      have y15 := Fi.keepC hb1 (a := ⟨w.heap.size, 15, none⟩) (v := .int .i64 d.p.sus) (by simp) (by simp [go_sem])
      rw [hlen] at y1
      clear hq hb1 hZ hlen
      rw [hk7] at y0
      have hq2 := strainer_mk ao m c d.c w1
      simp only [Fi.cv] at hq2
      have HR : Hid (∀ e w2, Below w1.heap.size w1 w2 → (Fi.inC d.c = false → e = .returned (.tuple #[.nilIface, .int .i64 3])) → (Fi.inC d.c = true → ∃ b, e = .returned (.tuple #[.iface 128 (.agg #[.slice ao m c, pt b]), .int .i64 0]) ∧ Nb w1 w2 b ∧ Fi.FL w2 b d.c Fi.rest0) → BuQ w d e w2) := fun e w2 hb2 h1 h2 => by
        have zb := HB1.out.size
        have hw2 : wr2 d = if Fi.inC d.c = true then 0 else 3 := by unfold wr2; rw [if_pos Hk.out]
        refine ⟨HB1.out.trans (hb2.mono zb), fun h => ?_, fun h => ?_⟩
        · cases hi : Fi.inC d.c with
          | true => rw [hw2, hi] at h; exact absurd rfl h
          | false => rw [hw2, hi]; exact h1 hi
        · cases hi : Fi.inC d.c with
          | false => rw [hw2, hi] at h; exact absurd h (by decide)
          | true =>
            obtain ⟨b, e1, e2, e3⟩ := h2 hi
            exact ⟨_, _, fun k => k = b, e1, fun k hk => by subst hk; exact e2.up zb, fun F V i hF => ⟨ears_of hl hc1 hc2 HZ.out hb2 (fun k hk => by subst hk; exact e2.1) hF, .inr (.inr (.inr (.inr (.inr (.inr (.inr (.inl ⟨Hk.out, b, rfl, rfl, e3⟩)))))))⟩⟩
      go_wp2_with fail
      refine hq2.mono ?_
      rintro e w2 ⟨hb2, h1, h2⟩
      have HR2 : Hid (BuQ w d e w2) := HR.out e w2 hb2 h1 h2
      have HF : Hid (∃ v r, e = .returned (.tuple #[v, .int .i64 r])) := by
        cases hi : Fi.inC d.c with
        | true => obtain ⟨b, e1, _⟩ := h2 hi; exact ⟨_, 0, e1⟩
        | false => exact ⟨_, 3, h1 hi⟩
      obtain ⟨v, r, rfl⟩ := HF.out
      clear hb2 h1 h2 HR HF
      go_wp2_with fail
      go_returns
      exact HR2.out
    · have Hk : Hid (d.kind = 8) := hk8
      clear h6 hk c5
      go_enter Try.func37, Try.ntmps37
      go_wp2_with fail
      refine hq.mono ?_
      rintro e w1 ⟨ao, c, rfl, hc1, hc2, hZ, hb1⟩
      have HZ : Hid (ZL w1 (fun b => w.heap.size ≤ b ∧ b < w1.heap.size) ao d.frm) := hZ.keep (fun _ _ _ => rfl) (Nat.le_refl _) (fun b hb _ => ⟨by have := hb.1; rw [HB0.out.2] at this; omega, hb.2⟩)
      have HB1 : Hid (Below w.heap.size w w1) := HB0.out.1.trans (hb1.mono (by rw [HB0.out.2]; omega))
      have lw : w.heap.size < w1.heap.size := by have := hb1.size; rw [HB0.out.2] at this; omega
      have y0 := Fi.keepC hb1 (a := ⟨w.heap.size, 0, none⟩) (v := .int .i64 d.kind) (by simp) (by simp [go_sem])
      have y1 := Fi.keepC hb1 (a := ⟨w.heap.size, 1, none⟩) (v := .slice fo d.frm.length fc) (by simp) (by simp [go_sem])
      have y2 := Fi.keepC hb1 (a := ⟨w.heap.size, 2, none⟩) (v := .int .i64 d.n) (by simp) (by simp [go_sem])
      have y3 := Fi.keepC hb1 (a := ⟨w.heap.size, 3, none⟩) (v := .float .f64 d.x) (by simp) (by simp [go_sem])
      have y4 := Fi.keepC hb1 (a := ⟨w.heap.size, 4, none⟩) (v := .float .f64 d.c.b0) (by simp) (by simp [go_sem])
      have y5 := Fi.keepC hb1 (a := ⟨w.heap.size, 5, none⟩) (v := .float .f64 d.c.b1) (by simp) (by simp [go_sem])
      have y6 := Fi.keepC hb1 (a := ⟨w.heap.size, 6, none⟩) (v := .float .f64 d.c.b2) (by simp) (by simp [go_sem])
      have y7 := Fi.keepC hb1 (a := ⟨w.heap.size, 7, none⟩) (v := .float .f64 d.c.a1) (by simp) (by simp [go_sem])
      have y8 := Fi.keepC hb1 (a := ⟨w.heap.size, 8, none⟩) (v := .float .f64 d.c.a2) (by simp) (by simp [go_sem])
      have y9 := Fi.keepC hb1 (a := ⟨w.heap.size, 9, none⟩) (v := .int .i64 d.p.shape) (by simp) (by simp [go_sem])
      have y10 := Fi.keepC hb1 (a := ⟨w.heap.size, 10, none⟩) (v := .int .u32 d.p.step) (by simp) (by simp [go_sem])
      have y11 := Fi.keepC hb1 (a := ⟨w.heap.size, 11, none⟩) (v := .float .f64 d.p.gain) (by simp) (by simp [go_sem])
      have y12 := Fi.keepC hb1 (a := ⟨w.heap.size, 12, none⟩) (v := .int .i64 d.p.atk) (by simp) (by simp [go_sem])
      have y13 := Fi.keepC hb1 (a := ⟨w.heap.size, 13, none⟩) (v := .int .i64 d.p.dec) (by simp) (by simp [go_sem])
      have y14 := Fi.keepC hb1 (a := ⟨w.heap.size, 14, none⟩) (v := .int .i64 d.p.rel) (by simp) (by simp [go_sem])
      have y15 := Fi.keepC hb1 (a := ⟨w.heap.size, 15, none⟩) (v := .int .i64 d.p.sus) (by simp) (by simp [go_sem])
      rw [hlen] at y1
      clear hq hb1 hZ hlen
      rw [hk8] at y0
      have hq2 := singer_mk hC ao m c d.p HN.out.1.g HN.out.1.st w1
      simp only [Vo.pv] at hq2
      have HR : Hid (∀ e w2, Below w1.heap.size w1 w2 → (Vo.wr d.p ≠ 0 → e = .returned (.tuple #[.nilIface, .int .i64 (Vo.wr d.p)])) → (Vo.wr d.p = 0 → ∃ b vb, e = .returned (.tuple #[.iface 132 (pt b), .int .i64 0]) ∧ Nb w1 w2 b ∧ Nb w1 w2 vb ∧ GL w2 b vb 0 d.p (.slice ao m c)) → BuQ w d e w2) := fun e w2 hb2 h1 h2 => by
        have zb := HB1.out.size
        have hw2 : wr2 d = Vo.wr d.p := by unfold wr2; rw [if_neg (by rw [Hk.out]; decide), if_pos Hk.out]
        refine ⟨HB1.out.trans (hb2.mono zb), fun h => by rw [hw2] at h ⊢; exact h1 h, fun h => ?_⟩
        rw [hw2] at h
        obtain ⟨b, vb, e1, e2, e2v, e3⟩ := h2 h
        exact ⟨_, _, fun k => k = b ∨ k = vb, e1, fun k hk => hk.elim (fun hk => by subst hk; exact e2.up zb) (fun hk => by subst hk; exact e2v.up zb), fun F V i hF => ⟨ears_of hl hc1 hc2 HZ.out hb2 (fun k hk => hk.elim (fun hk => by subst hk; exact e2.1) (fun hk => by subst hk; exact e2v.1)) hF, .inr (.inr (.inr (.inr (.inr (.inr (.inr (.inr ⟨Hk.out, b, vb, rfl, .inl rfl, .inr rfl, e3⟩)))))))⟩⟩
      go_wp2_with fail
      refine hq2.mono ?_
      rintro e w2 ⟨hb2, h1, h2⟩
      have HR2 : Hid (BuQ w d e w2) := HR.out e w2 hb2 h1 h2
      have HF : Hid (∃ v r, e = .returned (.tuple #[v, .int .i64 r])) := by
        by_cases hi : Vo.wr d.p = 0
        · obtain ⟨b, vb, e1, _⟩ := h2 hi; exact ⟨_, 0, e1⟩
        · exact ⟨_, _, h1 hi⟩
      obtain ⟨v, r, rfl⟩ := HF.out
      clear hb2 h1 h2 HR HF
      go_wp2_with fail
      go_returns
      exact HR2.out
end Go.Proofs.Ytjpcebnbkdekkaa.Gh

/- wrong: what is wrong with a node. -/
namespace Go.Proofs.Ytjpcebnbkdekkaa.Gh
open Go.RowKit Go.Maps Go.Sort Fl
set_option linter.unusedVariables false
set_option linter.unusedSimpArgs false

/-- What is wrong with a node, but for what other chapters say. -/
def wr1 (N : Nat) (ins : Int) (d : Nd) : Int :=
  if isK d.kind = false then 1
  else if fitK d.kind d.frm.length = false then 5
  else if belB N d.frm = false then 8
  else if d.kind = 1 ∧ (d.n < 0 ∨ ins ≤ d.n) then 3
  else if d.kind = 6 ∧ (d.n < 1 ∨ 4096 < d.n) then 3
  else 0
@[reducible] def gv (ins : Int) (go uo : Option Addr) (N gc U uc : Nat) : Value := .agg #[.int .i64 ins, .slice go N gc, .slice uo U uc]
theorem one_ZL (n : Int) (w : World) : ZL (w.alloc (Obj.cells #[.int .i64 n] 3)) (fun _ => True) (some ⟨w.heap.size, 0, none⟩) [n] := ⟨fun _ => ⟨w.heap.size, 0, rfl, by simp, trivial, fun j y hj => by
    match j, hj with
    | 0, hj => simp at hj; subst hj; simp [go_sem]⟩⟩
set_option maxRecDepth 8000 in
set_option maxHeartbeats 8000000 in
theorem wrong_any (ins : Int) (go uo : Option Addr) (N gc U uc : Nat) (d : Nd) (fo : Option Addr) (fc : Nat) (S : Nat → Prop) (w : World) (hN : NA w S d fo fc) :
    Calls Try.prog 36 #[gv ins go uo N gc U uc, nv d fo fc] w fun e w' => e = .returned (.int .i64 (wr1 N ins d)) ∧ Below w.heap.size w w' := by
  obtain ⟨m, hl⟩ : ∃ m, d.frm.length = m := ⟨_, rfl⟩
  obtain ⟨W2, hW2⟩ : ∃ X, X = (w.alloc (Obj.cells #[.int .i64 ins, .slice go N gc, .slice uo U uc] 25)).alloc (Obj.cells (nc d fo fc) 53) := ⟨_, rfl⟩
  have HB2 : Hid (Below w.heap.size w W2) := by rw [hW2]; exact ((Below.refl _ _).alloc (Nat.le_refl _) _).alloc (by simp) _
  have z2 : W2.heap.size = w.heap.size + 2 := by rw [hW2]; simp
  have g0 : W2.cell? ⟨w.heap.size, 0, none⟩ = some (.int .i64 ins) := by rw [hW2]; simp [go_sem]
  have g1 : W2.cell? ⟨w.heap.size, 1, none⟩ = some (.slice go N gc) := by rw [hW2]; simp [go_sem]
  have n0 : W2.cell? ⟨w.heap.size + 1, 0, none⟩ = some (.int .i64 d.kind) := by rw [hW2]; simp [go_sem]
  have n1 : W2.cell? ⟨w.heap.size + 1, 1, none⟩ = some (.slice fo m fc) := by rw [hW2, ← hl]; simp [go_sem]
  have n2 : W2.cell? ⟨w.heap.size + 1, 2, none⟩ = some (.int .i64 d.n) := by rw [hW2]; simp [go_sem]
  have lg : w.heap.size < W2.heap.size := by omega
  have ln : w.heap.size + 1 < W2.heap.size := by omega
  have q1 : ∀ w, Calls Try.prog 43 #[.int .i64 d.kind, .int .i64 (m : Int)] w fun e w' => e = .returned (.tuple #[.bool (isK d.kind), .bool (fitK d.kind (m : Int))]) ∧ w' = w := fun w => listens_any d.kind (m : Int) w
  have q2 := below_any N d.frm S fo m fc W2 (hN.z.bel HB2.out) hl (by have := hN.c; omega) hN.cm
  have q3 := fun (W : World) => below_any ins [d.n] _ _ 1 1 _ (one_ZL d.n W) rfl (by omega) (by omega)
  have HR : Hid (∀ v : Int, wr1 N ins d = v → ∀ w', Below w.heap.size w w' → Ending.returned (.int .i64 v) = .returned (.int .i64 (wr1 N ins d)) ∧ Below w.heap.size w w') := fun v h w' hb => ⟨by rw [h], hb⟩
  have Hw : Hid (wr1 N ins d = if isK d.kind = false then 1 else if fitK d.kind m = false then 5 else if belB N d.frm = false then 8 else if d.kind = 1 ∧ (d.n < 0 ∨ ins ≤ d.n) then 3 else if d.kind = 6 ∧ (d.n < 1 ∨ 4096 < d.n) then 3 else 0) := by
    unfold Hid
    rw [← hl]; rfl
  obtain ⟨WR, hWR⟩ : ∃ A, A = wr1 N ins d := ⟨_, rfl⟩
  obtain ⟨A1, hA1⟩ : ∃ A, A = isK d.kind := ⟨_, rfl⟩
  obtain ⟨A2, hA2⟩ : ∃ A, A = fitK d.kind (m : Int) := ⟨_, rfl⟩
  obtain ⟨A3, hA3⟩ : ∃ A, A = belB N d.frm := ⟨_, rfl⟩
  have q1 : ∀ w, Calls Try.prog 43 #[.int .i64 d.kind, .int .i64 (m : Int)] w fun e w' => e = .returned (.tuple #[.bool A1, .bool A2]) ∧ w' = w := fun w => by rw [hA1, hA2]; exact q1 w
  rw [← hA3] at q2
  rw [← hWR, ← hA1, ← hA2, ← hA3] at Hw
  rw [← hWR] at HR ⊢
  clear hWR hA1 hA2 hA3
  have q3 : ∀ W : World, Calls Try.prog 21 #[.int .i64 ins, .slice (some ⟨W.heap.size, 0, none⟩) 1 1] (W.alloc (Obj.cells #[.int .i64 d.n] 3)) fun e w' => e = .returned (.bool (decide (0 ≤ d.n) && decide (d.n < ins))) ∧ w' = W.alloc (Obj.cells #[.int .i64 d.n] 3) := fun W => by rw [← belB_one]; exact q3 W
  clear hN
  cases A1
  · have hv : Hid (WR = 1) := by unfold Hid; rw [Hw.out]; rfl
    clear Hw
    go_enter Try.func36, Try.ntmps36
    go_wp2_with fail
    rw [show (w.alloc (Obj.cells #[.int .i64 ins, .slice go N gc, .slice uo U uc] 25)).alloc (Obj.cells (nc d fo fc) 53) = W2 from hW2.symm]
    clear hW2
    refine (q1 _).mono ?_
    rintro e w1 ⟨rfl, hw⟩
    rw [hw]
    go_wp2_with fail
    go_ret
    exact HR.out _ hv.out _ HB2.out
  cases A2
  · have hv : Hid (WR = 5) := by unfold Hid; rw [Hw.out]; rfl
    clear Hw
    go_enter Try.func36, Try.ntmps36
    go_wp2_with fail
    rw [show (w.alloc (Obj.cells #[.int .i64 ins, .slice go N gc, .slice uo U uc] 25)).alloc (Obj.cells (nc d fo fc) 53) = W2 from hW2.symm]
    clear hW2
    refine (q1 _).mono ?_
    rintro e w1 ⟨rfl, hw⟩
    rw [hw]
    go_wp2_with fail
    go_ret
    exact HR.out _ hv.out _ HB2.out
  cases A3
  · have hv : Hid (WR = 8) := by unfold Hid; rw [Hw.out]; rfl
    clear Hw
    go_enter Try.func36, Try.ntmps36
    go_wp2_with fail
    rw [show (w.alloc (Obj.cells #[.int .i64 ins, .slice go N gc, .slice uo U uc] 25)).alloc (Obj.cells (nc d fo fc) 53) = W2 from hW2.symm]
    clear hW2
    refine (q1 _).mono ?_
    rintro e w1 ⟨rfl, hw⟩
    rw [hw]
    clear hw
    go_wp2_with fail
    refine q2.mono ?_
    rintro e w1 ⟨rfl, hw⟩
    rw [hw]
    go_wp2_with fail
    go_ret
    exact HR.out _ hv.out _ HB2.out
  have Hv : Hid (WR = if d.kind = 1 ∧ (d.n < 0 ∨ ins ≤ d.n) then 3 else if d.kind = 6 ∧ (d.n < 1 ∨ 4096 < d.n) then 3 else 0) := by unfold Hid; rw [Hw.out]; rfl
  clear Hw
  by_cases k1 : d.kind = 1
  · rw [k1] at n0 q1 Hv
    by_cases c : d.n < 0 ∨ ins ≤ d.n
    · have hv : Hid (WR = 3) := by unfold Hid; rw [Hv.out, if_pos ⟨rfl, c⟩]
      have hb : (decide (0 ≤ d.n) && decide (d.n < ins)) = false := by
        rcases c with c | c
        · rw [decide_eq_false (by omega)]; rfl
        · rw [show decide (d.n < ins) = false from decide_eq_false (by omega), Bool.and_false]
      have q3 : ∀ W : World, Calls Try.prog 21 #[.int .i64 ins, .slice (some ⟨W.heap.size, 0, none⟩) 1 1] (W.alloc (Obj.cells #[.int .i64 d.n] 3)) fun e w' => e = .returned (.bool false) ∧ w' = W.alloc (Obj.cells #[.int .i64 d.n] 3) := fun W => by have := q3 W; rw [hb] at this; exact this
      have q3z := q3 W2
      rw [z2] at q3z
      clear Hv hb c q3
      go_enter Try.func36, Try.ntmps36
      go_wp2_with fail
      rw [show (w.alloc (Obj.cells #[.int .i64 ins, .slice go N gc, .slice uo U uc] 25)).alloc (Obj.cells (nc d fo fc) 53) = W2 from hW2.symm]
      clear hW2
      first | rw [k1] | skip
      refine (q1 _).mono ?_
      rintro e w1 ⟨rfl, hw⟩
      rw [hw]
      clear hw
      go_wp2_with fail
      refine q2.mono ?_
      rintro e w1 ⟨rfl, hw⟩
      rw [hw]
      clear hw
      go_wp2_with fail
      refine q3z.mono ?_
      rintro e w1 ⟨rfl, hw⟩
      rw [hw]
      clear hw
      go_wp2_with fail
      go_ret
      exact HR.out _ hv.out _ (HB2.out.trans (((Below.refl _ _).alloc (Nat.le_refl _) _ : Below W2.heap.size W2 _).mono (by omega)))
    · have hv : Hid (WR = 0) := by unfold Hid; rw [Hv.out, if_neg (fun q => c q.2), if_neg (by omega)]
      have hb : (decide (0 ≤ d.n) && decide (d.n < ins)) = true := by
        rw [decide_eq_true (by omega), decide_eq_true (by omega)]; rfl
      have q3 : ∀ W : World, Calls Try.prog 21 #[.int .i64 ins, .slice (some ⟨W.heap.size, 0, none⟩) 1 1] (W.alloc (Obj.cells #[.int .i64 d.n] 3)) fun e w' => e = .returned (.bool true) ∧ w' = W.alloc (Obj.cells #[.int .i64 d.n] 3) := fun W => by have := q3 W; rw [hb] at this; exact this
      have q3z := q3 W2
      rw [z2] at q3z
      clear Hv hb c q3
      go_enter Try.func36, Try.ntmps36
      go_wp2_with fail
      rw [show (w.alloc (Obj.cells #[.int .i64 ins, .slice go N gc, .slice uo U uc] 25)).alloc (Obj.cells (nc d fo fc) 53) = W2 from hW2.symm]
      clear hW2
      refine (q1 _).mono ?_
      rintro e w1 ⟨rfl, hw⟩
      rw [hw]
      clear hw
      go_wp2_with fail
      refine q2.mono ?_
      rintro e w1 ⟨rfl, hw⟩
      rw [hw]
      clear hw
      go_wp2_with fail
      refine q3z.mono ?_
      rintro e w1 ⟨rfl, hw⟩
      rw [hw]
      clear hw
      go_wp2_with fail
      go_ret
      exact HR.out _ hv.out _ (HB2.out.trans (((Below.refl _ _).alloc (Nat.le_refl _) _ : Below W2.heap.size W2 _).mono (by omega)))
  have Hv2 : Hid (WR = if d.kind = 6 ∧ (d.n < 1 ∨ 4096 < d.n) then 3 else 0) := by unfold Hid; rw [Hv.out, if_neg (fun q => k1 q.1)]
  clear Hv
  by_cases k6 : d.kind = 6
  · rw [k6] at n0 q1 Hv2
    have k61 : ¬ (6 : Int) = 1 := by decide
    by_cases c1 : d.n < 1
    · have hv : Hid (WR = 3) := by unfold Hid; rw [Hv2.out, if_pos ⟨rfl, .inl c1⟩]
      clear Hv2
      go_enter Try.func36, Try.ntmps36
      go_wp2_with fail
      rw [show (w.alloc (Obj.cells #[.int .i64 ins, .slice go N gc, .slice uo U uc] 25)).alloc (Obj.cells (nc d fo fc) 53) = W2 from hW2.symm]
      clear hW2
      refine (q1 _).mono ?_
      rintro e w1 ⟨rfl, hw⟩
      rw [hw]
      clear hw
      go_wp2_with fail
      refine q2.mono ?_
      rintro e w1 ⟨rfl, hw⟩
      rw [hw]
      clear hw
      go_wp2_with fail
      go_ret
      exact HR.out _ hv.out _ HB2.out
    · by_cases c2 : 4096 < d.n
      · have hv : Hid (WR = 3) := by unfold Hid; rw [Hv2.out, if_pos ⟨rfl, .inr c2⟩]
        clear Hv2
        go_enter Try.func36, Try.ntmps36
        go_wp2_with fail
        rw [show (w.alloc (Obj.cells #[.int .i64 ins, .slice go N gc, .slice uo U uc] 25)).alloc (Obj.cells (nc d fo fc) 53) = W2 from hW2.symm]
        clear hW2
        refine (q1 _).mono ?_
        rintro e w1 ⟨rfl, hw⟩
        rw [hw]
        clear hw
        go_wp2_with fail
        refine q2.mono ?_
        rintro e w1 ⟨rfl, hw⟩
        rw [hw]
        clear hw
        go_wp2_with fail
        go_ret
        exact HR.out _ hv.out _ HB2.out
      · have hv : Hid (WR = 0) := by unfold Hid; rw [Hv2.out, if_neg (by omega)]
        clear Hv2
        go_enter Try.func36, Try.ntmps36
        go_wp2_with fail
        rw [show (w.alloc (Obj.cells #[.int .i64 ins, .slice go N gc, .slice uo U uc] 25)).alloc (Obj.cells (nc d fo fc) 53) = W2 from hW2.symm]
        clear hW2
        refine (q1 _).mono ?_
        rintro e w1 ⟨rfl, hw⟩
        rw [hw]
        clear hw
        go_wp2_with fail
        refine q2.mono ?_
        rintro e w1 ⟨rfl, hw⟩
        rw [hw]
        clear hw
        go_wp2_with fail
        go_ret
        exact HR.out _ hv.out _ HB2.out
  · have hv : Hid (WR = 0) := by unfold Hid; rw [Hv2.out, if_neg (fun q => k6 q.1)]
    clear Hv2
    go_enter Try.func36, Try.ntmps36
    go_wp2_with fail
    rw [show (w.alloc (Obj.cells #[.int .i64 ins, .slice go N gc, .slice uo U uc] 25)).alloc (Obj.cells (nc d fo fc) 53) = W2 from hW2.symm]
    clear hW2
    refine (q1 _).mono ?_
    rintro e w1 ⟨rfl, hw⟩
    rw [hw]
    clear hw
    go_wp2_with fail
    refine q2.mono ?_
    rintro e w1 ⟨rfl, hw⟩
    rw [hw]
    clear hw
    go_wp2_with fail
    go_ret
    exact HR.out _ hv.out _ HB2.out
end Go.Proofs.Ytjpcebnbkdekkaa.Gh

/- buildAll: all nodes are made. -/
namespace Go.Proofs.Ytjpcebnbkdekkaa.Gh
open Go.RowKit Go.Maps Go.Sort Fl
set_option linter.unusedVariables false
set_option linter.unusedSimpArgs false

/-- What is wrong with a node, all in all. -/
def wn (N : Nat) (ins : Int) (d : Nd) : Int := if wr1 N ins d = 0 then wr2 d else wr1 N ins d
/-- .. with the first node with which something is. -/
def wns (N : Nat) (ins : Int) : List Nd → Int
  | [] => 0
  | d :: l => if wn N ins d = 0 then wns N ins l else wn N ins d
theorem wns_zero {N : Nat} {ins : Int} : ∀ {l : List Nd}, (∀ d ∈ l, wn N ins d = 0) → wns N ins l = 0
  | [], _ => rfl
  | d :: l, h => by
    show (if wn N ins d = 0 then wns N ins l else _) = 0
    rw [if_pos (h d (List.mem_cons_self ..))]
    exact wns_zero (fun x hx => h x (List.mem_cons_of_mem _ hx))
theorem wns_at {N : Nat} {ins : Int} : ∀ {l : List Nd} {k : Nat} {d : Nd}, l[k]? = some d → (∀ (j : Nat) d, j < k → l[j]? = some d → wn N ins d = 0) → wn N ins d ≠ 0 → wns N ins l = wn N ins d
  | [], k, d, h, _, _ => by simp at h
  | a :: l, 0, d, h, _, hn => by
    simp at h; subst h
    show (if wn N ins a = 0 then _ else wn N ins a) = _
    rw [if_neg hn]
  | a :: l, k + 1, d, h, hp, hn => by
    show (if wn N ins a = 0 then wns N ins l else _) = _
    rw [if_pos (hp 0 a (by omega) rfl)]
    exact wns_at (l := l) (k := k) (by simpa using h) (fun j d' hj hd => hp (j + 1) d' (by omega) (by simpa using hd)) hn
theorem wns_is {N : Nat} {ins : Int} : ∀ {l : List Nd}, wns N ins l = 0 → ∀ d ∈ l, wn N ins d = 0
  | [], _, d, hd => by cases hd
  | a :: l, h, d, hd => by
    have h' : (if wn N ins a = 0 then wns N ins l else wn N ins a) = 0 := h
    by_cases c : wn N ins a = 0
    · rw [if_pos c] at h'
      rcases List.mem_cons.1 hd with rfl | hm
      · exact c
      · exact wns_is h' d hm
    · rw [if_neg c] at h'; exact absurd h' c
/-- Nodes as they are handed in. -/
structure GA (w : World) (S : Nat → Prop) (go : Option Addr) (ds : List Nd) : Prop where
  at' : ∀ i d, ds[i]? = some d → ∃ b off fo fc, go = some ⟨b, off, none⟩ ∧ S b ∧ b < w.heap.size ∧ (∀ (j : Nat) v, (nc d fo fc)[j]? = some v → w.cell? ⟨b, off + i * 16 + j, none⟩ = some v) ∧ NA w S d fo fc
theorem NA.keep {w w' : World} {S S' : Nat → Prop} {d : Nd} {fo : Option Addr} {fc : Nat} (h : NA w S d fo fc) (hk : ∀ b, S b → b < w.heap.size → w'.heap[b]? = w.heap[b]?) (hz : w.heap.size ≤ w'.heap.size) (hs : ∀ b, S b → b < w.heap.size → S' b) : NA w' S' d fo fc := ⟨h.z.keep hk hz hs, h.c, h.cm, h.nn, h.x, h.g, h.st, h.len⟩
theorem GA.keep {w w' : World} {S : Nat → Prop} {go : Option Addr} {ds : List Nd} (h : GA w S go ds) (hk : ∀ b, S b → b < w.heap.size → w'.heap[b]? = w.heap[b]?) (hz : w.heap.size ≤ w'.heap.size) : GA w' S go ds := ⟨fun i d hd => by
  obtain ⟨b, off, fo, fc, h1, h2, h3, h4, h5⟩ := h.at' i d hd
  exact ⟨b, off, fo, fc, h1, h2, by omega, fun j v hv => (World.cell?_of_block (w := w) (w' := w') (a := ⟨b, _, none⟩) (hk b h2 h3)).trans (h4 j v hv), h5.keep hk hz (fun _ h _ => h)⟩⟩
theorem NodeL.mono {w : World} {F F' O : Nat → Prop} {V : Hist} {T i : Nat} {d : Nd} {ev v : Value} (h : NodeL w F O V T i d ev v) (hF : ∀ b, F b → F' b) : NodeL w F' O V T i d ev v := by
  refine ⟨h.e.keep (fun _ _ _ => rfl) (Nat.le_refl _) (fun b hb _ => hF b hb), ?_⟩
  rcases h.k with ⟨hk', cb, rfl, h1, h2⟩ | ⟨hk', cb, rfl, h1, h2, h3⟩ | ⟨hk', cb, cx, rfl, h1, h1x, h2, h3, h4⟩ | ⟨hk', h0, cb, rfl, h1, h2⟩ | ⟨hk', h0, cb, rfl, h1, h2⟩ | ⟨hk', cb, cx, rfl, h1, h1x, h2, h3⟩ | q | q | q
  · exact .inl ⟨hk', cb, rfl, hF _ h1, h2⟩
  · exact .inr (.inl ⟨hk', cb, rfl, hF _ h1, h2, h3⟩)
  · exact .inr (.inr (.inl ⟨hk', cb, cx, rfl, hF _ h1, hF _ h1x, h2, h3, h4⟩))
  · exact .inr (.inr (.inr (.inl ⟨hk', h0, cb, rfl, hF _ h1, h2⟩)))
  · exact .inr (.inr (.inr (.inr (.inl ⟨hk', h0, cb, rfl, hF _ h1, h2⟩))))
  · exact .inr (.inr (.inr (.inr (.inr (.inl ⟨hk', cb, cx, rfl, hF _ h1, hF _ h1x, h2, h3⟩)))))
  · exact .inr (.inr (.inr (.inr (.inr (.inr (.inl q))))))
  · exact .inr (.inr (.inr (.inr (.inr (.inr (.inr (.inl q)))))))
  · exact .inr (.inr (.inr (.inr (.inr (.inr (.inr (.inr q)))))))
/-- While nodes are made. -/
structure BA (base : Nat) (ds : List Nd) (k : Nat) (v : Value) (Vs : List Value) (O : Nat → Nat → Prop) (ww : World) : Prop where
  own : ww.ownsRow base 76 1 v k Vs
  len : Vs.length = k
  nd : ∀ i d, i < k → ds[i]? = some d → ∃ ev x, Vs[i]? = some x ∧ ∀ (V : Hist) (F : Nat → Prop), (∀ b, base ≤ b → b < ww.heap.size → some b ≠ v.ownBlock → (¬ ∃ j, O j b) → F b) → NodeL ww F (O i) V 0 i d ev x
  O1 : ∀ i b, O i b → base ≤ b ∧ b < ww.heap.size ∧ some b ≠ v.ownBlock ∧ i < k
  OO : ∀ i j b, O i b → O j b → i = j
/-- One more node. -/
theorem BA.put {base : Nat} {ds : List Nd} {k : Nat} {v v' x ev : Value} {Vs : List Value} {O : Nat → Nat → Prop} {Om : Nat → Prop} {d : Nd} {w wb w2 w2' w3 : World} (h : BA base ds k v Vs O w) (hbz : base ≤ w.heap.size) (hb1 : Below w.heap.size w wb) (hb2 : Below wb.heap.size wb w2) (hb3 : Below w2.heap.size w2 w2') (hg : Fi.Gw w2' w3 v v') (ho : w3.ownsRow base 76 1 v' (k + 1) (Vs ++ [x])) (hd : ds[k]? = some d) (hO : ∀ b, Om b → Nb wb w2 b) (hN : ∀ (F : Nat → Prop) (V : Hist), (∀ b, Nb wb w2 b → ¬ Om b → F b) → NodeL w2 F Om V 0 k d ev x) : BA base ds (k + 1) v' (Vs ++ [x]) (fun i b => if i = k then Om b else O i b) w3 := by
  have z1 := hb1.size; have z2 := hb2.size; have z3 := hb3.size; have z4 := hg.gr.size
  have hlt := Fi.own_lt h.own
  have hkeep : ∀ b, b < w.heap.size → some b ≠ v.ownBlock → w3.heap[b]? = w.heap[b]? := fun b hb hne => by
    rw [hg.gr.block b (by omega) hne, hb3.block b (by omega), hb2.block b (by omega), hb1.block b hb]
  have hne' : ∀ b, b < w2'.heap.size → some b ≠ v.ownBlock → some b ≠ v'.ownBlock := fun b hb hn => by
    rcases hg.ob with q | ⟨j, q, hj⟩
    · rw [q]; exact hn
    · rw [q]; intro q2; simp at q2; omega
  have hnv : ∀ b, w.heap.size ≤ b → some b ≠ v.ownBlock := fun b hb q => by have := hlt b q.symm; omega
  refine ⟨ho, by simp [h.len], fun i d' hi hd' => ?_, fun i b hb => ?_, fun i j b hi hj => ?_⟩
  · by_cases e : i = k
    · subst e
      rw [hd] at hd'
      cases hd'
      refine ⟨ev, x, by rw [← h.len]; simp, fun V F hF => ?_⟩
      simp only [if_true]
      have hN0 := hN (fun b => Nb wb w2 b ∧ ¬ Om b) V (fun b hb hnO => ⟨hb, hnO⟩)
      have hkb : ∀ b, w.heap.size ≤ b → b < w2.heap.size → w3.heap[b]? = w2.heap[b]? := fun b hb hl => by rw [hg.gr.block b (by omega) (hnv b hb), hb3.block b hl]
      refine (hN0.keep (fun b hb hl => hkb b (hb.elim (fun q => by have := q.1.1; omega) (fun q => by have := (hO b q).1; omega)) hl) (by omega) (fun _ h => h)).mono (fun b hb => hF b (by have := hb.1.1; omega) (by have := hb.1.2; omega) (hne' b (by have := hb.1.2; omega) (hnv b (by have := hb.1.1; omega))) ?_)
      rintro ⟨j, hj⟩
      by_cases ej : j = i
      · simp only [if_pos ej] at hj; exact hb.2 hj
      · simp only [if_neg ej] at hj
        have := (h.O1 j b hj).2.1
        have := hb.1.1
        omega
    · obtain ⟨ev', x', a1, a2⟩ := h.nd i d' (by omega) hd'
      refine ⟨ev', x', by rw [List.getElem?_append_left (by rw [h.len]; omega)]; exact a1, fun V F hF => ?_⟩
      simp only [if_neg e]
      have hN0 := a2 V (fun b => base ≤ b ∧ b < w.heap.size ∧ some b ≠ v.ownBlock ∧ ¬ ∃ j, O j b) (fun b b1 b2 b3 b4 => ⟨b1, b2, b3, b4⟩)
      refine (hN0.keep (fun b hb hl => hkeep b hl (hb.elim (fun q => q.2.2.1) (fun q => (h.O1 i b q).2.2.1))) (by omega) (fun _ h => h)).mono (fun b hb => hF b hb.1 (by have := hb.2.1; omega) (hne' b (by have := hb.2.1; omega) hb.2.2.1) ?_)
      rintro ⟨j, hj⟩
      by_cases ej : j = k
      · simp only [if_pos ej] at hj
        have := (hO b hj).1
        have := hb.2.1
        omega
      · simp only [if_neg ej] at hj; exact hb.2.2.2 ⟨j, hj⟩
  · by_cases e : i = k
    · simp only [if_pos e] at hb
      have := hO b hb
      have h1 := this.1; have h2 := this.2
      exact ⟨by omega, by omega, hne' b (by omega) (hnv b (by omega)), by omega⟩
    · simp only [if_neg e] at hb
      obtain ⟨a1, a2, a3, a4⟩ := h.O1 i b hb
      exact ⟨a1, by omega, hne' b (by omega) a3, by omega⟩
  · by_cases ei : i = k
    · by_cases ej : j = k
      · omega
      · simp only [if_pos ei] at hi
        simp only [if_neg ej] at hj
        have := (hO b hi).1
        have := (h.O1 j b hj).2.1
        omega
    · by_cases ej : j = k
      · simp only [if_neg ei] at hi
        simp only [if_pos ej] at hj
        have := (hO b hj).1
        have := (h.O1 i b hi).2.1
        omega
      · simp only [if_neg ei] at hi
        simp only [if_neg ej] at hj
        exact h.OO i j b hi hj
end Go.Proofs.Ytjpcebnbkdekkaa.Gh

/- buildAll, walked. -/
namespace Go.Proofs.Ytjpcebnbkdekkaa.Gh
open Go.RowKit Go.Maps Go.Sort Fl
set_option linter.unusedVariables false
set_option linter.unusedSimpArgs false

theorem wr1_ok {N : Nat} {ins : Int} {d : Nd} (h : wr1 N ins d = 0) : (1 ≤ d.kind ∧ d.kind ≤ 8) ∧ many d ∧ (∀ k ∈ d.frm, 0 ≤ k ∧ k < N) ∧ (d.kind = 1 → 0 ≤ d.n ∧ d.n < ins) ∧ (d.kind = 6 → d.n ≤ 4096) := by
  unfold wr1 at h
  by_cases c1 : isK d.kind = false
  · rw [if_pos c1] at h; omega
  rw [if_neg c1] at h
  by_cases c2 : fitK d.kind d.frm.length = false
  · rw [if_pos c2] at h; omega
  rw [if_neg c2] at h
  by_cases c3 : belB N d.frm = false
  · rw [if_pos c3] at h; omega
  rw [if_neg c3] at h
  by_cases c4 : d.kind = 1 ∧ (d.n < 0 ∨ ins ≤ d.n)
  · rw [if_pos c4] at h; omega
  rw [if_neg c4] at h
  by_cases c5 : d.kind = 6 ∧ (d.n < 1 ∨ 4096 < d.n)
  · rw [if_pos c5] at h; omega
  have k1 : isK d.kind = true := by cases hc : isK d.kind with
    | true => rfl
    | false => exact absurd hc c1
  have k2 : fitK d.kind d.frm.length = true := by cases hc : fitK d.kind d.frm.length with
    | true => rfl
    | false => exact absurd hc c2
  have k3 : belB N d.frm = true := by cases hc : belB N d.frm with
    | true => rfl
    | false => exact absurd hc c3
  unfold isK at k1
  simp only [Bool.and_eq_true, decide_eq_true_eq] at k1
  refine ⟨k1, ⟨fun hk => ?_, fun hk => ?_, fun hk => ?_⟩, belB_is k3, fun hk => ?_, fun hk => ?_⟩
  · unfold fitK at k2
    rw [if_neg (by omega), if_pos hk] at k2
    simp only [decide_eq_true_eq] at k2
    omega
  · unfold fitK at k2
    rw [if_neg (by omega), if_neg (by omega), if_pos hk] at k2
    simp only [decide_eq_true_eq] at k2
    omega
  · omega
  · omega
  · omega
theorem infoN : (Try.prog.info? 76).map (fun i => (i.zero, i.size, i.bytes)) = some (some .nilIface, 1, 16) := by kernel_rfl
/-- What buildAll answers. -/
structure BaQ (w : World) (N : Nat) (ins : Int) (ds : List Nd) (e : Ending) (w' : World) : Prop where
  b : Below w.heap.size w w'
  bad : wns N ins ds ≠ 0 → e = .returned (.tuple #[.slice none 0 0, .int .i64 (wns N ins ds)])
  ok : wns N ins ds = 0 → ∃ v Vs O, e = .returned (.tuple #[v, .int .i64 0]) ∧ BA w.heap.size ds ds.length v Vs O w'
set_option maxRecDepth 8000 in
set_option maxHeartbeats 8000000 in
theorem buildAll_any (hC : Vo.CirC) (ins : Int) (go uo : Option Addr) (N gc U uc : Nat) (ds : List Nd) (S : Nat → Prop) (w : World) (hG : GA w S go ds) (hl : ds.length = N) (hgc : N ≤ gc) (hN : N ≤ 256) :
    Calls Try.prog 22 #[gv ins go uo N gc U uc] w fun e w' => BaQ w N ins ds e w' := by
  obtain ⟨W1, hW1⟩ : ∃ X, X = w.alloc (Obj.cells #[.int .i64 ins, .slice go N gc, .slice uo U uc] 25) := ⟨_, rfl⟩
  have HB1 : Hid (Below w.heap.size w W1) := by rw [hW1]; exact (Below.refl _ _).alloc (Nat.le_refl _) _
  have z1 : W1.heap.size = w.heap.size + 1 := by rw [hW1]; simp
  have g0 : W1.cell? ⟨w.heap.size, 0, none⟩ = some (.int .i64 ins) := by rw [hW1]; simp [go_sem]
  have g1 : W1.cell? ⟨w.heap.size, 1, none⟩ = some (.slice go N gc) := by rw [hW1]; simp [go_sem]
  have g2 : W1.cell? ⟨w.heap.size, 2, none⟩ = some (.slice uo U uc) := by rw [hW1]; simp [go_sem]
  have HG : Hid (GA W1 S go ds) := hG.keep (fun b _ hl => HB1.out.block b hl) HB1.out.size
  have Hl : Hid (ds.length = N) := hl
  have lg : w.heap.size < W1.heap.size := by omega
  have Hbad : Hid (∀ r : Int, wns N ins ds = r → r ≠ 0 → ∀ w', Below w.heap.size w w' → BaQ w N ins ds (.returned (.tuple #[.slice none 0 0, .int .i64 r])) w') := fun r hr hr0 w' hb => ⟨hb, fun _ => by rw [hr], fun h => absurd (hr ▸ h) hr0⟩
  have HBA : Hid (BA W1.heap.size ds 0 (.slice none 0 0) [] (fun _ _ => False) W1) := ⟨World.ownsRow_nil _ _ _ _, rfl, fun i d hi => absurd hi (by omega), fun i b h => h.elim, fun i j b h => h.elim⟩
  have Hz1 : Hid (W1.heap.size = w.heap.size + 1) := z1
  clear hG hl z1
  go_enter Try.func22, Try.ntmps22
  go_wp2_with fail
  rw [show w.alloc (Obj.cells #[.int .i64 ins, .slice go N gc, .slice uo U uc] 25) = W1 from hW1.symm]
  clear hW1
  go_wp2_with fail
  go_loopw [13, 4] (fun i v ww => ∃ k : Nat, k ≤ N ∧ i = .int .i64 k ∧ Hid (∃ Vs O, BA W1.heap.size ds k v Vs O ww) ∧ Hid (∀ (j : Nat) d, j < k → ds[j]? = some d → wn N ins d = 0) ∧ Below W1.heap.size W1 ww) (fun i _ _ => N - (intOf i).toNat)
  case atStart => exact ⟨0, by omega, rfl, ⟨[], _, HBA.out⟩, fun j d hj => absurd hj (by omega), Below.refl _ _⟩
  case round =>
    obtain ⟨k, hk, rfl, hE, hP, hbr⟩ := hrel
    obtain ⟨Vs, O, hA⟩ := hE.out
    obtain ⟨va, vc, rfl, hv1, hv2⟩ := Fi.own_form hA.own
    by_cases hlt : k < N
    · obtain ⟨d, hd⟩ : ∃ d, ds[k]? = some d := ⟨_, List.getElem?_eq_getElem (by rw [Hl.out]; exact hlt)⟩
      obtain ⟨b, off, fo, fc, rfl, hS, hlb, hcl, hNA⟩ := (HG.out.keep (fun b _ hl => hbr.block b hl) hbr.size).at' k d hd
      have n0 : wr.cell? ⟨b, off + k * 16, none⟩ = some (.int .i64 d.kind) := hcl 0 _ rfl
      have n1 : wr.cell? ⟨b, off + k * 16 + 1, none⟩ = some (.slice fo d.frm.length fc) := hcl 1 _ rfl
      have n2 : wr.cell? ⟨b, off + k * 16 + 2, none⟩ = some (.int .i64 d.n) := hcl 2 _ rfl
      have n3 : wr.cell? ⟨b, off + k * 16 + 3, none⟩ = some (.float .f64 d.x) := hcl 3 _ rfl
      have n4 : wr.cell? ⟨b, off + k * 16 + 4, none⟩ = some (.float .f64 d.c.b0) := hcl 4 _ rfl
      have n5 : wr.cell? ⟨b, off + k * 16 + 5, none⟩ = some (.float .f64 d.c.b1) := hcl 5 _ rfl
      have n6 : wr.cell? ⟨b, off + k * 16 + 6, none⟩ = some (.float .f64 d.c.b2) := hcl 6 _ rfl
      have n7 : wr.cell? ⟨b, off + k * 16 + 7, none⟩ = some (.float .f64 d.c.a1) := hcl 7 _ rfl
      have n8 : wr.cell? ⟨b, off + k * 16 + 8, none⟩ = some (.float .f64 d.c.a2) := hcl 8 _ rfl
      have n9 : wr.cell? ⟨b, off + k * 16 + 9, none⟩ = some (.int .i64 d.p.shape) := hcl 9 _ rfl
      have n10 : wr.cell? ⟨b, off + k * 16 + 10, none⟩ = some (.int .u32 d.p.step) := hcl 10 _ rfl
      have n11 : wr.cell? ⟨b, off + k * 16 + 11, none⟩ = some (.float .f64 d.p.gain) := hcl 11 _ rfl
      have n12 : wr.cell? ⟨b, off + k * 16 + 12, none⟩ = some (.int .i64 d.p.atk) := hcl 12 _ rfl
      have n13 : wr.cell? ⟨b, off + k * 16 + 13, none⟩ = some (.int .i64 d.p.dec) := hcl 13 _ rfl
      have n14 : wr.cell? ⟨b, off + k * 16 + 14, none⟩ = some (.int .i64 d.p.rel) := hcl 14 _ rfl
      have n15 : wr.cell? ⟨b, off + k * 16 + 15, none⟩ = some (.int .i64 d.p.sus) := hcl 15 _ rfl
      have e0 := Fi.keepC hbr lg g0
      have e1 := Fi.keepC hbr lg g1
      have e2 := Fi.keepC hbr lg g2
      have le := lt_cell e0
      have hlt' : (k : Int) < (N : Int) := by omega
      have w3 : IntKind.i64.wrap ((k : Int) + 1) = (k : Int) + 1 := wid (by omega) (by omega)
      obtain ⟨WB, hWB⟩ : ∃ X, X = wr.alloc (Obj.cells (nc d fo fc) 53) := ⟨_, rfl⟩
      have HB : Hid (Below wr.heap.size wr WB ∧ WB.heap.size = wr.heap.size + 1) := by rw [hWB]; exact nbox _ _ _
      have hq1 := wrong_any ins (some ⟨b, off, none⟩) uo N gc U uc d fo fc S WB (hNA.keep (fun b _ hl => HB.out.1.block b hl) HB.out.1.size (fun _ h _ => h))
      simp only [gv, nv, nc] at hq1
      have HD : Hid (ds[k]? = some d ∧ NA wr S d fo fc) := ⟨hd, hNA⟩
      have HA : Hid (BA W1.heap.size ds k (.slice va k vc) Vs O wr) := hA
      clear hE hA hcl hd hNA
      go_wp2_with fail
      rw [show wr.alloc (Obj.cells #[Value.int .i64 d.kind, .slice fo d.frm.length fc, .int .i64 d.n, .float .f64 d.x, .float .f64 d.c.b0, .float .f64 d.c.b1, .float .f64 d.c.b2, .float .f64 d.c.a1, .float .f64 d.c.a2, .int .i64 d.p.shape, .int .u32 d.p.step, .float .f64 d.p.gain, .int .i64 d.p.atk, .int .i64 d.p.dec, .int .i64 d.p.rel, .int .i64 d.p.sus] 53) = WB from hWB.symm]
      refine hq1.mono ?_
      rintro e w4 ⟨rfl, hb4⟩
      have m0 : w4.cell? ⟨wr.heap.size, 0, none⟩ = some (.int .i64 d.kind) := Fi.keepC hb4 (a := ⟨wr.heap.size, 0, none⟩) (by have := HB.out.2; show wr.heap.size < WB.heap.size; omega) (by rw [hWB]; simp [go_sem])
      have m1 : w4.cell? ⟨wr.heap.size, 1, none⟩ = some (.slice fo d.frm.length fc) := Fi.keepC hb4 (a := ⟨wr.heap.size, 1, none⟩) (by have := HB.out.2; show wr.heap.size < WB.heap.size; omega) (by rw [hWB]; simp [go_sem])
      have m2 : w4.cell? ⟨wr.heap.size, 2, none⟩ = some (.int .i64 d.n) := Fi.keepC hb4 (a := ⟨wr.heap.size, 2, none⟩) (by have := HB.out.2; show wr.heap.size < WB.heap.size; omega) (by rw [hWB]; simp [go_sem])
      have m3 : w4.cell? ⟨wr.heap.size, 3, none⟩ = some (.float .f64 d.x) := Fi.keepC hb4 (a := ⟨wr.heap.size, 3, none⟩) (by have := HB.out.2; show wr.heap.size < WB.heap.size; omega) (by rw [hWB]; simp [go_sem])
      have m4 : w4.cell? ⟨wr.heap.size, 4, none⟩ = some (.float .f64 d.c.b0) := Fi.keepC hb4 (a := ⟨wr.heap.size, 4, none⟩) (by have := HB.out.2; show wr.heap.size < WB.heap.size; omega) (by rw [hWB]; simp [go_sem])
      have m5 : w4.cell? ⟨wr.heap.size, 5, none⟩ = some (.float .f64 d.c.b1) := Fi.keepC hb4 (a := ⟨wr.heap.size, 5, none⟩) (by have := HB.out.2; show wr.heap.size < WB.heap.size; omega) (by rw [hWB]; simp [go_sem])
      have m6 : w4.cell? ⟨wr.heap.size, 6, none⟩ = some (.float .f64 d.c.b2) := Fi.keepC hb4 (a := ⟨wr.heap.size, 6, none⟩) (by have := HB.out.2; show wr.heap.size < WB.heap.size; omega) (by rw [hWB]; simp [go_sem])
      have m7 : w4.cell? ⟨wr.heap.size, 7, none⟩ = some (.float .f64 d.c.a1) := Fi.keepC hb4 (a := ⟨wr.heap.size, 7, none⟩) (by have := HB.out.2; show wr.heap.size < WB.heap.size; omega) (by rw [hWB]; simp [go_sem])
      have m8 : w4.cell? ⟨wr.heap.size, 8, none⟩ = some (.float .f64 d.c.a2) := Fi.keepC hb4 (a := ⟨wr.heap.size, 8, none⟩) (by have := HB.out.2; show wr.heap.size < WB.heap.size; omega) (by rw [hWB]; simp [go_sem])
      have m9 : w4.cell? ⟨wr.heap.size, 9, none⟩ = some (.int .i64 d.p.shape) := Fi.keepC hb4 (a := ⟨wr.heap.size, 9, none⟩) (by have := HB.out.2; show wr.heap.size < WB.heap.size; omega) (by rw [hWB]; simp [go_sem])
      have m10 : w4.cell? ⟨wr.heap.size, 10, none⟩ = some (.int .u32 d.p.step) := Fi.keepC hb4 (a := ⟨wr.heap.size, 10, none⟩) (by have := HB.out.2; show wr.heap.size < WB.heap.size; omega) (by rw [hWB]; simp [go_sem])
      have m11 : w4.cell? ⟨wr.heap.size, 11, none⟩ = some (.float .f64 d.p.gain) := Fi.keepC hb4 (a := ⟨wr.heap.size, 11, none⟩) (by have := HB.out.2; show wr.heap.size < WB.heap.size; omega) (by rw [hWB]; simp [go_sem])
      have m12 : w4.cell? ⟨wr.heap.size, 12, none⟩ = some (.int .i64 d.p.atk) := Fi.keepC hb4 (a := ⟨wr.heap.size, 12, none⟩) (by have := HB.out.2; show wr.heap.size < WB.heap.size; omega) (by rw [hWB]; simp [go_sem])
      have m13 : w4.cell? ⟨wr.heap.size, 13, none⟩ = some (.int .i64 d.p.dec) := Fi.keepC hb4 (a := ⟨wr.heap.size, 13, none⟩) (by have := HB.out.2; show wr.heap.size < WB.heap.size; omega) (by rw [hWB]; simp [go_sem])
      have m14 : w4.cell? ⟨wr.heap.size, 14, none⟩ = some (.int .i64 d.p.rel) := Fi.keepC hb4 (a := ⟨wr.heap.size, 14, none⟩) (by have := HB.out.2; show wr.heap.size < WB.heap.size; omega) (by rw [hWB]; simp [go_sem])
      have m15 : w4.cell? ⟨wr.heap.size, 15, none⟩ = some (.int .i64 d.p.sus) := Fi.keepC hb4 (a := ⟨wr.heap.size, 15, none⟩) (by have := HB.out.2; show wr.heap.size < WB.heap.size; omega) (by rw [hWB]; simp [go_sem])
      have lw4 := lt_cell m0
      have HB4 : Hid (Below wr.heap.size wr w4) := HB.out.1.trans (hb4.mono (by have := HB.out.2; omega))
      have zr := hbr.size
      have HbW : Hid (Below w.heap.size w w4) := HB1.out.trans ((hbr.trans (HB4.out.mono zr)).mono (by have := Hz1.out; omega))
      clear hq1 hb4 hWB e0 e1 e2 le n0 n1 n2 n3 n4 n5 n6 n7 n8 n9 n10 n11 n12 n13 n14 n15 HB
      by_cases hw1 : wr1 N ins d = 0
      · obtain ⟨c1, c2, c3, c4, c5⟩ := wr1_ok hw1
        have hq2 := build_any hC d fo fc S w4 (HD.out.2.keep (fun b _ hl => HB4.out.block b hl) HB4.out.size (fun _ h _ => h)) c1 c2 (fun k hk => (c3 k hk).1) c5
        simp only [nv, nc] at hq2
        have Hwn : Hid (wn N ins d = wr2 d) := if_pos hw1
        rw [hw1]
        clear hw1 c1 c2 c3 c4 c5
        go_wp2_with fail
        refine hq2.mono ?_
        intro e w5 hQ
        have HB5 : Hid (Below w4.heap.size w4 w5) := hQ.b
        clear hq2 m0 m1 m2 m3 m4 m5 m6 m7 m8 m9 m10 m11 m12 m13 m14 m15
        by_cases hw2 : wr2 d = 0
        · obtain ⟨ev, x, Om, rfl, hO, hNd⟩ := hQ.ok hw2
          obtain ⟨t, u, rfl⟩ := (hNd (fun _ => True) (fun _ _ => none) 0 (fun _ _ _ => trivial)).iface
          have hbC : Below w5.heap.size w5 (w5.alloc (Obj.cells #[.iface t u] 76)) := (Below.refl _ _).alloc (Nat.le_refl _) _
          have hlo := Fi.own_lt HA.out.own
          have hb45 : Below wr.heap.size wr (w5.alloc (Obj.cells #[.iface t u] 76)) := HB4.out.trans ((HB5.out.mono HB4.out.size).trans (hbC.mono (by have := HB5.out.size; have := HB4.out.size; omega)))
          have HOw : Hid ((w5.alloc (Obj.cells #[.iface t u] 76)).ownsRow W1.heap.size 76 1 (.slice va k vc) k Vs) := Fi.own_step HA.out.own (fun q hq => hb45.block q (hlo q hq))
          have hbase : W1.heap.size ≤ (w5.alloc (Obj.cells #[.iface t u] 76)).heap.size := by have := hb45.size; omega
          have Hput : Hid (∀ v' w6, w6.ownsRow W1.heap.size 76 1 v' (k + 1) (Vs ++ [.iface t u]) → Fi.Gw (w5.alloc (Obj.cells #[.iface t u] 76)) w6 (.slice va k vc) v' → (∃ Vs O, BA W1.heap.size ds (k + 1) v' Vs O w6) ∧ Below W1.heap.size W1 w6) := fun v' w6 o6 g6 => ⟨⟨_, _, BA.put HA.out zr HB4.out HB5.out hbC g6 o6 HD.out.1 hO (fun F V hF => hNd F V k hF)⟩, hbr.trans ((hb45.mono zr).trans (g6.bel hbase (fun q hq => Fi.own_block HOw.out q hq)))⟩
          have HPn : Hid (∀ (j : Nat) d, j < k + 1 → ds[j]? = some d → wn N ins d = 0) := fun j d' hj hd' => by
            by_cases ej : j = k
            · subst ej
              rw [HD.out.1] at hd'
              cases hd'
              rw [Hwn.out, hw2]
            · exact hP.out j d' (by omega) hd'
          clear hQ hO hNd hbC hlo hb45 hw2 HA
          go_wp2_with (at_builtin; refine Fi.wpList_append_1 67 76 .nilIface 16 Try.underlying67 infoN rfl (by omega) rfl (.tmp 31) (.tmp 33) rfl W1.heap.size _ k Vs rfl HOw.out w5.heap.size (.iface t u) rfl (by simp [go_sem]) rfl (by omega) hbase ?a1)
          case a1 =>
            intro v' w6 o6 g6
            obtain ⟨h1, h2⟩ := Hput.out v' w6 o6 g6
            have H1 : Hid (∃ Vs O, BA W1.heap.size ds (k + 1) v' Vs O w6) := h1
            clear o6 g6 h1 Hput HOw
            go_wp2_with fail
            exact ⟨⟨k + 1, by omega, by go_num, H1, HPn, h2⟩, by simp [intOf]; omega⟩
        · have he := hQ.bad hw2
          subst he
          have hwn : wns N ins ds = wr2 d := by rw [← Hwn.out]; exact wns_at HD.out.1 hP.out (by rw [Hwn.out]; exact hw2)
          have HE : Hid (BaQ w N ins ds (.returned (.tuple #[.slice none 0 0, .int .i64 (wr2 d)])) w5) := Hbad.out _ hwn hw2 w5 (HbW.out.trans (HB5.out.mono HbW.out.size))
          clear hQ hwn
          go_wp2_with fail
          go_returns
          exact HE.out
      · have hwn : wns N ins ds = wr1 N ins d := by
          have e1 : wn N ins d = wr1 N ins d := if_neg hw1
          rw [← e1]; exact wns_at HD.out.1 hP.out (by rw [e1]; exact hw1)
        have HE : Hid (BaQ w N ins ds (.returned (.tuple #[.slice none 0 0, .int .i64 (wr1 N ins d)])) w4) := Hbad.out _ hwn hw1 w4 HbW.out
        clear hwn m0 m1 m2 m3 m4 m5 m6 m7 m8 m9 m10 m11 m12 m13 m14 m15
        go_wp2_with fail
        go_returns
        exact HE.out
    · obtain rfl : k = N := by omega
      have HE : Hid (BaQ w k ins ds (.returned (.tuple #[.slice va k vc, .int .i64 0])) wr) := by
        have hz : wns k ins ds = 0 := wns_zero (fun d hd => by
          obtain ⟨j, hj, e⟩ := List.getElem_of_mem hd
          exact hP.out j d (by rw [← Hl.out]; exact hj) (by rw [List.getElem?_eq_getElem hj, e]))
        refine ⟨HB1.out.trans (hbr.mono (by have := Hz1.out; omega)), fun h => absurd hz h, fun _ => ⟨_, Vs, O, rfl, ?_⟩⟩
        rw [Hl.out]
        have hz1 := Hz1.out
        refine ⟨⟨hA.own.1, hA.own.2.imp id (fun ⟨g, cap, cur, a1, a2, a3⟩ => ⟨g, cap, cur, a1, by omega, a3⟩)⟩, hA.len, fun i d hi hd => ?_, fun i b hb => ?_, hA.OO⟩
        · obtain ⟨ev, x, a1, a2⟩ := hA.nd i d hi hd
          exact ⟨ev, x, a1, fun V F hF => a2 V F (fun b b1 b2 b3 b4 => hF b (by omega) b2 b3 b4)⟩
        · obtain ⟨a1, a2, a3, a4⟩ := hA.O1 i b hb
          exact ⟨by omega, a2, a3, a4⟩
      clear hE hA
      go_wp2_with fail
      go_returns
      exact HE.out
end Go.Proofs.Ytjpcebnbkdekkaa.Gh

/- An order of the nodes is looked for, in plain words. -/
namespace Go.Proofs.Ytjpcebnbkdekkaa.Gh
open Fl
set_option linter.unusedVariables false
set_option linter.unusedSimpArgs false

/-- i hears k at once. -/
def Eg (g : Gr) (i k : Nat) : Prop := ∃ x ∈ now (nd g i), x.toNat = k
/-- .. by way of so many others. -/
def Rch (g : Gr) : Nat → Nat → Nat → Prop
  | 0, a, b => Eg g a b
  | n + 1, a, b => ∃ c, Eg g a c ∧ Rch g n c b
/-- A node hears itself. -/
def Cyc (g : Gr) : Prop := ∃ n i, i < g.nodes.length ∧ Rch g n i i
theorem Rch.snoc {g : Gr} : ∀ {n a b c : Nat}, Rch g n a b → Eg g b c → Rch g (n + 1) a c
  | 0, a, b, c, h, e => ⟨b, h, e⟩
  | n + 1, a, b, c, ⟨d, h1, h2⟩, e => ⟨d, h1, h2.snoc e⟩
/-- Each of a list hears the one ahead of it. -/
def Pth (g : Gr) : List Nat → Prop
  | [] => True
  | [_] => True
  | a :: b :: l => Eg g b a ∧ Pth g (b :: l)
theorem Pth.tail {g : Gr} {a : Nat} {l : List Nat} (h : Pth g (a :: l)) : Pth g l := by
  cases l with
  | nil => trivial
  | cons b l => exact h.2
theorem Pth.to {g : Gr} : ∀ {l : List Nat} {a x : Nat}, Pth g (a :: l) → x ∈ a :: l → x = a ∨ ∃ n, Rch g n x a
  | [], a, x, _, hx => by simp at hx; exact .inl hx
  | b :: l, a, x, h, hx => by
    rcases List.mem_cons.1 hx with rfl | hx
    · exact .inl rfl
    · rcases Pth.to h.2 hx with rfl | ⟨n, hn⟩
      · exact .inr ⟨0, h.1⟩
      · exact .inr ⟨n + 1, hn.snoc h.1⟩
/-- The search for an order: what is begun, what is done. -/
structure DI (g : Gr) (seen : Nat → Nat) (out st : List Nat) : Prop where
  r : ∀ i, i < g.nodes.length → seen i ≤ 2
  o : ∀ i, i < g.nodes.length → (i ∈ out ↔ seen i = 2)
  lt : ∀ i ∈ out, i < g.nodes.length
  nd : out.Nodup
  dep : ∀ (m i : Nat), out[m]? = some i → ∀ k ∈ now (Gh.nd g i), k.toNat ∈ out.take m
  s : ∀ i, i < g.nodes.length → (i ∈ st ↔ seen i = 1)
  p : Pth g st
  sl : ∀ i ∈ st, i < g.nodes.length
def ups (s : Nat → Nat) (x v : Nat) : Nat → Nat := fun i => if i = x then v else s i
theorem DI.begin {g : Gr} {seen : Nat → Nat} {out st : List Nat} {x : Nat} (h : DI g seen out st) (hx : x < g.nodes.length) (h0 : seen x = 0) (hp : st = [] ∨ ∃ a l, st = a :: l ∧ Eg g a x) : DI g (ups seen x 1) out (x :: st) := by
  refine ⟨fun i hi => ?_, fun i hi => ?_, h.lt, h.nd, h.dep, fun i hi => ?_, ?_, fun i hi => ?_⟩
  · unfold ups; split
    · omega
    · exact h.r i hi
  · unfold ups
    by_cases e : i = x
    · rw [if_pos e, h.o i hi, e, h0]; constructor <;> intro q <;> omega
    · rw [if_neg e]; exact h.o i hi
  · unfold ups
    by_cases e : i = x
    · rw [if_pos e]; simp [e]
    · rw [if_neg e, ← h.s i hi]; simp [e]
  · rcases hp with rfl | ⟨a, l, rfl, he⟩
    · trivial
    · exact ⟨he, h.p⟩
  · rcases List.mem_cons.1 hi with rfl | q
    · exact hx
    · exact h.sl i q
theorem DI.done {g : Gr} {seen : Nat → Nat} {out st : List Nat} {x : Nat} (h : DI g seen out (x :: st)) (hx : x < g.nodes.length) (hst : x ∉ st) (hd : ∀ k ∈ now (Gh.nd g x), k.toNat ∈ out) : DI g (ups seen x 2) (out ++ [x]) st := by
  have h1 : seen x = 1 := (h.s x hx).1 (List.mem_cons_self ..)
  have hno : x ∉ out := fun q => by have := (h.o x hx).1 q; omega
  refine ⟨fun i hi => ?_, fun i hi => ?_, fun i hi => ?_, ?_, fun m i hm k hk => ?_, fun i hi => ?_, h.p.tail, fun i hi => h.sl i (List.mem_cons_of_mem _ hi)⟩
  · unfold ups; split
    · omega
    · exact h.r i hi
  · unfold ups
    by_cases e : i = x
    · rw [if_pos e]; simp [e]
    · rw [if_neg e, ← h.o i hi]; simp [e]
  · rcases List.mem_append.1 hi with q | q
    · exact h.lt i q
    · simp at q; rw [q]; exact hx
  · rw [List.nodup_append]
    exact ⟨h.nd, by simp, fun a ha b hb => by simp at hb; rw [hb]; exact fun e => hno (e ▸ ha)⟩
  · by_cases c : m < out.length
    · rw [List.getElem?_append_left c] at hm
      rw [List.take_append_of_le_length (by omega)]
      exact h.dep m i hm k hk
    · have hml := (List.getElem?_eq_some_iff.1 hm).1
      simp at hml
      obtain rfl : m = out.length := by omega
      rw [List.getElem?_append_right (Nat.le_refl _)] at hm
      simp at hm
      subst hm
      rw [List.take_append_of_le_length (Nat.le_refl _), List.take_of_length_le (Nat.le_refl _)]
      exact hd k hk
  · unfold ups
    by_cases e : i = x
    · rw [if_pos e, e]
      constructor
      · intro q; exact absurd q hst
      · intro q; omega
    · rw [if_neg e, ← h.s i hi]; simp [e]
/-- What is begun is met again. -/
theorem DI.cyc {g : Gr} {seen : Nat → Nat} {out st : List Nat} {x : Nat} (h : DI g seen out st) (hx : x < g.nodes.length) (h1 : seen x = 1) (hp : st = [] ∨ ∃ a l, st = a :: l ∧ Eg g a x) : Cyc g := by
  have hm := (h.s x hx).2 h1
  rcases hp with rfl | ⟨a, l, rfl, he⟩
  · cases hm
  · rcases Pth.to h.p hm with rfl | ⟨n, hn⟩
    · exact ⟨0, x, hx, he⟩
    · exact ⟨n + 1, x, hx, hn.snoc he⟩
/-- How many are not seen yet. -/
def cnt : Nat → (Nat → Nat) → Nat
  | 0, _ => 0
  | n + 1, s => cnt n s + (if s n = 0 then 1 else 0)
theorem cnt_mono : ∀ (n : Nat) (s t : Nat → Nat), (∀ i, i < n → s i ≠ 0 → t i ≠ 0) → cnt n t ≤ cnt n s
  | 0, _, _, _ => Nat.le_refl _
  | n + 1, s, t, h => by
    have ih := cnt_mono n s t (fun i hi => h i (by omega))
    have hn := h n (by omega)
    show cnt n t + (if t n = 0 then 1 else 0) ≤ cnt n s + (if s n = 0 then 1 else 0)
    by_cases c : s n = 0
    · rw [if_pos c]; split <;> omega
    · rw [if_neg c, if_neg (hn c)]; omega
theorem cnt_less : ∀ (n : Nat) (s : Nat → Nat) (x v : Nat), x < n → s x = 0 → v ≠ 0 → cnt n (ups s x v) < cnt n s
  | 0, _, _, _, h, _, _ => absurd h (by omega)
  | n + 1, s, x, v, h, h0, hv => by
    show cnt n (ups s x v) + (if ups s x v n = 0 then 1 else 0) < cnt n s + (if s n = 0 then 1 else 0)
    by_cases e : n = x
    · subst e
      have h1 : ups s n v n = v := if_pos rfl
      rw [h1, if_neg hv, if_pos h0]
      have := cnt_mono n s (ups s n v) (fun i hi hs => by unfold ups; rw [if_neg (by omega)]; exact hs)
      omega
    · have h1 : ups s x v n = s n := if_neg e
      rw [h1]
      have := cnt_less n s x v (by omega) h0 hv
      omega
/-- Where all is done there is an order. -/
theorem nodup_le : ∀ (N : Nat) (l : List Nat), l.Nodup → (∀ i ∈ l, i < N) → l.length ≤ N := by
  intro N
  induction N with
  | zero => intro l _ h; cases l with
    | nil => exact Nat.le_refl _
    | cons a l => exact absurd (h a (List.mem_cons_self ..)) (by omega)
  | succ N ih =>
    intro l hn h
    have h1 := ih (l.erase N) (hn.erase N) (fun i hi => by
      have := h i (List.mem_of_mem_erase hi)
      have hne : i ≠ N := fun e => by subst e; exact (hn.not_mem_erase) hi
      omega)
    have h2 : l.length ≤ (l.erase N).length + 1 := by
      rw [List.length_erase]; split <;> omega
    omega
theorem all_le : ∀ (N : Nat) (l : List Nat), (∀ i, i < N → i ∈ l) → N ≤ l.length := by
  intro N
  induction N with
  | zero => intro l _; omega
  | succ N ih =>
    intro l h
    have h1 := ih (l.erase N) (fun i hi => (List.mem_erase_of_ne (by omega)).2 (h i (by omega)))
    have h2 := h N (by omega)
    rw [List.length_erase_of_mem h2] at h1
    have : 0 < l.length := List.length_pos_of_mem h2
    omega
theorem DI.ord {g : Gr} {seen : Nat → Nat} {out : List Nat} (h : DI g seen out []) (ha : ∀ i, i < g.nodes.length → seen i = 2) : Ord g out := by
  have hall : ∀ i, i < g.nodes.length → i ∈ out := fun i hi => (h.o i hi).2 (ha i hi)
  have h1 := nodup_le _ out h.nd h.lt
  have h2 := all_le _ out hall
  exact ⟨by omega, h.lt, hall, h.nd, h.dep⟩
theorem idx_le : ∀ (l : List Nat) (j x : Nat), l[j]? = some x → l.idxOf x ≤ j
  | [], j, x, h => by simp at h
  | a :: l, 0, x, h => by simp at h; subst h; rw [List.idxOf_cons]; simp
  | a :: l, j + 1, x, h => by
    have ih := idx_le l j x (by simpa using h)
    rw [List.idxOf_cons]
    cases a == x
    · show l.idxOf x + 1 ≤ j + 1; omega
    · show 0 ≤ j + 1; omega
/-- Where there is an order nothing hears itself. -/
theorem Ord.lt_idx {g : Gr} {ord : List Nat} (h : Ord g ord) {i k : Nat} (hi : i < g.nodes.length) (he : Eg g i k) : k < g.nodes.length ∧ ord.idxOf k < ord.idxOf i := by
  obtain ⟨x, hx, rfl⟩ := he
  have hm := h.all i hi
  have hl : ord.idxOf i < ord.length := List.idxOf_lt_length_of_mem hm
  have hg : ord[ord.idxOf i]? = some i := by rw [List.getElem?_eq_getElem hl, List.getElem_idxOf]
  have hk := h.dep _ i hg x hx
  refine ⟨h.lt _ (List.mem_of_mem_take hk), ?_⟩
  obtain ⟨j, hj, e⟩ := List.getElem_of_mem hk
  rw [List.getElem_take] at e
  have hj2 : j < ord.idxOf i := by rw [List.length_take] at hj; omega
  have hjl : j < ord.length := by omega
  have : ord.idxOf x.toNat ≤ j := idx_le ord j x.toNat (by rw [List.getElem?_eq_getElem hjl, e])
  omega
theorem Ord.acyc {g : Gr} {ord : List Nat} (h : Ord g ord) : ¬ Cyc g := by
  rintro ⟨n, i, hi, hr⟩
  have key : ∀ (n a b : Nat), a < g.nodes.length → Rch g n a b → b < g.nodes.length ∧ ord.idxOf b < ord.idxOf a := by
    intro n
    induction n with
    | zero => intro a b ha hr; exact h.lt_idx ha hr
    | succ n ih =>
      rintro a b ha ⟨c, h1, h2⟩
      obtain ⟨c1, c2⟩ := h.lt_idx ha h1
      obtain ⟨d1, d2⟩ := ih c b c1 h2
      exact ⟨d1, by omega⟩
  have := (key n i i hi hr).2
  omega
/-- An order ranks the nodes. -/
theorem Ord.rk {g : Gr} {ord : List Nat} (h : Ord g ord) (hW : Wf g) : Rk g (fun i => ord.idxOf i) := by
  refine ⟨fun i => ?_, fun i hi k hk => (h.lt_idx hi ⟨k, hk, rfl⟩).2, fun i hi => ?_⟩
  · have := List.idxOf_le_length (a := i) (l := ord)
    have := h.len
    show ord.idxOf i ≤ _
    omega
  · obtain ⟨d1, d2, d3, d4⟩ := hW.n _ (List.mem_of_getElem? (get_nd hi))
    exact ⟨d1, d2⟩
end Go.Proofs.Ytjpcebnbkdekkaa.Gh
