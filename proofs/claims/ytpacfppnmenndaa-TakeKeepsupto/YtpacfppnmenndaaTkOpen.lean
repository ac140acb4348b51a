/- A script of takes among a law's arguments. -/
import Derived.Test.YtpacfppnmenndaaRgOpen
import Derived.Test.YtpacfppnmenndaaTk20
import Derived.Deep.Strs
namespace Go.Proofs.Ytpacfppnmenndaa.Tk
open Go.ChangeShapes Go.WideShapes Go.ChangeAt Go.RowKit Go.Joins Go.Deep
open Go.Proofs.Ytpacfppnmenndaa.Rg
set_option linter.unusedVariables false
set_option linter.unusedSimpArgs false

theorem trod_struct5 {H : Type} {enc : TypeId × Value → H} {P : Program} {w : World} {base : Nat} {spare : Nat → Bool} {held : Bool} {t : TypeId} {f0 f1 f2 f3 f4 : Field} {fuel : Nat} {cs : List Value} {x : DataW H × List MemPlace} (ht : P.underlying t = some (.struct #[f0, f1, f2, f3, f4])) (h : DataW.trod enc P w base spare held fuel t cs = some x) :
    ∃ y0 y1 y2 y3 y4 n, cs.length = P.cellsOf t ∧ DataW.trod enc P w base spare held n f0.type ((cs.drop f0.offset).take (P.cellsOf f0.type)) = some y0 ∧
      DataW.trod enc P w base spare held n f1.type ((cs.drop f1.offset).take (P.cellsOf f1.type)) = some y1 ∧ DataW.trod enc P w base spare held n f2.type ((cs.drop f2.offset).take (P.cellsOf f2.type)) = some y2 ∧
      DataW.trod enc P w base spare held n f3.type ((cs.drop f3.offset).take (P.cellsOf f3.type)) = some y3 ∧ DataW.trod enc P w base spare held n f4.type ((cs.drop f4.offset).take (P.cellsOf f4.type)) = some y4 := by
  obtain ⟨xs, n, _, rfl, hl, hlen, hf⟩ := DataW.trod_struct ht h
  match xs, hlen with
  | [y0, y1, y2, y3, y4], _ => exact ⟨y0, y1, y2, y3, y4, n, hl, by simpa using hf 0 f0 rfl, by simpa using hf 1 f1 rfl, by simpa using hf 2 f2 rfl, by simpa using hf 3 f3 rfl, by simpa using hf 4 f4 rfl⟩
set_option maxRecDepth 100000 in
theorem pitch_cells {H : Type} {enc : TypeId × Value → H} {W : World} {base : Nat} {spare : Nat → Bool} {held : Bool} {n : Nat} {cs : List Value} {x : DataW H × List MemPlace}
    (h : DataW.trod enc Try.prog W base spare held n 36 cs = some x) : ∃ l a o : Int, cs = [.int .i64 l, .int .i64 a, .int .i64 o] := by
  have hC : Try.prog.cellsOf 36 = 3 := by kernel_rfl
  have h3 : Try.prog.cellsOf 3 = 1 := by kernel_rfl
  obtain ⟨y0, y1, y2, m, _, hl, t0, t1, t2⟩ := trod_struct3 Try.underlying36 h
  rw [hC] at hl
  match cs, hl with
  | [c0, c1, c2], _ =>
    obtain ⟨l, e0, _⟩ := DataW.trod_int Try.underlying3 t0
    obtain ⟨a, e1, _, wa⟩ := DataW.trod_int Try.underlying3 t1
    obtain ⟨o, e2, _⟩ := DataW.trod_int Try.underlying3 t2
    refine ⟨l, a, o, ?_⟩
    simp [h3] at e0 e1 e2
    rw [e0, e1, e2]
set_option maxRecDepth 100000 in
theorem tone_cells {H : Type} {enc : TypeId × Value → H} {W : World} {base : Nat} {spare : Nat → Bool} {held : Bool} {n : Nat} {cs : List Value} {x : DataW H × List MemPlace}
    (h : DataW.trod enc Try.prog W base spare held n 38 cs = some x) : ∃ y : Go.Proofs.Ytpacfppnmenndaa.Y.Tn, cs = [.int .i64 y.t, .int .i64 y.g, .int .i64 y.l, .int .i64 y.a, .int .i64 y.o] := by
  have hC : Try.prog.cellsOf 38 = 5 := by kernel_rfl
  have h3 : Try.prog.cellsOf 3 = 1 := by kernel_rfl
  have hP : Try.prog.cellsOf 36 = 3 := by kernel_rfl
  obtain ⟨y0, y1, y2, m, _, hl, t0, t1, t2⟩ := trod_struct3 Try.underlying38 h
  rw [hC] at hl
  match cs, hl with
  | [c0, c1, c2, c3, c4], _ =>
    obtain ⟨t, e0, _⟩ := DataW.trod_int Try.underlying3 t0
    obtain ⟨g, e1, _⟩ := DataW.trod_int Try.underlying3 t1
    obtain ⟨l, a, o, e2⟩ := pitch_cells t2
    refine ⟨⟨t, g, l, a, o⟩, ?_⟩
    simp [h3] at e0 e1
    simp [hP] at e2
    obtain ⟨e2, e3, e4⟩ := e2
    rw [e0, e1, e2, e3, e4]
set_option maxRecDepth 100000 in
theorem edit_cells {H : Type} {enc : TypeId × Value → H} {W : World} {base : Nat} {spare : Nat → Bool} {held : Bool} {n : Nat} {cs : List Value} {x : DataW H × List MemPlace}
    (h : DataW.trod enc Try.prog W base spare held n 40 cs = some x) : ∃ e : Ed, cs = [.int .i64 e.k, .int .i64 e.n, .int .i64 e.t.t, .int .i64 e.t.g, .int .i64 e.t.l, .int .i64 e.t.a, .int .i64 e.t.o] := by
  have hC : Try.prog.cellsOf 40 = 7 := by kernel_rfl
  have h3 : Try.prog.cellsOf 3 = 1 := by kernel_rfl
  have hP : Try.prog.cellsOf 38 = 5 := by kernel_rfl
  obtain ⟨y0, y1, y2, m, _, hl, t0, t1, t2⟩ := trod_struct3 Try.underlying40 h
  rw [hC] at hl
  match cs, hl with
  | [c0, c1, c2, c3, c4, c5, c6], _ =>
    obtain ⟨k, e0, _⟩ := DataW.trod_int Try.underlying3 t0
    obtain ⟨n, e1, _⟩ := DataW.trod_int Try.underlying3 t1
    obtain ⟨y, e2⟩ := tone_cells t2
    refine ⟨⟨k, n, y⟩, ?_⟩
    simp [h3] at e0 e1
    simp [hP] at e2
    obtain ⟨e2, e3, e4, e5, e6⟩ := e2
    rw [e0, e1, e2, e3, e4, e5, e6]
set_option maxRecDepth 100000 in
theorem step_cells {H : Type} {enc : TypeId × Value → H} {W : World} {base : Nat} {spare : Nat → Bool} {held : Bool} {n : Nat} {cs : List Value} {x : DataW H × List MemPlace}
    (h : DataW.trod enc Try.prog W base spare held n 44 cs = some x) : ∃ s : Sp, cs = [.bool s.op, .int .i64 s.e.k, .int .i64 s.e.n, .int .i64 s.e.t.t, .int .i64 s.e.t.g, .int .i64 s.e.t.l, .int .i64 s.e.t.a, .int .i64 s.e.t.o, .int .i64 s.pw, .int .i64 s.pk, .int .i64 s.wd] := by
  have hC : Try.prog.cellsOf 44 = 11 := by kernel_rfl
  have h3 : Try.prog.cellsOf 3 = 1 := by kernel_rfl
  have h4 : Try.prog.cellsOf 4 = 1 := by kernel_rfl
  have h2 : Try.prog.cellsOf 2 = 1 := by kernel_rfl
  have hP : Try.prog.cellsOf 40 = 7 := by kernel_rfl
  obtain ⟨y0, y1, y2, y3, y4, m, hl, t0, t1, t2, t3, t4⟩ := trod_struct5 Try.underlying44 h
  rw [hC] at hl
  match cs, hl with
  | [c0, c1, c2, c3, c4, c5, c6, c7, c8, c9, c10], _ =>
    obtain ⟨b, e0, _⟩ := DataW.trod_bool Try.underlying4 t0
    obtain ⟨ed, e1⟩ := edit_cells t1
    obtain ⟨pw, e2, _⟩ := DataW.trod_int Try.underlying3 t2
    obtain ⟨pk, e3, _⟩ := DataW.trod_int Try.underlying3 t3
    obtain ⟨wd, e4, _⟩ := DataW.trod_int Try.underlying2 t4
    refine ⟨⟨b, ed, pw, pk, wd⟩, ?_⟩
    simp [h3] at e2 e3
    simp [h4] at e0
    simp [h2] at e4
    simp [hP] at e1
    obtain ⟨f1, f2, f3, f4, f5, f6, f7⟩ := e1
    rw [e0, f1, f2, f3, f4, f5, f6, f7, e2, e3, e4]
set_option maxRecDepth 100000 in
theorem open_script {H : Type} {enc : TypeId × Value → H} {W : World} {r : Reach} {b0 : Nat} {v : Value} {d : DataW H} {p : List MemPlace}
    (hv : Value.okWide Try.prog W r b0 23 v) (h : DataW.Trod enc Try.prog W 0 (fun _ => true) true 23 v d p) :
    ∃ (ao : Option Addr) (c n : Nat) (l : List Sp), v = .slice ao n c ∧ l.length = n ∧ n ≤ c ∧ c ≤ 9223372036854775807 ∧ n ≤ Rows.uptoBulk d ∧ SCL W ao l := by
  obtain ⟨a0, len0, cap0, rfl⟩ := okWide_slice Try.underlying23 hv
  obtain ⟨fuel, hf⟩ := h
  have hC : Try.prog.cellsOf 44 = 11 := by kernel_rfl
  obtain ⟨ao, cap, L, h0, h1, h2, h2b, h3⟩ := open_row_b (⟨⟨false, ⟨0, 0, ⟨0, 0, 0, 0, 0⟩⟩, 0, 0, 0⟩⟩ : Inhabited Sp) 11 hC (by omega) Try.underlying23 hf (fun s cs' _ => cs' = [.bool s.op, .int .i64 s.e.k, .int .i64 s.e.n, .int .i64 s.e.t.t, .int .i64 s.e.t.g, .int .i64 s.e.t.l, .int .i64 s.e.t.a, .int .i64 s.e.t.o, .int .i64 s.pw, .int .i64 s.pk, .int .i64 s.wd]) (fun m cs' y hm hy => step_cells hy)
  have e : Value.slice a0 len0 cap0 = .slice ao L.length cap := by simpa [Value.cells] using h0
  have hb := rowr_bulk Try.underlying23 (ao := ao) (n := L.length) (c := cap) (by rw [← e]; exact hf)
  refine ⟨ao, cap, L.length, L, e, rfl, h1, h2, hb, ⟨fun j x hj => ?_⟩⟩
  have hjl : j < L.length := (List.getElem?_eq_some_iff.1 hj).1
  obtain ⟨b, off, g1, g2, E, _, _, g3⟩ := h3 (by omega)
  obtain ⟨cs', _, rfl, _, _, h4⟩ := g3 j x hj
  have hc : ∀ i, i < 11 → W.cell? ⟨b, off + j * 11 + i, none⟩ = [Value.bool x.op, .int .i64 x.e.k, .int .i64 x.e.n, .int .i64 x.e.t.t, .int .i64 x.e.t.g, .int .i64 x.e.t.l, .int .i64 x.e.t.a, .int .i64 x.e.t.o, .int .i64 x.pw, .int .i64 x.pk, .int .i64 x.wd][i]? := fun i hi => by
    rw [Nat.add_assoc]; exact h4 i hi
  exact ⟨b, off, g1, g2, hc 0 (by omega), hc 1 (by omega), hc 2 (by omega), hc 3 (by omega), hc 4 (by omega), hc 5 (by omega), hc 6 (by omega), hc 7 (by omega), hc 8 (by omega), hc 9 (by omega), hc 10 (by omega)⟩
end Go.Proofs.Ytpacfppnmenndaa.Tk
