/- A change among a law's arguments. -/
import Derived.Test.YtjakaceckmhjiafDoorYOpen
import Derived.Test.YtjakaceckmhjiafDoorYMath
namespace Go.Proofs.YtjakaceckmhjiafDoor.Y
open Go.ChangeShapes Go.WideShapes Go.ChangeAt Go.RowKit Go.Joins Go.Deep

set_option maxRecDepth 100000 in
theorem open_change {H : Type} {enc : TypeId × Value → H} {W : World} {r : Reach} {b0 : Nat} {v : Value} {d : DataW H} {p : List MemPlace}
    (hv : Value.okWide Tryd.prog W r b0 28 v) (h : DataW.Trod enc Tryd.prog W 0 (fun _ => true) true 28 v d p) :
    ∃ c : Ch, v = .agg #[.bool c.back, .int .i64 c.slow, .bool c.mir, .int .i64 c.xl, .int .i64 c.xa, .int .i64 c.xo, .int .i64 c.s, .int .i64 c.h, .int .i64 c.d] ∧ -9223372036854775808 ≤ c.xa ∧ c.xa ≤ 9223372036854775807 := by
  have hC : Tryd.prog.cellsOf 28 = 9 := by kernel_rfl
  have h3 : Tryd.prog.cellsOf 3 = 1 := by kernel_rfl
  have h4 : Tryd.prog.cellsOf 4 = 1 := by kernel_rfl
  have hP : Tryd.prog.cellsOf 24 = 3 := by kernel_rfl
  have hI : Tryd.prog.cellsOf 26 = 2 := by kernel_rfl
  obtain ⟨cs, rfl, hsz⟩ := okWide_struct Tryd.underlying28 hv
  rw [hC] at hsz
  obtain ⟨fuel, hf⟩ := h
  have hcs : (Value.agg cs).cells.toList = cs.toList := by simp [Value.cells]
  obtain ⟨xs, n, _, hx, hl, hlen, hfl⟩ := DataW.trod_struct Tryd.underlying28 hf
  match cs, hsz, xs, hlen with
  | ⟨[c0, c1, c2, c3, c4, c5, c6, c7, c8]⟩, _, [y0, y1, y2, y3, y4, y5], _ =>
    have f0 : DataW.trod enc Tryd.prog W 0 (fun _ => true) true n 4 _ = some y0 := hfl 0 _ rfl
    have f1 : DataW.trod enc Tryd.prog W 0 (fun _ => true) true n 3 _ = some y1 := hfl 1 _ rfl
    have f2 : DataW.trod enc Tryd.prog W 0 (fun _ => true) true n 4 _ = some y2 := hfl 2 _ rfl
    have f3 : DataW.trod enc Tryd.prog W 0 (fun _ => true) true n 24 _ = some y3 := hfl 3 _ rfl
    have f4 : DataW.trod enc Tryd.prog W 0 (fun _ => true) true n 26 _ = some y4 := hfl 4 _ rfl
    have f5 : DataW.trod enc Tryd.prog W 0 (fun _ => true) true n 3 _ = some y5 := hfl 5 _ rfl
    obtain ⟨b, e0, _⟩ := DataW.trod_bool Tryd.underlying4 f0
    obtain ⟨sl, e1, _⟩ := DataW.trod_int Tryd.underlying3 f1
    obtain ⟨mi, e2, _⟩ := DataW.trod_bool Tryd.underlying4 f2
    obtain ⟨l, a, o, e3, b1, b2⟩ := open_pitch_cells f3
    obtain ⟨z0, z1, k, _, hl4, g0, g1⟩ := trod_struct2 Tryd.underlying26 f4
    obtain ⟨s, e4, _⟩ := DataW.trod_int Tryd.underlying3 g0
    obtain ⟨hh, e5, _⟩ := DataW.trod_int Tryd.underlying3 g1
    obtain ⟨dl, e6, _⟩ := DataW.trod_int Tryd.underlying3 f5
    refine ⟨⟨b, sl, mi, l, a, o, s, hh, dl⟩, ?_, b1, b2⟩
    simp [h3, h4, hP, hI, Value.cells] at e0 e1 e2 e3 e4 e5 e6
    obtain ⟨e3, e3', e3''⟩ := e3
    rw [e0, e1, e2, e3, e3', e3'', e4, e5, e6]
end Go.Proofs.YtjakaceckmhjiafDoor.Y
