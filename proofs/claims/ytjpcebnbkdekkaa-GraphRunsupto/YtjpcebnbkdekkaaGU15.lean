/- Memory while a graph plays: what is kept, what is copied. -/
import Derived.Test.YtjpcebnbkdekkaaGU8
import Derived.Test.YtjpcebnbkdekkaaGU14
import Derived.Test.YtjpcebnbkdekkaaGU11
import Derived.Test.YtjpcebnbkdekkaaGU5
import Derived.Test.YtjpcebnbkdekkaaGU6
import Derived.Laws.CopyOwn
import Derived.Stop.Asserts
namespace Go.Proofs.Ytjpcebnbkdekkaa.Gh
open Go.RowKit Go.Maps Go.Sort Fl
set_option linter.unusedVariables false
set_option linter.unusedSimpArgs false

/-- All blocks but those of M are kept. -/
structure Kx (M : Nat → Prop) (w w' : World) : Prop where
  os : w'.os = w.os
  tape : w'.tape = w.tape
  output : w'.output = w.output
  size : w.heap.size ≤ w'.heap.size
  block : ∀ k, k < w.heap.size → ¬ M k → w'.heap[k]? = w.heap[k]?
theorem Kx.refl (M : Nat → Prop) (w : World) : Kx M w w := ⟨rfl, rfl, rfl, Nat.le_refl _, fun _ _ _ => rfl⟩
theorem Kx.trans {M : Nat → Prop} {w w1 w2 : World} (h : Kx M w w1) (h2 : Kx M w1 w2) : Kx M w w2 :=
  ⟨h2.os.trans h.os, h2.tape.trans h.tape, h2.output.trans h.output, Nat.le_trans h.size h2.size, fun k hk hm => (h2.block k (Nat.lt_of_lt_of_le hk h.size) hm).trans (h.block k hk hm)⟩
/-- New blocks may be changed besides. -/
theorem Kx.trans' {M M' : Nat → Prop} {w w1 w2 : World} (h : Kx M w w1) (h2 : Kx M' w1 w2) (hm : ∀ k, k < w.heap.size → M' k → M k) : Kx M w w2 :=
  ⟨h2.os.trans h.os, h2.tape.trans h.tape, h2.output.trans h.output, Nat.le_trans h.size h2.size, fun k hk hn => (h2.block k (Nat.lt_of_lt_of_le hk h.size) (fun q => hn (hm k hk q))).trans (h.block k hk hn)⟩
theorem Kx.mono {M M' : Nat → Prop} {w w' : World} (h : Kx M w w') (hm : ∀ k, k < w.heap.size → M k → M' k) : Kx M' w w' :=
  ⟨h.os, h.tape, h.output, h.size, fun k hk hn => h.block k hk (fun q => hn (hm k hk q))⟩
theorem Kx.bel {M : Nat → Prop} {w w' : World} (h : Below w.heap.size w w') : Kx M w w' := ⟨h.os, h.tape, h.output, h.size, fun k hk _ => h.block k hk⟩
theorem Kx.below {M : Nat → Prop} {w w' : World} {B : Nat} (h : Kx M w w') (hB : B ≤ w.heap.size) (hm : ∀ k, k < B → ¬ M k) : Below B w w' := ⟨h.os, h.tape, h.output, h.size, fun k hk => h.block k (by omega) (hm k hk)⟩
theorem Kx.put {M : Nat → Prop} {w : World} {b i : Nat} {v : Value} (hb : M b) : Kx M w (w.setCell ⟨b, i, none⟩ v) :=
  ⟨rfl, rfl, rfl, by simp [World.setCell], fun k _ hm => Below.heap_setCell _ _ _ _ (fun e => hm (by rw [e]; exact hb))⟩
theorem Kx.kn {w w' : World} {b : Nat} (h : Fi.Kn w b w.heap.size w') : Kx (· = b) w w' := ⟨h.b.os, h.b.tape, h.b.output, h.z, fun k hk hm => h.k k hk hm⟩
theorem Kx.vn {w w' : World} {b : Nat} (h : Vo.Kn w b w.heap.size w') : Kx (· = b) w w' := ⟨h.b.os, h.b.tape, h.b.output, h.z, fun k hk hm => h.k k hk hm⟩
theorem Kx.cell {M : Nat → Prop} {w w' : World} {b o : Nat} {v : Value} (h : Kx M w w') (hl : b < w.heap.size) (hm : ¬ M b) (hc : w.cell? ⟨b, o, none⟩ = some v) : w'.cell? ⟨b, o, none⟩ = some v :=
  (World.cell?_of_block (w := w) (w' := w') (a := ⟨b, o, none⟩) (h.block b hl hm)).trans hc
theorem Kx.froz {M : Nat → Prop} {w w' : World} {b o : Nat} {v : Bool} (h : Kx M w w') (hl : b < w.heap.size) (hm : ¬ M b) (hc : w.frozen? ⟨b, o, none⟩ = v) : w'.frozen? ⟨b, o, none⟩ = v :=
  (World.frozen?_of_block (w := w) (w' := w') (a := ⟨b, o, none⟩) (h.block b hl hm)).trans hc
theorem lt_cell {w : World} {b o : Nat} {v : Value} (h : w.cell? ⟨b, o, none⟩ = some v) : b < w.heap.size := block_lt_of_cell h
/-- Words laid over others from a place on. -/
def lay (f : Nat → Nat) (off : Nat) (cs : List Nat) : Nat → Nat := fun i => if off ≤ i ∧ i < off + cs.length then cs.getD (i - off) 0 else f i
theorem lay_in (f : Nat → Nat) (off : Nat) (cs : List Nat) (j : Nat) (h : j < cs.length) : lay f off cs (off + j) = cs.getD j 0 := by
  unfold lay; rw [if_pos (by omega)]; congr 1; omega
theorem lay_out (f : Nat → Nat) (off : Nat) (cs : List Nat) (i : Nat) (h : i < off ∨ off + cs.length ≤ i) : lay f off cs i = f i := by
  unfold lay; rw [if_neg (by omega)]
theorem lay_nil (f : Nat → Nat) (off : Nat) (i : Nat) : lay f off [] i = f i := lay_out f off [] i (by simp; omega)
theorem infoF1 : (Try.prog.info? 46).map (·.size) = some 1 := by kernel_rfl
theorem wpList_copy_fr {w : World} {ops : Array Oper} {rest : List Oper} {o : Oper} {a : Act} {Q : Exit → Act → World → Prop} (hgd : o.guard = none) (d s : Operand)
    (ho : o.op = .call { callee := .builtin .copy, args := #[d, s], argTypes := #[38, 38] })
    (dp sp : Option Addr) (dLen dCap sLen sCap : Nat) (hd : a.eval d = .slice dp dLen dCap) (hs : a.eval s = .slice sp sLen sCap)
    (g off M : Nat) (f : Nat → Nat) (hF : Fi.FR w g M f) (cs : List Nat) (hn : cs.length = Nat.min sLen dLen)
    (hpos : 0 < cs.length → dp = some ⟨g, off, none⟩ ∧ ∃ b o2, sp = some ⟨b, o2, none⟩ ∧ ∀ (j : Nat) x, cs[j]? = some x → w.cell? ⟨b, o2 + j, none⟩ = some (.float .f64 x)) (hfit : off + cs.length ≤ M)
    (h : ∀ w', Hid (Fi.FR w' g M (lay f off cs)) → Kx (· = g) w w' → w'.heap.size = w.heap.size → wpList Try.prog ops Q rest (a.put o.dst (goInt cs.length)) w') : wpList Try.prog ops Q (o :: rest) a w := by
  by_cases h0 : cs.length = 0
  · obtain rfl : cs = [] := List.eq_nil_of_length_eq_zero h0
    refine wpList_copy_nothing hgd d s 38 38 ho 46 Try.underlying38 infoF1 dp sp dLen dCap sLen sCap hd hs (by simpa using hn.symm) ?_
    exact h w (World.rowIs.congr hF (fun i _ => by rw [lay_nil])) (Kx.refl _ _) rfl
  · obtain ⟨rfl, b, o2, rfl, hsrc⟩ := hpos (by omega)
    obtain ⟨cur, hg, hcs, hcv⟩ := hF
    have hl : (cs.map (fun x => Value.float .f64 x)).length = cs.length := List.length_map _
    refine wpList_copy_own hgd d s 38 38 ho 46 Try.underlying38 infoF1 g off dLen dCap ⟨b, o2, none⟩ sLen sCap hd hs cur 46 hg (cs.map (fun x => Value.float .f64 x)) (by rw [hl, hn]) ?_ (by rw [hl]; omega) ?_ ?_
    · intro j v hj
      rw [List.getElem?_map] at hj
      cases hx : cs[j]? with
      | none => rw [hx] at hj; cases hj
      | some x =>
        rw [hx] at hj; cases hj
        have e6 : (⟨b, o2, none⟩ : Addr).add j = ⟨b, o2 + j, none⟩ := by unfold Addr.add; by_cases h : j = 0 <;> simp [h]
        rw [e6]; exact hsrc j x hx
    · intro v hv
      obtain ⟨x, _, rfl⟩ := List.mem_map.1 hv
      rfl
    · rw [hl]
      refine h _ ?_ ?_ ?_
      · refine ⟨(cur.toList.take off ++ (cs.map (fun x => Value.float .f64 x) ++ cur.toList.drop (off + cs.length))).toArray, ?_, ?_, ?_⟩
        · exact setRow_heap w g cur _ 46 _ hg
        · simp; omega
        · intro i hi
          have hcv' := hcv i hi
          simp only [List.getElem?_toArray]
          have hlt : (cur.toList.take off).length = off := by simp; omega
          by_cases c1 : i < off
          · rw [List.getElem?_append_left (by omega), List.getElem?_take_of_lt c1, lay_out _ _ _ _ (.inl c1)]
            simpa using hcv'
          · rw [List.getElem?_append_right (by omega), hlt]
            by_cases c2 : i < off + cs.length
            · rw [List.getElem?_append_left (by rw [hl]; omega), List.getElem?_map]
              have hj : i - off < cs.length := by omega
              rw [List.getElem?_eq_getElem hj]
              show some (Value.float .f64 cs[i - off]) = some (Value.float .f64 (lay f off cs i))
              have := lay_in f off cs (i - off) hj
              rw [show off + (i - off) = i by omega] at this
              rw [this, List.getD_eq_getElem?_getD, List.getElem?_eq_getElem hj]; rfl
            · rw [List.getElem?_append_right (by rw [hl]; omega), hl, List.getElem?_drop, lay_out _ _ _ _ (.inr (by omega))]
              rw [show off + cs.length + (i - off - cs.length) = i by omega]
              simpa using hcv'
      · exact ⟨rfl, rfl, rfl, by simp [World.setRow], fun k hk hm => setRow_other w g k _ (fun e => hm e)⟩
      · simp [World.setRow]
end Go.Proofs.Ytjpcebnbkdekkaa.Gh

/- What nodes that do not remember make. -/
namespace Go.Proofs.Ytjpcebnbkdekkaa.Gh
open Go.RowKit Go.Maps Go.Sort Fl
set_option linter.unusedVariables false
set_option linter.unusedSimpArgs false

theorem wid {x : Int} (h1 : -9223372036854775808 ≤ x) (h2 : x ≤ 9223372036854775807) : IntKind.i64.wrap x = x := by
  rw [IntKind.wrap_i64]; omega
/-- A stretch: where its words lie, where the lists of its nodes, how many nodes, how long; what comes in; where it begins. -/
structure Sx where
  A : Nat
  mb : Nat
  N : Nat
  L : Nat
  io : Option Addr
  il : Nat
  ic : Nat
  t : Nat
@[reducible] def sv (s : Sx) : Value := .agg #[.slice s.io s.il s.ic, .int .i64 s.t, .slice (some ⟨s.mb, 0, none⟩) s.N s.N]
/-- While a list of n words from place o on of block A is made: of its words this can be told; all else is as it was. -/
structure Wt (w : World) (A M o n : Nat) (f : Nat → Nat) (U : Nat → Option Nat) (ww : World) : Prop where
  ex : ∃ g, Fi.FR ww A M g ∧ (∀ j, g j < 18446744073709551616) ∧ (∀ j, j < o ∨ o + n ≤ j → g j = f j) ∧ ∀ j, j < n → ab (g (o + j)) = U j
  k : Kx (· = A) w ww
  fit : o + n ≤ M
  z : w.heap.size ≤ ww.heap.size
def upd (U : Nat → Option Nat) (k : Nat) (u : Option Nat) : Nat → Option Nat := fun j => if j = k then u else U j
theorem Wt.new {w : World} {A M o n : Nat} {f : Nat → Nat} (hF : Fi.FR w A M f) (hf : ∀ j, f j < 18446744073709551616) (hfit : o + n ≤ M) : Wt w A M o n f (fun j => ab (f (o + j))) w :=
  ⟨⟨f, hF, hf, fun _ _ => rfl, fun _ _ => rfl⟩, Kx.refl _ _, hfit, Nat.le_refl _⟩
theorem Wt.congr {w ww : World} {A M o n : Nat} {f : Nat → Nat} {U U' : Nat → Option Nat} (h : Wt w A M o n f U ww) (e : ∀ j, j < n → U j = U' j) : Wt w A M o n f U' ww := by
  obtain ⟨g, g1, g2, g3, g4⟩ := h.ex
  exact ⟨⟨g, g1, g2, g3, fun j hj => (g4 j hj).trans (e j hj)⟩, h.k, h.fit, h.z⟩
theorem Wt.step {w ww : World} {A M o n : Nat} {f : Nat → Nat} {U : Nat → Option Nat} (h : Wt w A M o n f U ww) {k r : Nat} (hk : k < n) (hr : r < 18446744073709551616) {u : Option Nat} (hu : ab r = u) : Wt w A M o n f (upd U k u) (ww.setCell ⟨A, o + k, none⟩ (.float .f64 r)) := by
  obtain ⟨g, g1, g2, g3, g4⟩ := h.ex
  refine ⟨⟨fun j => if j = o + k then r else g j, ?_, fun j => ?_, fun j hj => ?_, fun j hj => ?_⟩, h.k.trans (Kx.put rfl), h.fit, by simpa [World.setCell] using h.z⟩
  · refine World.rowIs.congr (World.rowIs.set g1 (o + k) (.float .f64 r)) (fun i _ => ?_)
    show (if i = o + k then Value.float .f64 r else Value.float .f64 (g i)) = Value.float .f64 (if i = o + k then r else g i)
    by_cases e : i = o + k
    · rw [if_pos e, if_pos e]
    · rw [if_neg e, if_neg e]
  · show (if j = o + k then r else g j) < _
    split
    · exact hr
    · exact g2 j
  · show (if j = o + k then r else g j) = _
    rw [if_neg (by omega)]; exact g3 j hj
  · show ab (if o + j = o + k then r else g (o + j)) = upd U k u j
    unfold upd
    by_cases e : j = k
    · rw [if_pos (by omega), if_pos e]; exact hu
    · rw [if_neg (by omega), if_neg e]; exact g4 j hj
/-- A word of the list. -/
theorem Wt.cell {w ww : World} {A M o n : Nat} {f : Nat → Nat} {U : Nat → Option Nat} (h : Wt w A M o n f U ww) {k : Nat} (hk : k < n) : ∃ x, ww.cell? ⟨A, o + k, none⟩ = some (.float .f64 x) ∧ x < 18446744073709551616 ∧ ab x = U k ∧ ww.frozen? ⟨A, o + k, none⟩ = false := by
  obtain ⟨g, g1, g2, g3, g4⟩ := h.ex
  have := h.fit
  exact ⟨g (o + k), World.rowIs.cell g1 (by omega), g2 _, g4 k hk, World.rowIs.frozen g1 _⟩
/-- A word beside it. -/
theorem Wt.other {w ww : World} {A M o n : Nat} {f : Nat → Nat} {U : Nat → Option Nat} (h : Wt w A M o n f U ww) {i : Nat} (hi : i < M) (ho : i < o ∨ o + n ≤ i) : ww.cell? ⟨A, i, none⟩ = some (.float .f64 (f i)) := by
  obtain ⟨g, g1, g2, g3, g4⟩ := h.ex
  rw [World.rowIs.cell g1 hi]
  show some (Value.float .f64 (g i)) = _
  rw [g3 i ho]
theorem Wt.lt {w ww : World} {A M o n : Nat} {f : Nat → Nat} {U : Nat → Option Nat} (h : Wt w A M o n f U ww) : A < ww.heap.size := by
  obtain ⟨g, g1, _⟩ := h.ex
  exact World.rowIs.lt g1
/-- All blocks but A are kept behind an alloc. -/
theorem Wt.pre {w w0 ww : World} {A M o n : Nat} {f : Nat → Nat} {U : Nat → Option Nat} (h : Wt w0 A M o n f U ww) (hb : Below w.heap.size w w0) : Wt w A M o n f U ww :=
  ⟨h.ex, (Kx.bel (M := (· = A)) hb).trans h.k, h.fit, Nat.le_trans hb.size h.z⟩
/-- The first k are made, the others are as they were. -/
def mid (k : Nat) (U U0 : Nat → Option Nat) : Nat → Option Nat := fun j => if j < k then U j else U0 j
theorem mid_step (k : Nat) (U U0 : Nat → Option Nat) : upd (mid k U U0) k (U k) = mid (k + 1) U U0 := by
  funext j
  show (if j = k then U k else if j < k then U j else U0 j) = if j < k + 1 then U j else U0 j
  by_cases e : j = k
  · rw [if_pos e, if_pos (by omega), e]
  · rw [if_neg e]
    by_cases e2 : j < k
    · rw [if_pos e2, if_pos (by omega)]
    · rw [if_neg e2, if_neg (by omega)]
theorem mid_zero (U U0 : Nat → Option Nat) : mid 0 U U0 = U0 := funext fun j => if_neg (by omega)
theorem Wt.full {w ww : World} {A M o n : Nat} {f : Nat → Nat} {U U0 : Nat → Option Nat} (h : Wt w A M o n f (mid n U U0) ww) : Wt w A M o n f U ww := h.congr (fun j hj => if_pos hj)
theorem Wt.at {w ww : World} {A M o n : Nat} {f : Nat → Nat} {U U0 : Nat → Option Nat} {k r : Nat} (h : Wt w A M o n f (mid k U U0) ww) (hk : k < n) (hr : r < 18446744073709551616) (hu : ab r = U k) : Wt w A M o n f (mid (k + 1) U U0) (ww.setCell ⟨A, o + k, none⟩ (.float .f64 r)) := by
  have := h.step hk hr hu
  rwa [mid_step] at this
theorem Wt.drewN {w ww : World} {A M o n : Nat} {f : Nat → Nat} {U : Nat → Option Nat} (h : Wt w A M o n f U ww) (d : Nat) : Wt w A M o n f U (ww.drewN d) :=
  ⟨h.ex, ⟨h.k.os, h.k.tape, h.k.output, h.k.size, h.k.block⟩, h.fit, h.z⟩
/-- The block of a stretch that is handed on. -/
theorem sbox (s : Sx) (w : World) : Below w.heap.size w (w.alloc (Obj.cells #[.slice s.io s.il s.ic, .int .i64 s.t, .slice (some ⟨s.mb, 0, none⟩) s.N s.N] 82)) ∧ (w.alloc (Obj.cells #[.slice s.io s.il s.ic, .int .i64 s.t, .slice (some ⟨s.mb, 0, none⟩) s.N s.N] 82)).heap.size = w.heap.size + 1 := ⟨(Below.refl _ _).alloc (Nat.le_refl _) _, by simp⟩
set_option maxHeartbeats 2000000 in
theorem steady_any (s : Sx) (x cb o n c M : Nat) (f : Nat → Nat) (w : World) (hc : w.cell? ⟨cb, 0, none⟩ = some (.float .f64 x)) (hx : x < 18446744073709551616) (hne : cb ≠ s.A) (hF : Fi.FR w s.A M f) (hf : ∀ j, f j < 18446744073709551616) (hfit : o + n ≤ M) (hn : n ≤ c) (hM : n ≤ 65536) :
    Calls Try.prog 61 #[sv s, .slice (some ⟨s.A, o, none⟩) n c, .pointer (some ⟨cb, 0, none⟩)] w fun e w' => e = .returned (.tuple #[]) ∧ Wt w s.A M o n f (fun _ => ab x) w' := by
  have HB : Hid (Below w.heap.size w (w.alloc (Obj.cells #[.slice s.io s.il s.ic, .int .i64 s.t, .slice (some ⟨s.mb, 0, none⟩) s.N s.N] 82))) := (sbox s w).1
  have HW : Hid (Wt (w.alloc (Obj.cells #[.slice s.io s.il s.ic, .int .i64 s.t, .slice (some ⟨s.mb, 0, none⟩) s.N s.N] 82)) s.A M o n f (mid 0 (fun _ => ab x) (fun j => ab (f (o + j)))) (w.alloc (Obj.cells #[.slice s.io s.il s.ic, .int .i64 s.t, .slice (some ⟨s.mb, 0, none⟩) s.N s.N] 82))) := by unfold Hid; rw [mid_zero]; exact Wt.new (World.rowIs.alloc hF _) hf hfit
  have hc1 := Fi.keepC HB.out (lt_cell hc) hc
  clear hF hf hc
  go_enter Try.func61, Try.ntmps61
  go_wp2_with fail
  generalize (w.alloc (Obj.cells #[.slice s.io s.il s.ic, .int .i64 s.t, .slice (some ⟨s.mb, 0, none⟩) s.N s.N] 82)) = W1 at *
  go_loopw [8] (fun i ww => ∃ k : Nat, k ≤ n ∧ i = .int .i64 k ∧ Hid (Wt W1 s.A M o n f (mid k (fun _ => ab x) (fun j => ab (f (o + j)))) ww)) (fun i _ => n - (intOf i).toNat)
  case atStart => exact ⟨0, by omega, rfl, HW⟩
  case round =>
    obtain ⟨k, hk, rfl, hW⟩ := hrel
    by_cases hlt : k < n
    · obtain ⟨y, y1, y2, y3, y4⟩ := hW.out.cell hlt
      have hlt' : (k : Int) < (n : Int) := by omega
      have w3 : IntKind.i64.wrap ((k : Int) + 1) = (k : Int) + 1 := wid (by omega) (by omega)
      have c1 := hW.out.k.cell (lt_cell hc1) hne hc1
      have lA := hW.out.lt
      have HW3 : Hid (Wt W1 s.A M o n f (mid (k + 1) (fun _ => ab x) (fun j => ab (f (o + j)))) (wr.setCell ⟨s.A, o + k, none⟩ (.float .f64 x))) := hW.out.at hlt hx rfl
      clear hW y2 y3
      go_wp2_with fail
      go_roundw
      case rel => exact ⟨k + 1, by omega, by go_num, HW3⟩
      case measure => simp [intOf]; omega
    · obtain rfl : k = n := by omega
      go_wp2_with fail
      go_end0
      exact ⟨rfl, hW.out.full.pre HB.out⟩
set_option maxHeartbeats 2000000 in
theorem gain_any (s : Sx) (x cb cx of o n c q qc M : Nat) (f : Nat → Nat) (w : World) (hc : w.cell? ⟨cb, 0, none⟩ = some (.int .i64 of)) (hcx : w.cell? ⟨cx, 0, none⟩ = some (.float .f64 x)) (hne : cx ≠ s.A)
    (hof : of < s.N) (hm : w.cell? ⟨s.mb, of, none⟩ = some (.slice (some ⟨s.A, q, none⟩) n qc)) (hqc : n ≤ qc) (hq : q + n ≤ M) (hqo : q + n ≤ o ∨ o + n ≤ q)
    (hF : Fi.FR w s.A M f) (hf : ∀ j, f j < 18446744073709551616) (hfit : o + n ≤ M) (hn : n ≤ c) (hM : n ≤ 65536) :
    Calls Try.prog 62 #[sv s, .slice (some ⟨s.A, o, none⟩) n c, .pointer (some ⟨cb, 0, none⟩), .pointer (some ⟨cx, 0, none⟩)] w fun e w' => e = .returned (.tuple #[]) ∧ Wt w s.A M o n f (fun j => om (ab x) (ab (f (q + j)))) w' := by
  have HB : Hid (Below w.heap.size w (w.alloc (Obj.cells #[.slice s.io s.il s.ic, .int .i64 s.t, .slice (some ⟨s.mb, 0, none⟩) s.N s.N] 82))) := (sbox s w).1
  have HW : Hid (Wt (w.alloc (Obj.cells #[.slice s.io s.il s.ic, .int .i64 s.t, .slice (some ⟨s.mb, 0, none⟩) s.N s.N] 82)) s.A M o n f (mid 0 (fun j => om (ab x) (ab (f (q + j)))) (fun j => ab (f (o + j)))) (w.alloc (Obj.cells #[.slice s.io s.il s.ic, .int .i64 s.t, .slice (some ⟨s.mb, 0, none⟩) s.N s.N] 82))) := by unfold Hid; rw [mid_zero]; exact Wt.new (World.rowIs.alloc hF _) hf hfit
  have hc1 := Fi.keepC HB.out (lt_cell hc) hc
  have hx1 := Fi.keepC HB.out (lt_cell hcx) hcx
  have hm1 := Fi.keepC HB.out (lt_cell hm) hm
  have ls : w.heap.size < (w.alloc (Obj.cells #[.slice s.io s.il s.ic, .int .i64 s.t, .slice (some ⟨s.mb, 0, none⟩) s.N s.N] 82)).heap.size := by simp
  have d2 : (w.alloc (Obj.cells #[.slice s.io s.il s.ic, .int .i64 s.t, .slice (some ⟨s.mb, 0, none⟩) s.N s.N] 82)).cell? ⟨w.heap.size, 2, none⟩ = some (.slice (some ⟨s.mb, 0, none⟩) s.N s.N) := by simp [go_sem]
  have hof' : (of : Int) < (s.N : Int) := by omega
  have Hf : Hid (∀ j, f j < 18446744073709551616) := hf
  clear hF hf hc hcx hm
  go_enter Try.func62, Try.ntmps62
  go_wp2_with fail
  generalize (w.alloc (Obj.cells #[.slice s.io s.il s.ic, .int .i64 s.t, .slice (some ⟨s.mb, 0, none⟩) s.N s.N] 82)) = W1 at *
  go_loopw [14] (fun i ww => ∃ k : Nat, k ≤ n ∧ i = .int .i64 k ∧ Hid (Wt W1 s.A M o n f (mid k (fun j => om (ab x) (ab (f (q + j)))) (fun j => ab (f (o + j)))) ww)) (fun i _ => n - (intOf i).toNat)
  case atStart => exact ⟨0, by omega, rfl, HW⟩
  case round =>
    obtain ⟨k, hk, rfl, hW⟩ := hrel
    by_cases hlt : k < n
    · obtain ⟨y, y1, y2, y3, y4⟩ := hW.out.cell hlt
      have hlt' : (k : Int) < (n : Int) := by omega
      have w3 : IntKind.i64.wrap ((k : Int) + 1) = (k : Int) + 1 := wid (by omega) (by omega)
      have c1 := hW.out.k.cell (lt_cell hx1) hne hx1
      have c2 := hW.out.other (i := q + k) (by omega) (by omega)
      have lA := hW.out.lt
      have HS : Hid (∀ d r, r < 18446744073709551616 → ab r = Fi.fo .mul (ab x) (ab (f (q + k))) → Wt W1 s.A M o n f (mid (k + 1) (fun j => om (ab x) (ab (f (q + j)))) (fun j => ab (f (o + j)))) ((wr.drewN d).setCell ⟨s.A, o + k, none⟩ (.float .f64 r))) := fun d r hr he => (hW.out.drewN d).at hlt hr he
      clear hW y2 y3
      generalize f (q + k) = Y at *
      go_wp2_with (refine Fi.wpList_f rfl .mul (.inr (.inr rfl)) _ _ _ _ rfl x Y rfl rfl ?f1)
      case f1 =>
        intro r d hr he
        have HW3 : Hid (Wt W1 s.A M o n f (mid (k + 1) (fun j => om (ab x) (ab (f (q + j)))) (fun j => ab (f (o + j)))) ((wr.drewN d).setCell ⟨s.A, o + k, none⟩ (.float .f64 r))) := HS.out d r hr he
        clear HS he
        go_wp2_with fail
        exact ⟨⟨k + 1, by omega, by go_num, HW3⟩, by simp [intOf]; omega⟩
    · obtain rfl : k = n := by omega
      go_wp2_with fail
      go_end0
      exact ⟨rfl, hW.out.full.pre HB.out⟩
end Go.Proofs.Ytjpcebnbkdekkaa.Gh

/- What an input, a product and a sum make. -/
namespace Go.Proofs.Ytjpcebnbkdekkaa.Gh
open Go.RowKit Go.Maps Go.Sort Fl
set_option linter.unusedVariables false
set_option linter.unusedSimpArgs false

set_option maxHeartbeats 2000000 in
theorem times_any (s : Sx) (c1 c2 k1 k2 o n c q1 qc1 q2 qc2 M : Nat) (f : Nat → Nat) (w : World) (hc : w.cell? ⟨c1, 0, none⟩ = some (.int .i64 k1)) (hc2 : w.cell? ⟨c2, 0, none⟩ = some (.int .i64 k2)) (hne : c2 ≠ s.A) (hmA : s.mb ≠ s.A)
    (h1 : k1 < s.N) (h2 : k2 < s.N) (hm1 : w.cell? ⟨s.mb, k1, none⟩ = some (.slice (some ⟨s.A, q1, none⟩) n qc1)) (hm2 : w.cell? ⟨s.mb, k2, none⟩ = some (.slice (some ⟨s.A, q2, none⟩) n qc2)) (hqc1 : n ≤ qc1) (hqc2 : n ≤ qc2) (hq1 : q1 + n ≤ M) (hq2 : q2 + n ≤ M) (ho1 : q1 + n ≤ o ∨ o + n ≤ q1) (ho2 : q2 + n ≤ o ∨ o + n ≤ q2)
    (hF : Fi.FR w s.A M f) (hf : ∀ j, f j < 18446744073709551616) (hfit : o + n ≤ M) (hn : n ≤ c) (hM : n ≤ 65536) :
    Calls Try.prog 63 #[sv s, .slice (some ⟨s.A, o, none⟩) n c, .pointer (some ⟨c1, 0, none⟩), .pointer (some ⟨c2, 0, none⟩)] w fun e w' => e = .returned (.tuple #[]) ∧ Wt w s.A M o n f (fun j => om (ab (f (q1 + j))) (ab (f (q2 + j)))) w' := by
  have HB : Hid (Below w.heap.size w (w.alloc (Obj.cells #[.slice s.io s.il s.ic, .int .i64 s.t, .slice (some ⟨s.mb, 0, none⟩) s.N s.N] 82))) := (sbox s w).1
  have HW : Hid (Wt (w.alloc (Obj.cells #[.slice s.io s.il s.ic, .int .i64 s.t, .slice (some ⟨s.mb, 0, none⟩) s.N s.N] 82)) s.A M o n f (mid 0 (fun j => om (ab (f (q1 + j))) (ab (f (q2 + j)))) (fun j => ab (f (o + j)))) (w.alloc (Obj.cells #[.slice s.io s.il s.ic, .int .i64 s.t, .slice (some ⟨s.mb, 0, none⟩) s.N s.N] 82))) := by unfold Hid; rw [mid_zero]; exact Wt.new (World.rowIs.alloc hF _) hf hfit
  have hc1 := Fi.keepC HB.out (lt_cell hc) hc
  have hc21 := Fi.keepC HB.out (lt_cell hc2) hc2
  have hm11 := Fi.keepC HB.out (lt_cell hm1) hm1
  have hm21 := Fi.keepC HB.out (lt_cell hm2) hm2
  have ls : w.heap.size < (w.alloc (Obj.cells #[.slice s.io s.il s.ic, .int .i64 s.t, .slice (some ⟨s.mb, 0, none⟩) s.N s.N] 82)).heap.size := by simp
  have hbA : w.heap.size ≠ s.A := by have := World.rowIs.lt hF; omega
  have d2 : (w.alloc (Obj.cells #[.slice s.io s.il s.ic, .int .i64 s.t, .slice (some ⟨s.mb, 0, none⟩) s.N s.N] 82)).cell? ⟨w.heap.size, 2, none⟩ = some (.slice (some ⟨s.mb, 0, none⟩) s.N s.N) := by simp [go_sem]
  have h1' : (k1 : Int) < (s.N : Int) := by omega
  have h2' : (k2 : Int) < (s.N : Int) := by omega
  clear hF hf hc hc2 hm1 hm2
  go_enter Try.func63, Try.ntmps63
  go_wp2_with fail
  generalize (w.alloc (Obj.cells #[.slice s.io s.il s.ic, .int .i64 s.t, .slice (some ⟨s.mb, 0, none⟩) s.N s.N] 82)) = W1 at *
  go_loopw [14] (fun i ww => ∃ k : Nat, k ≤ n ∧ i = .int .i64 k ∧ Hid (Wt W1 s.A M o n f (mid k (fun j => om (ab (f (q1 + j))) (ab (f (q2 + j)))) (fun j => ab (f (o + j)))) ww)) (fun i _ => n - (intOf i).toNat)
  case atStart => exact ⟨0, by omega, rfl, HW⟩
  case round =>
    obtain ⟨k, hk, rfl, hW⟩ := hrel
    by_cases hlt : k < n
    · obtain ⟨y, y1, y2, y3, y4⟩ := hW.out.cell hlt
      have hlt' : (k : Int) < (n : Int) := by omega
      have w3 : IntKind.i64.wrap ((k : Int) + 1) = (k : Int) + 1 := wid (by omega) (by omega)
      have e1 := hW.out.other (i := q1 + k) (by omega) (by omega)
      have e2 := hW.out.other (i := q2 + k) (by omega) (by omega)
      have e3 := hW.out.k.cell (lt_cell hc21) hne hc21
      have e4 := hW.out.k.cell (lt_cell hm21) hmA hm21
      have e5 := hW.out.k.cell ls hbA d2
      have lA := hW.out.lt
      have HS : Hid (∀ d r, r < 18446744073709551616 → ab r = Fi.fo .mul (ab (f (q1 + k))) (ab (f (q2 + k))) → Wt W1 s.A M o n f (mid (k + 1) (fun j => om (ab (f (q1 + j))) (ab (f (q2 + j)))) (fun j => ab (f (o + j)))) ((wr.drewN d).setCell ⟨s.A, o + k, none⟩ (.float .f64 r))) := fun d r hr he => (hW.out.drewN d).at hlt hr he
      clear hW y2 y3
      generalize f (q1 + k) = X at *
      generalize f (q2 + k) = Y at *
      go_wp2_with (refine Fi.wpList_f rfl .mul (.inr (.inr rfl)) _ _ _ _ rfl X Y rfl rfl ?f1)
      case f1 =>
        intro r d hr he
        have HW3 : Hid (Wt W1 s.A M o n f (mid (k + 1) (fun j => om (ab (f (q1 + j))) (ab (f (q2 + j)))) (fun j => ab (f (o + j)))) ((wr.drewN d).setCell ⟨s.A, o + k, none⟩ (.float .f64 r))) := HS.out d r hr he
        clear HS he
        go_wp2_with fail
        exact ⟨⟨k + 1, by omega, by go_num, HW3⟩, by simp [intOf]; omega⟩
    · obtain rfl : k = n := by omega
      go_wp2_with fail
      go_end0
      exact ⟨rfl, hW.out.full.pre HB.out⟩
/-- A whole list is copied into place. -/
theorem Wt.lay {w ww w' : World} {A M o n : Nat} {f : Nat → Nat} {U : Nat → Option Nat} (h : Wt w A M o n f U ww) {g : Nat → Nat} {cs : List Nat} (hF : Fi.FR w' A M (lay g o cs)) (hg : Fi.FR ww A M g) (hk : Kx (· = A) ww w') (hg1 : ∀ j, g j < 18446744073709551616) (hg2 : ∀ j, j < o ∨ o + n ≤ j → g j = f j) (hl : cs.length = n) (hc : ∀ x ∈ cs, x < 18446744073709551616) : Wt w A M o n f (fun j => ab (cs.getD j 0)) w' := by
  refine ⟨⟨Gh.lay g o cs, hF, fun j => ?_, fun j hj => ?_, fun j hj => ?_⟩, h.k.trans hk, h.fit, Nat.le_trans h.z hk.size⟩
  · by_cases c : o ≤ j ∧ j < o + cs.length
    · obtain ⟨i, rfl⟩ : ∃ i, j = o + i := ⟨j - o, by omega⟩
      rw [lay_in _ _ _ _ (by omega), List.getD_eq_getElem?_getD, List.getElem?_eq_getElem (by omega)]
      exact hc _ (List.getElem_mem _)
    · rw [lay_out _ _ _ _ (by omega)]; exact hg1 j
  · rw [lay_out _ _ _ _ (by omega)]; exact hg2 j hj
  · rw [lay_in _ _ _ _ (by omega)]
set_option maxHeartbeats 2000000 in
theorem input_any (s : Sx) (cb p o n c M : Nat) (l : List Nat) (la : Option Addr) (lc ib io : Nat) (f : Nat → Nat) (w : World) (hc : w.cell? ⟨cb, 0, none⟩ = some (.int .i64 p)) (hio : s.io = some ⟨ib, io, none⟩) (hp : p < s.il) (hic : s.il ≤ s.ic)
    (hi : w.cell? ⟨ib, io + p, none⟩ = some (.slice la l.length lc)) (hlc : l.length ≤ lc) (hlm : lc ≤ 9223372036854775807) (S : Nat → Prop) (hL : Fi.IL w S la l) (hat : s.t + n ≤ l.length)
    (hF : Fi.FR w s.A M f) (hf : ∀ j, f j < 18446744073709551616) (hfit : o + n ≤ M) (hn : n ≤ c) (hM : n ≤ 65536) :
    Calls Try.prog 60 #[sv s, .slice (some ⟨s.A, o, none⟩) n c, .pointer (some ⟨cb, 0, none⟩)] w fun e w' => e = .returned (.tuple #[]) ∧ Wt w s.A M o n f (fun j => ab (l.getD (s.t + j) 0)) w' := by
  have HB : Hid (Below w.heap.size w (w.alloc (Obj.cells #[.slice s.io s.il s.ic, .int .i64 s.t, .slice (some ⟨s.mb, 0, none⟩) s.N s.N] 82))) := (sbox s w).1
  have HW : Hid (Wt (w.alloc (Obj.cells #[.slice s.io s.il s.ic, .int .i64 s.t, .slice (some ⟨s.mb, 0, none⟩) s.N s.N] 82)) s.A M o n f (fun j => ab (f (o + j))) (w.alloc (Obj.cells #[.slice s.io s.il s.ic, .int .i64 s.t, .slice (some ⟨s.mb, 0, none⟩) s.N s.N] 82))) := Wt.new (World.rowIs.alloc hF _) hf hfit
  have HF1 : Hid (Fi.FR (w.alloc (Obj.cells #[.slice s.io s.il s.ic, .int .i64 s.t, .slice (some ⟨s.mb, 0, none⟩) s.N s.N] 82)) s.A M f) := World.rowIs.alloc hF _
  have hc1 := Fi.keepC HB.out (lt_cell hc) hc
  have hi1 := Fi.keepC HB.out (lt_cell hi) hi
  have HI : Hid (Fi.IL (w.alloc (Obj.cells #[.slice s.io s.il s.ic, .int .i64 s.t, .slice (some ⟨s.mb, 0, none⟩) s.N s.N] 82)) S (Fi.frm la s.t lc) (l.drop s.t)) := (hL.bel HB.out).drop s.t lc hlc
  have ls : w.heap.size < (w.alloc (Obj.cells #[.slice s.io s.il s.ic, .int .i64 s.t, .slice (some ⟨s.mb, 0, none⟩) s.N s.N] 82)).heap.size := by simp
  have d0 : (w.alloc (Obj.cells #[.slice s.io s.il s.ic, .int .i64 s.t, .slice (some ⟨s.mb, 0, none⟩) s.N s.N] 82)).cell? ⟨w.heap.size, 0, none⟩ = some (.slice (some ⟨ib, io, none⟩) s.il s.ic) := by rw [← hio]; simp [go_sem]
  have d1 : (w.alloc (Obj.cells #[.slice s.io s.il s.ic, .int .i64 s.t, .slice (some ⟨s.mb, 0, none⟩) s.N s.N] 82)).cell? ⟨w.heap.size, 1, none⟩ = some (.int .i64 s.t) := by simp [go_sem]
  have hp' : (p : Int) < (s.il : Int) := by omega
  have hsl := Fi.run_from la l.length lc s.t (by omega)
  obtain ⟨ln, hln⟩ : ∃ ln, ln = l.length := ⟨_, rfl⟩
  rw [← hln] at hi1 hsl hlc hat
  have Hln : Hid (ln = l.length) := hln
  have Hf : Hid (∀ j, f j < 18446744073709551616) := hf
  clear hF hf hc hi hL hio hln
  go_enter Try.func60, Try.ntmps60
  go_wp2_with fail
  generalize (w.alloc (Obj.cells #[.slice s.io s.il s.ic, .int .i64 s.t, .slice (some ⟨s.mb, 0, none⟩) s.N s.N] 82)) = W1 at *
  refine U2.wp_region_tail_read 9 (by decide) (by kernel_rfl) (by kernel_rfl) (by kernel_rfl) (by kernel_rfl) ?_
  dsimp only [List.take, List.drop]
  repeat (quiet_step (fail))
  refine wpQuiet_nil ?_
  rintro w2 ⟨nq, rfl⟩
  refine wpList_copy_fr rfl (.tmp 5) (.tmp 13) rfl _ _ _ _ _ _ rfl rfl s.A o M f HF1.out ((l.drop s.t).take n) ?_ ?_ ?_ ?_
  · have := Hln.out
    rw [List.length_take, List.length_drop, ← this, Nat.min_comm]
  · intro hpos
    have := Hln.out
    rw [List.length_take, List.length_drop] at hpos
    obtain ⟨b, off, e1, e2, e3, e4⟩ := HI.out.at' (by rw [List.length_drop]; omega)
    refine ⟨rfl, b, off, e1, fun j x hj => ?_⟩
    have hjn : j < n := by have := (List.getElem?_eq_some_iff.1 hj).1; rw [List.length_take] at this; omega
    rw [List.getElem?_take_of_lt hjn] at hj
    exact (e4 j x hj).1
  · rw [List.length_take]; omega
  · intro w' hF' hK hz
    have := Hln.out
    have hlen : ((l.drop s.t).take n).length = n := by rw [List.length_take, List.length_drop]; omega
    have HR : Hid (Wt w s.A M o n f (fun j => ab (l.getD (s.t + j) 0)) w') := by
      refine (((HW.out.drewN nq).lay hF'.out HF1.out hK Hf.out (fun _ _ => rfl) hlen (fun x hx => ?_)).congr (fun j hj => ?_)).pre HB.out
      · obtain ⟨b, off, e1, e2, e3, e4⟩ := HI.out.at' (by
          have : 0 < ((l.drop s.t).take n).length := List.length_pos_of_mem hx
          rw [List.length_take] at this; omega)
        have hx2 := List.mem_of_mem_take hx
        obtain ⟨i, hi, e⟩ := List.getElem_of_mem hx2
        exact (e4 i x (by rw [List.getElem?_eq_getElem hi, e])).2
      · rw [List.getD_eq_getElem?_getD, List.getElem?_take_of_lt hj, List.getElem?_drop, List.getD_eq_getElem?_getD]
    clear hF' hK
    go_wp2_with fail
    go_end0
    exact ⟨rfl, HR.out⟩
end Go.Proofs.Ytjpcebnbkdekkaa.Gh

/- What a sum makes. -/
namespace Go.Proofs.Ytjpcebnbkdekkaa.Gh
open Go.RowKit Go.Maps Go.Sort Fl
set_option linter.unusedVariables false
set_option linter.unusedSimpArgs false

theorem sizeI (w : World) : (Go.sizeOf 3).run Try.prog w = .ok 1 w := by
  simp [Go.sizeOf]
  kernel_rfl
theorem run_fromI (la : Option Addr) (m c n : Nat) (h1 : n ≤ m) (w : World) : (Instr.slice 23 (.slice la m c) (some (.int .i64 (n : Int))) none none).run Try.prog w = .ok (.slice (Fi.frm la n c) (m - n) (c - n)) w := by
  have hu : Try.prog.underlying 23 = some (.slice 3) := Try.underlying23
  unfold Instr.slice Fi.frm
  simp [run_underlying hu, Instr.sliceBounds, run_sliceBound, h1, sizeI]
/-- Whole numbers in memory. -/
structure ZL (w : World) (S : Nat → Prop) (ao : Option Addr) (l : List Int) : Prop where
  at' : 0 < l.length → ∃ b off, ao = some ⟨b, off, none⟩ ∧ b < w.heap.size ∧ S b ∧ ∀ (j : Nat) x, l[j]? = some x → w.cell? ⟨b, off + j, none⟩ = some (.int .i64 x)
theorem ZL.keep {w w' : World} {S S' : Nat → Prop} {ao : Option Addr} {l : List Int} (h : ZL w S ao l) (hk : ∀ b, S b → b < w.heap.size → w'.heap[b]? = w.heap[b]?) (hz : w.heap.size ≤ w'.heap.size) (hs : ∀ b, S b → b < w.heap.size → S' b) : ZL w' S' ao l := ⟨fun hn => by
  obtain ⟨b, off, h1, h2, h3, h4⟩ := h.at' hn
  exact ⟨b, off, h1, by omega, hs b h3 h2, fun j x hj => (World.cell?_of_block (w := w) (w' := w') (a := ⟨b, off + j, none⟩) (hk b h3 h2)).trans (h4 j x hj)⟩⟩
theorem ZL.bel {w w' : World} {S : Nat → Prop} {ao : Option Addr} {l : List Int} (h : ZL w S ao l) (hb : Below w.heap.size w w') : ZL w' S ao l := h.keep (fun b _ hl => hb.block b hl) hb.size (fun _ h _ => h)
theorem mixs_step (V : Hist) (t : Nat) {l : List Int} {m : Nat} {x : Int} (h : l[m + 1]? = some x) : mixs V t (l.take (m + 2)) = oa (mixs V t (l.take (m + 1))) (V x.toNat t) := by
  cases l with
  | nil => simp at h
  | cons a l =>
    simp at h
    show (l.take (m + 1)).foldl _ _ = oa ((l.take m).foldl _ _) _
    rw [List.take_add_one, h, List.foldl_append]; rfl
theorem mixs_one (V : Hist) (t : Nat) {l : List Int} {x : Int} (h : l[0]? = some x) : mixs V t (l.take 1) = V x.toNat t := by
  cases l with
  | nil => simp at h
  | cons a l => simp at h; subst h; rfl
/-- What is heard of others lies as it must. -/
structure Hd (w : World) (s : Sx) (M o n : Nat) (q qc : Nat → Nat) (k : Nat) : Prop where
  lt : k < s.N
  m : w.cell? ⟨s.mb, k, none⟩ = some (.slice (some ⟨s.A, q k, none⟩) n (qc k))
  c : n ≤ qc k
  f : q k + n ≤ M
  d : q k + n ≤ o ∨ o + n ≤ q k
set_option maxHeartbeats 4000000 in
theorem mix_any (s : Sx) (cb m ec o n c M : Nat) (eo : Option Addr) (l : List Int) (q qc : Nat → Nat) (f : Nat → Nat) (w : World) (hc : w.cell? ⟨cb, 0, none⟩ = some (.slice eo (m + 1) ec)) (hne : cb ≠ s.A) (hmA : s.mb ≠ s.A) (hm : l.length = m + 1) (hmc : m + 1 ≤ ec) (hem : ec ≤ 9223372036854775807)
    (S : Nat → Prop) (hS : ∀ b, S b → b ≠ s.A) (hL : ZL w S eo l) (hH : ∀ x ∈ l, 0 ≤ x ∧ Hd w s M o n q qc x.toNat) 
    (hF : Fi.FR w s.A M f) (hf : ∀ j, f j < 18446744073709551616) (hfit : o + n ≤ M) (hn : n ≤ c) (hM : n ≤ 65536) :
    Calls Try.prog 64 #[sv s, .slice (some ⟨s.A, o, none⟩) n c, .pointer (some ⟨cb, 0, none⟩)] w fun e w' => e = .returned (.tuple #[]) ∧ Wt w s.A M o n f (fun j => mixs (fun k j => ab (f (q k + j))) j l) w' := by
  have HB : Hid (Below w.heap.size w (w.alloc (Obj.cells #[.slice s.io s.il s.ic, .int .i64 s.t, .slice (some ⟨s.mb, 0, none⟩) s.N s.N] 82))) := (sbox s w).1
  have HW : Hid (Wt (w.alloc (Obj.cells #[.slice s.io s.il s.ic, .int .i64 s.t, .slice (some ⟨s.mb, 0, none⟩) s.N s.N] 82)) s.A M o n f (fun j => ab (f (o + j))) (w.alloc (Obj.cells #[.slice s.io s.il s.ic, .int .i64 s.t, .slice (some ⟨s.mb, 0, none⟩) s.N s.N] 82))) := Wt.new (World.rowIs.alloc hF _) hf hfit
  have HF1 : Hid (Fi.FR (w.alloc (Obj.cells #[.slice s.io s.il s.ic, .int .i64 s.t, .slice (some ⟨s.mb, 0, none⟩) s.N s.N] 82)) s.A M f) := World.rowIs.alloc hF _
  have hc1 := Fi.keepC HB.out (lt_cell hc) hc
  have HL : Hid (ZL (w.alloc (Obj.cells #[.slice s.io s.il s.ic, .int .i64 s.t, .slice (some ⟨s.mb, 0, none⟩) s.N s.N] 82)) S eo l) := hL.bel HB.out
  have HS : Hid (∀ b, S b → b ≠ s.A) := hS
  have HH : Hid (∀ x ∈ l, 0 ≤ x ∧ Hd (w.alloc (Obj.cells #[.slice s.io s.il s.ic, .int .i64 s.t, .slice (some ⟨s.mb, 0, none⟩) s.N s.N] 82)) s M o n q qc x.toNat) := fun x hx => ⟨(hH x hx).1, (hH x hx).2.lt, Fi.keepC HB.out (lt_cell (hH x hx).2.m) (hH x hx).2.m, (hH x hx).2.c, (hH x hx).2.f, (hH x hx).2.d⟩
  have ls : w.heap.size < (w.alloc (Obj.cells #[.slice s.io s.il s.ic, .int .i64 s.t, .slice (some ⟨s.mb, 0, none⟩) s.N s.N] 82)).heap.size := by simp
  have hbA : w.heap.size ≠ s.A := by have := World.rowIs.lt hF; omega
  have d2 : (w.alloc (Obj.cells #[.slice s.io s.il s.ic, .int .i64 s.t, .slice (some ⟨s.mb, 0, none⟩) s.N s.N] 82)).cell? ⟨w.heap.size, 2, none⟩ = some (.slice (some ⟨s.mb, 0, none⟩) s.N s.N) := by simp [go_sem]
  have hsl := run_fromI eo (m + 1) ec 1 (by omega)
  rw [Nat.add_sub_cancel, show (((1 : Nat) : Int)) = 1 from rfl] at hsl
  have Hf : Hid (∀ j, f j < 18446744073709551616) := hf
  have Hm : Hid (l.length = m + 1) := hm
  clear hF hf hc hL hH hm hS
  go_enter Try.func64, Try.ntmps64
  go_wp2_with fail
  generalize (w.alloc (Obj.cells #[.slice s.io s.il s.ic, .int .i64 s.t, .slice (some ⟨s.mb, 0, none⟩) s.N s.N] 82)) = W1 at *
  obtain ⟨eb, eof, rfl, he1, he2, he3⟩ := HL.out.at' (by rw [Hm.out]; omega)
  obtain ⟨x0, hx0⟩ : ∃ x, l[0]? = some x := ⟨_, List.getElem?_eq_getElem (by rw [Hm.out]; omega)⟩
  have y0 : W1.cell? ⟨eb, eof, none⟩ = some (.int .i64 x0) := he3 0 x0 hx0
  obtain ⟨z0, hh0⟩ := HH.out x0 (List.mem_of_getElem? hx0)
  obtain ⟨k0, rfl⟩ : ∃ k : Nat, x0 = k := ⟨x0.toNat, by omega⟩
  rw [Int.toNat_natCast] at hh0
  have hk0 := hh0.lt
  have hk0' : (k0 : Int) < (s.N : Int) := by omega
  have hm00 := hh0.m
  have HE3 : Hid (∀ (j : Nat) x, l[j]? = some x → W1.cell? ⟨eb, eof + j, none⟩ = some (.int .i64 x)) := he3
  have HX0 : Hid (l[0]? = some (k0 : Int)) := hx0
  have HK0 : Hid (Hd W1 s M o n q qc k0) := hh0
  have hm0' : (0 : Int) < (m : Int) + 1 := by omega
  clear he3 hx0 hh0 z0
  refine U2.wp_region_tail_read 8 (by decide) (by kernel_rfl) (by kernel_rfl) (by kernel_rfl) (by kernel_rfl) ?_
  dsimp only [List.take, List.drop]
  repeat (quiet_step (fail))
  refine wpQuiet_nil ?_
  rintro w2 ⟨nq, rfl⟩
  refine wpList_copy_fr rfl (.tmp 9) (.tmp 16) rfl _ _ _ _ _ _ rfl rfl s.A o M f HF1.out ((List.range n).map (fun j => f (q k0 + j))) (by simp) (fun hpos => ?_) (by simp; exact hfit) ?_
  · refine ⟨rfl, s.A, q k0, rfl, fun j x hj => ?_⟩
    rw [List.getElem?_map] at hj
    have hjn : j < n := by
      have := (List.getElem?_eq_some_iff.1 (Option.map_eq_some_iff.1 hj).choose_spec.1).1
      simpa using this
    rw [List.getElem?_range hjn] at hj
    cases hj
    have := HK0.out.f
    exact World.rowIs.cell HF1.out (by omega)
  · intro w' hF' hK hz
    have hlen : ((List.range n).map (fun j => f (q k0 + j))).length = n := by simp
    have HR : Hid (Wt W1 s.A M o n f (fun j => mixs (fun k j => ab (f (q k + j))) j (l.take (0 + 1))) w') := by
      refine ((HW.out.drewN nq).lay hF'.out HF1.out hK Hf.out (fun _ _ => rfl) hlen (fun x hx => ?_)).congr (fun j hj => ?_)
      · obtain ⟨i, _, rfl⟩ := List.mem_map.1 hx
        exact Hf.out _
      · rw [mixs_one _ _ HX0.out, List.getD_eq_getElem?_getD, List.getElem?_map, List.getElem?_range hj]; rfl
    have hc2 := HR.out.k.cell (lt_cell hc1) hne hc1
    clear hF' hK hz
    go_wp2_with (simp only [hsl])
    go_loopw [21] (fun i ww => ∃ k : Nat, k ≤ m ∧ i = .int .i64 k ∧ Hid (Wt W1 s.A M o n f (fun j => mixs (fun k j => ab (f (q k + j))) j (l.take (k + 1))) ww)) (fun i _ => m - (intOf i).toNat)
    case atStart => exact ⟨0, by omega, rfl, HR⟩
    case round =>
      obtain ⟨k, hk, rfl, hW⟩ := hrel
      by_cases hlt : k < m
      · obtain ⟨x, hx⟩ : ∃ x, l[k + 1]? = some x := ⟨_, List.getElem?_eq_getElem (by rw [Hm.out]; omega)⟩
        obtain ⟨zx, hhx⟩ := HH.out x (List.mem_of_getElem? hx)
        obtain ⟨kx, rfl⟩ : ∃ k : Nat, x = k := ⟨x.toNat, by omega⟩
        rw [Int.toNat_natCast] at hhx
        have hfr : Fi.frm (some ⟨eb, eof, none⟩) 1 ec = some ⟨eb, eof + 1, none⟩ := by unfold Fi.frm; rw [if_neg (by omega)]; rfl
        rw [hfr]
        have yx := hW.out.k.cell he1 (HS.out eb he2) (HE3.out (k + 1) _ hx)
        rw [show eof + (k + 1) = eof + 1 + k by omega] at yx
        have hkx := hhx.lt
        have hkx' : (kx : Int) < (s.N : Int) := by omega
        have mx := hW.out.k.cell (lt_cell hhx.m) hmA hhx.m
        have e5 := hW.out.k.cell ls hbA d2
        have hlt' : (k : Int) < (m : Int) := by omega
        have w3 : IntKind.i64.wrap ((k : Int) + 1) = (k : Int) + 1 := wid (by omega) (by omega)
        have hec : eb < wr.heap.size := lt_cell yx
        have HHX : Hid (Hd W1 s M o n q qc kx) := hhx
        have qcx := hhx.c
        have HSt : Hid (∀ t, mixs (fun k j => ab (f (q k + j))) t (l.take (k + 2)) = oa (mixs (fun k j => ab (f (q k + j))) t (l.take (k + 1))) (ab (f (q kx + t)))) := fun t => mixs_step _ t hx
        have HW0 : Hid (Wt W1 s.A M o n f (mid 0 (fun j => mixs (fun k j => ab (f (q k + j))) j (l.take (k + 2))) (fun j => mixs (fun k j => ab (f (q k + j))) j (l.take (k + 1)))) wr) := by unfold Hid; rw [mid_zero]; exact hW.out
        obtain ⟨w1, hw1⟩ : ∃ x, x = wr := ⟨wr, rfl⟩
        subst hw1
        clear hW hx hhx zx hfr HR hc2
        go_wp2_with fail
        go_loopw [31] (fun i ww => ∃ j : Nat, j ≤ n ∧ i = .int .i64 j ∧ Hid (Wt W1 s.A M o n f (mid j (fun j => mixs (fun k j => ab (f (q k + j))) j (l.take (k + 2))) (fun j => mixs (fun k j => ab (f (q k + j))) j (l.take (k + 1)))) ww)) (fun i _ => n - (intOf i).toNat)
        case atStart => exact ⟨0, by omega, rfl, HW0⟩
        case round =>
          obtain ⟨j, hj, rfl, hW⟩ := hrel
          by_cases hjt : j < n
          · obtain ⟨y, y1, y2, y3, y4⟩ := hW.out.cell hjt
            rw [show mid j (fun j => mixs (fun k j => ab (f (q k + j))) j (l.take (k + 2))) (fun j => mixs (fun k j => ab (f (q k + j))) j (l.take (k + 1))) j = mixs (fun k j => ab (f (q k + j))) j (l.take (k + 1)) from if_neg (by omega)] at y3
            have hjt' : (j : Int) < (n : Int) := by omega
            have w4 : IntKind.i64.wrap ((j : Int) + 1) = (j : Int) + 1 := wid (by omega) (by omega)
            have := HHX.out.f
            have := HHX.out.d
            have c2 := hW.out.other (i := q kx + j) (by omega) (by omega)
            have lA := hW.out.lt
            have HSS : Hid (∀ d r, r < 18446744073709551616 → ab r = Fi.fo .add (ab y) (ab (f (q kx + j))) → Wt W1 s.A M o n f (mid (j + 1) (fun j => mixs (fun k j => ab (f (q k + j))) j (l.take (k + 2))) (fun j => mixs (fun k j => ab (f (q k + j))) j (l.take (k + 1)))) ((wr.drewN d).setCell ⟨s.A, o + j, none⟩ (.float .f64 r))) := fun d r hr he => (hW.out.drewN d).at hjt hr (by rw [he, HSt.out, ← y3]; rfl)
            clear hW y2 y3
            generalize f (q kx + j) = Y at *
            go_wp2_with (refine Fi.wpList_f rfl .add (.inl rfl) _ _ _ _ rfl y Y rfl rfl ?f1)
            case f1 =>
              intro r d hr he
              have HW3 : Hid (Wt W1 s.A M o n f (mid (j + 1) (fun j => mixs (fun k j => ab (f (q k + j))) j (l.take (k + 2))) (fun j => mixs (fun k j => ab (f (q k + j))) j (l.take (k + 1)))) ((wr.drewN d).setCell ⟨s.A, o + j, none⟩ (.float .f64 r))) := HSS.out d r hr he
              clear HSS he
              go_wp2_with fail
              exact ⟨⟨j + 1, by omega, by go_num, HW3⟩, by simp [intOf]; omega⟩
          · obtain rfl : j = n := by omega
            have HW3 : Hid (Wt W1 s.A M o j f (fun i => mixs (fun k j => ab (f (q k + j))) i (l.take (k + 1 + 1))) wr) := hW.out.full
            clear hW HW0
            go_wp2_with fail
            exact ⟨⟨k + 1, by omega, by go_num, HW3⟩, by simp [intOf]; omega⟩
      · obtain rfl : k = m := by omega
        go_wp2_with fail
        go_end0
        refine ⟨rfl, (hW.out.congr (fun j _ => ?_)).pre HB.out⟩
        rw [List.take_of_length_le (by rw [Hm.out]; exact Nat.le_refl _)]
end Go.Proofs.Ytjpcebnbkdekkaa.Gh

/- What a delay makes, and how it hears. -/
namespace Go.Proofs.Ytjpcebnbkdekkaa.Gh
open Go.RowKit Go.Maps Go.Sort Fl
set_option linter.unusedVariables false
set_option linter.unusedSimpArgs false

/-- A delay in memory: what it heard last lies in block h. -/
structure DL (w : World) (d h D p : Nat) (ev : Value) (g : Nat → Nat) : Prop where
  c0 : w.cell? ⟨d, 0, none⟩ = some ev
  c1 : w.cell? ⟨d, 1, none⟩ = some (.slice (some ⟨h, 0, none⟩) D D)
  c2 : w.cell? ⟨d, 2, none⟩ = some (.int .i64 p)
  fz : ∀ i, w.frozen? ⟨d, i, none⟩ = false
  fr : Fi.FR w h D g
  g6 : ∀ j, g j < 18446744073709551616
  lt : p < D
  mx : D ≤ 4096
  ne : d ≠ h
theorem DL.keep {w w' : World} {d h D p : Nat} {ev : Value} {g : Nat → Nat} (H : DL w d h D p ev g) (hd : w'.heap[d]? = w.heap[d]?) (hh : w'.heap[h]? = w.heap[h]?) : DL w' d h D p ev g :=
  ⟨(World.cell?_of_block (w := w) (w' := w') (a := ⟨d, 0, none⟩) hd).trans H.c0, (World.cell?_of_block (w := w) (w' := w') (a := ⟨d, 1, none⟩) hd).trans H.c1, (World.cell?_of_block (w := w) (w' := w') (a := ⟨d, 2, none⟩) hd).trans H.c2, fun i => (World.frozen?_of_block (w := w) (w' := w') (a := ⟨d, i, none⟩) hd).trans (H.fz i), World.rowIs.of_block H.fr hh, H.g6, H.lt, H.mx, H.ne⟩
theorem DL.bel {w w' : World} {d h D p : Nat} {ev : Value} {g : Nat → Nat} (H : DL w d h D p ev g) (hb : Below w.heap.size w w') : DL w' d h D p ev g :=
  H.keep (hb.block d (lt_cell H.c0)) (hb.block h (World.rowIs.lt H.fr))
theorem lay_lt {f : Nat → Nat} {off : Nat} {cs : List Nat} (hf : ∀ j, f j < 18446744073709551616) (hc : ∀ x ∈ cs, x < 18446744073709551616) (j : Nat) : lay f off cs j < 18446744073709551616 := by
  by_cases c : off ≤ j ∧ j < off + cs.length
  · obtain ⟨i, rfl⟩ : ∃ i, j = off + i := ⟨j - off, by omega⟩
    rw [lay_in _ _ _ _ (by omega), List.getD_eq_getElem?_getD, List.getElem?_eq_getElem (by omega)]
    exact hc _ (List.getElem_mem _)
  · rw [lay_out _ _ _ _ (by omega)]; exact hf j
/-- Words of a block, so many from a place on. -/
def seg (g : Nat → Nat) (p n : Nat) : List Nat := (List.range n).map (fun j => g (p + j))
theorem seg_len (g : Nat → Nat) (p n : Nat) : (seg g p n).length = n := by unfold seg; simp
theorem seg_get {g : Nat → Nat} {p n j : Nat} (h : j < n) : (seg g p n)[j]? = some (g (p + j)) := by unfold seg; rw [List.getElem?_map, List.getElem?_range h]; rfl
theorem seg_getD {g : Nat → Nat} {p n j : Nat} (h : j < n) : (seg g p n).getD j 0 = g (p + j) := by rw [List.getD_eq_getElem?_getD, seg_get h]; rfl
theorem seg_mem {g : Nat → Nat} {p n : Nat} (hg : ∀ j, g j < 18446744073709551616) : ∀ x ∈ seg g p n, x < 18446744073709551616 := fun x hx => by
  obtain ⟨i, _, rfl⟩ := List.mem_map.1 hx
  exact hg _
theorem seg_cells {w : World} {b M p n : Nat} {g : Nat → Nat} (hF : Fi.FR w b M g) (hfit : p + n ≤ M) : ∀ (j : Nat) x, (seg g p n)[j]? = some x → w.cell? ⟨b, p + j, none⟩ = some (.float .f64 x) := fun j x hj => by
  have hjn : j < n := by have := (List.getElem?_eq_some_iff.1 hj).1; rwa [seg_len] at this
  rw [seg_get hjn] at hj
  cases hj
  exact World.rowIs.cell hF (by omega)
theorem md {a D : Nat} (h : a < 2 * D) : a % D = if a < D then a else a - D := by
  by_cases c : a < D
  · rw [if_pos c, Nat.mod_eq_of_lt c]
  · rw [if_neg c, Nat.mod_eq_sub_mod (by omega), Nat.mod_eq_of_lt (by omega)]
theorem frm_at {b p c n : Nat} (h : n < c) : Fi.frm (some ⟨b, p, none⟩) n c = some ⟨b, p + n, none⟩ := by
  unfold Fi.frm; rw [if_neg (by omega)]
  show some ((⟨b, p, none⟩ : Addr).add n) = _
  unfold Addr.add
  by_cases e : n = 0 <;> simp [e]
/-- Twice copied. -/
theorem two_lay (f g : Nat → Nat) (o p n D j : Nat) (hp : p < D) (hn : n ≤ D) (hj : j < n) : lay (lay f o (seg g p (min n (D - p)))) (o + min n (D - p)) (seg g 0 (n - min n (D - p))) (o + j) = g ((p + j) % D) := by
  rw [md (by omega)]
  by_cases c : j < D - p
  · rw [lay_out _ _ _ _ (.inl (by omega)), lay_in _ _ _ _ (by rw [seg_len]; omega), seg_getD (by omega), if_pos (by omega)]
  · rw [if_neg (by omega)]
    have e : o + j = (o + min n (D - p)) + (j - (D - p)) := by omega
    rw [e, lay_in _ _ _ _ (by rw [seg_len]; omega), seg_getD (by omega)]
    congr 1; omega
set_option maxHeartbeats 4000000 in
theorem dplay_any (s : Sx) (d h D p o n c M : Nat) (ev : Value) (g f : Nat → Nat) (w : World) (hD : DL w d h D p ev g) (hdA : d ≠ s.A) (hhA : h ≠ s.A) (hF : Fi.FR w s.A M f) (hf : ∀ j, f j < 18446744073709551616) (hfit : o + n ≤ M) (hn : n ≤ c) (hc : c ≤ 9223372036854775807) (hnD : n ≤ D) :
    Calls Try.prog 94 #[.pointer (some ⟨d, 0, none⟩), sv s, .slice (some ⟨s.A, o, none⟩) n c] w fun e w' => e = .returned (.tuple #[]) ∧ Wt w s.A M o n f (fun j => ab (g ((p + j) % D))) w' := by
  have HB : Hid (Below w.heap.size w (w.alloc (Obj.cells #[.slice s.io s.il s.ic, .int .i64 s.t, .slice (some ⟨s.mb, 0, none⟩) s.N s.N] 82))) := (sbox s w).1
  have HF1 : Hid (Fi.FR (w.alloc (Obj.cells #[.slice s.io s.il s.ic, .int .i64 s.t, .slice (some ⟨s.mb, 0, none⟩) s.N s.N] 82)) s.A M f) := World.rowIs.alloc hF _
  have HD : Hid (DL (w.alloc (Obj.cells #[.slice s.io s.il s.ic, .int .i64 s.t, .slice (some ⟨s.mb, 0, none⟩) s.N s.N] 82)) d h D p ev g) := hD.bel HB.out
  have hlt := hD.lt
  have hmx := hD.mx
  have c1 := HD.out.c1
  have c2 := HD.out.c2
  have ld := lt_cell c1
  have Hf : Hid (∀ j, f j < 18446744073709551616) := hf
  have hsl := Fi.run_from (some ⟨h, 0, none⟩) D D p (by omega)
  clear hD hF hf
  go_enter Try.func94, Try.ntmps94
  go_wp2_with fail
  generalize (w.alloc (Obj.cells #[.slice s.io s.il s.ic, .int .i64 s.t, .slice (some ⟨s.mb, 0, none⟩) s.N s.N] 82)) = W1 at *
  refine U2.wp_region_tail_read 10 (by decide) (by kernel_rfl) (by kernel_rfl) (by kernel_rfl) (by kernel_rfl) ?_
  dsimp only [List.take, List.drop]
  repeat (quiet_step (fail))
  refine wpQuiet_nil ?_
  rintro w2 ⟨nq, rfl⟩
  refine wpList_copy_fr rfl (.tmp 7) (.tmp 16) rfl _ _ _ _ _ _ rfl rfl s.A o M f HF1.out (seg g p (min n (D - p))) (by rw [seg_len, Nat.min_comm]) (fun hpos => ?_) (by rw [seg_len]; omega) ?_
  · rw [seg_len] at hpos
    refine ⟨rfl, h, p, by rw [frm_at (by omega), Nat.zero_add], seg_cells HD.out.fr (by omega)⟩
  · intro w' hF' hK hz
    rw [seg_len]
    have HK1 : Hid (Kx (· = s.A) W1 w') := (Kx.bel (Fi.belD nq)).trans hK
    have c1' := HK1.out.cell ld hdA c1
    have ld' : d < w'.heap.size := lt_cell c1'
    have hs2 := Fi.run_from (some ⟨s.A, o, none⟩) n c (min n (D - p)) (by omega)
    have HFh : Hid (Fi.FR w' h D g) := World.rowIs.of_block HD.out.fr (HK1.out.block h (World.rowIs.lt HD.out.fr) hhA)
    clear hK hz
    generalize hn1 : min n (D - p) = n1 at *
    go_wp2_with fail
    refine U2.wp_region_tail_read 7 (by decide) (by kernel_rfl) (by kernel_rfl) (by kernel_rfl) (by kernel_rfl) ?_
    dsimp only [List.take, List.drop]
    repeat (quiet_step (fail))
    refine wpQuiet_nil ?_
    rintro w3 ⟨nq2, rfl⟩
    refine wpList_copy_fr rfl (.tmp 20) (.tmp 24) rfl _ _ _ _ _ _ rfl rfl s.A (o + n1) M (lay f o (seg g p n1)) hF'.out (seg g 0 (n - n1)) (by rw [seg_len]; show _ = min D (n - n1); omega) (fun hpos => ?_) (by rw [seg_len]; omega) ?_
    · rw [seg_len] at hpos
      refine ⟨by rw [frm_at (by omega)], h, 0, rfl, seg_cells HFh.out (by omega)⟩
    · intro w4 hF4 hK4 hz4
      have HR : Hid (Wt w s.A M o n f (fun j => ab (g ((p + j) % D))) w4) := by
        refine ⟨⟨_, hF4.out, lay_lt (lay_lt Hf.out (seg_mem HD.out.g6)) (seg_mem HD.out.g6), fun j hj => ?_, fun j hj => ?_⟩, ((Kx.bel HB.out).trans HK1.out).trans ((Kx.bel (Fi.belD nq2)).trans hK4), hfit, ?_⟩
        · rw [lay_out _ _ _ _ (by rw [seg_len]; omega), lay_out _ _ _ _ (by rw [seg_len]; omega)]
        · have := two_lay f g o p n D j hlt hnD hj
          rw [hn1] at this
          rw [this]
        · exact Nat.le_trans HB.out.size (Nat.le_trans HK1.out.size hK4.size)
      clear hF4 hK4
      go_wp2_with fail
      go_end0
      exact ⟨rfl, HR.out⟩
end Go.Proofs.Ytjpcebnbkdekkaa.Gh

/- How a delay hears. -/
namespace Go.Proofs.Ytjpcebnbkdekkaa.Gh
open Go.RowKit Go.Maps Go.Sort Fl
set_option linter.unusedVariables false
set_option linter.unusedSimpArgs false

/-- What was heard, turned round. -/
theorem ring_lay (f g : Nat → Nat) (q p n D j : Nat) (hp : p < D) (hn : n ≤ D) (hj : j < D) :
    lay (lay g p (seg f q (min (D - p) n))) 0 (seg f (q + min (D - p) n) (n - min (D - p) n)) (((p + n) % D + j) % D) = if j + n < D then g ((p + (j + n)) % D) else f (q + (j + n - D)) := by
  rw [md (a := p + n) (by omega)]
  by_cases c1 : p + n < D
  · rw [if_pos c1, md (by omega)]
    have hm : min (D - p) n = n := by omega
    rw [hm, Nat.sub_self]
    have e0 : seg f (q + n) 0 = [] := rfl
    rw [e0, lay_nil]
    by_cases c2 : j + n < D
    · rw [if_pos c2, md (by omega)]
      by_cases c3 : p + n + j < D
      · rw [if_pos c3, if_pos (by omega), lay_out _ _ _ _ (by rw [seg_len]; omega)]; congr 1; omega
      · rw [if_neg c3, if_neg (by omega), lay_out _ _ _ _ (by rw [seg_len]; omega)]; congr 1; omega
    · rw [if_neg c2, if_neg (by omega)]
      have e : p + n + j - D = p + (j + n - D) := by omega
      rw [e, lay_in _ _ _ _ (by rw [seg_len]; omega), seg_getD (by omega)]
  · rw [if_neg c1]
    have hm : min (D - p) n = D - p := by omega
    rw [hm, md (by omega)]
    by_cases c3 : j + n < D
    · rw [if_pos c3, if_pos (by omega), md (by omega), if_neg (by omega), lay_out _ _ _ _ (.inr (by rw [seg_len]; omega)), lay_out _ _ _ _ (.inl (by omega))]
      congr 1; omega
    · rw [if_neg c3]
      by_cases c4 : p + n - D + j < D
      · rw [if_pos c4, lay_out _ _ _ _ (.inr (by rw [seg_len]; omega))]
        have e : p + n - D + j = p + (j + n - D) := by omega
        rw [e, lay_in _ _ _ _ (by rw [seg_len]; omega), seg_getD (by omega)]
      · rw [if_neg c4]
        have e : p + n - D + j - D = 0 + (p + n - D + j - D) := by omega
        rw [e, lay_in _ _ _ _ (by rw [seg_len]; omega), seg_getD (by omega)]
        congr 1; omega
/-- What hear leaves. -/
structure HeQ (w : World) (d h D p n : Nat) (ev : Value) (g X : Nat → Nat) (w' : World) : Prop where
  ex : ∃ g', DL w' d h D ((p + n) % D) ev g' ∧ ∀ j, j < D → g' (((p + n) % D + j) % D) = if j + n < D then g ((p + (j + n)) % D) else X (j + n - D)
  k : Kx (fun b => b = d ∨ b = h) w w'
set_option maxHeartbeats 4000000 in
theorem hear_any (s : Sx) (d h D p n q qc M fo ec : Nat) (eo : Option Addr) (S : Nat → Prop) (g f : Nat → Nat) (w : World) (hD : DL w d h D p (.slice eo 1 ec) g) (hec : 1 ≤ ec) (hE : ZL w S eo [(fo : Int)]) (hdA : d ≠ s.A) (hhA : h ≠ s.A) (hF : Fi.FR w s.A M f) (hf : ∀ j, f j < 18446744073709551616)
    (hm : w.cell? ⟨s.mb, fo, none⟩ = some (.slice (some ⟨s.A, q, none⟩) n qc)) (hfo : fo < s.N) (hq : q + n ≤ M) (hqc : n ≤ qc) (hqm : qc ≤ 9223372036854775807) (hnD : n ≤ D) :
    Calls Try.prog 93 #[.pointer (some ⟨d, 0, none⟩), sv s] w fun e w' => e = .returned (.tuple #[]) ∧ HeQ w d h D p n (.slice eo 1 ec) g (fun j => f (q + j)) w' := by
  have HB : Hid (Below w.heap.size w (w.alloc (Obj.cells #[.slice s.io s.il s.ic, .int .i64 s.t, .slice (some ⟨s.mb, 0, none⟩) s.N s.N] 82))) := (sbox s w).1
  have HF1 : Hid (Fi.FR (w.alloc (Obj.cells #[.slice s.io s.il s.ic, .int .i64 s.t, .slice (some ⟨s.mb, 0, none⟩) s.N s.N] 82)) s.A M f) := World.rowIs.alloc hF _
  have HD : Hid (DL (w.alloc (Obj.cells #[.slice s.io s.il s.ic, .int .i64 s.t, .slice (some ⟨s.mb, 0, none⟩) s.N s.N] 82)) d h D p (.slice eo 1 ec) g) := hD.bel HB.out
  have hm1 := Fi.keepC HB.out (lt_cell hm) hm
  have ls : w.heap.size < (w.alloc (Obj.cells #[.slice s.io s.il s.ic, .int .i64 s.t, .slice (some ⟨s.mb, 0, none⟩) s.N s.N] 82)).heap.size := by simp
  have d2 : (w.alloc (Obj.cells #[.slice s.io s.il s.ic, .int .i64 s.t, .slice (some ⟨s.mb, 0, none⟩) s.N s.N] 82)).cell? ⟨w.heap.size, 2, none⟩ = some (.slice (some ⟨s.mb, 0, none⟩) s.N s.N) := by simp [go_sem]
  obtain ⟨eb, eof, rfl, he1, he2, he3⟩ := hE.at' (by simp)
  have he0 := Fi.keepC HB.out he1 (he3 0 _ rfl)
  rw [Nat.add_zero] at he0
  have hlt := hD.lt
  have hmx := hD.mx
  have c0 := HD.out.c0
  have c1 := HD.out.c1
  have c2 := HD.out.c2
  have ld := lt_cell c1
  have Hf : Hid (∀ j, f j < 18446744073709551616) := hf
  have hsl := Fi.run_from (some ⟨h, 0, none⟩) D D p (by omega)
  have hsl2 := Fi.run_from (some ⟨s.A, q, none⟩) n qc (min (D - p) n) (by omega)
  have hfo' : (fo : Int) < (s.N : Int) := by omega
  have hldw : d < w.heap.size := lt_cell hD.c1
  have hlh : h < w.heap.size := World.rowIs.lt hD.fr
  clear hD hF hf he3 he1 hE hm
  go_enter Try.func93, Try.ntmps93
  go_wp2_with fail
  generalize (w.alloc (Obj.cells #[.slice s.io s.il s.ic, .int .i64 s.t, .slice (some ⟨s.mb, 0, none⟩) s.N s.N] 82)) = W1 at *
  go_quiet (fail)
  have hrn := Fi.belD (w := W1) nq
  have HFA : Hid (Fi.FR (W1.drewN nq) s.A M f) := HF1.out
  have HDh : Hid (DL (W1.drewN nq) d h D p (.slice (some ⟨eb, eof, none⟩) 1 ec) g) := HD.out.bel hrn
  have HBn : Hid (Below w.heap.size w (W1.drewN nq)) := HB.out.trans (hrn.mono HB.out.size)
  have c1 := HDh.out.c1
  have c2 := HDh.out.c2
  have ld := lt_cell c1
  clear hrn HF1 HD HB c0
  generalize W1.drewN nq = W2 at *
  clear d2 he0 hm1 ls
  go_wp2_with fail
  refine U2.wp_region_tail_read 10 (by decide) (by kernel_rfl) (by kernel_rfl) (by kernel_rfl) (by kernel_rfl) ?_
  dsimp only [List.take, List.drop]
  repeat (quiet_step (fail))
  refine wpQuiet_nil ?_
  rintro w2 ⟨nq1, rfl⟩
  refine wpList_copy_fr rfl (.tmp 24) (.tmp 25) rfl _ _ _ _ _ _ rfl rfl h p D g HDh.out.fr (seg f q (min (D - p) n)) (by rw [seg_len]; show _ = min n (D - p); omega) (fun hpos => ?_) (by rw [seg_len]; omega) ?_
  · rw [seg_len] at hpos
    exact ⟨by rw [frm_at (by omega), Nat.zero_add], s.A, q, rfl, seg_cells HFA.out (by omega)⟩
  · intro w3 hF3 hK3 hz3
    rw [seg_len]
    have HK3 : Hid (Kx (· = h) W2 w3) := (Kx.bel (Fi.belD nq1)).trans hK3
    have c1' := HK3.out.cell ld HDh.out.ne c1
    have c2' := HK3.out.cell ld HDh.out.ne c2
    have ld' : d < w3.heap.size := lt_cell c1'
    have HFA3 : Hid (Fi.FR w3 s.A M f) := World.rowIs.of_block HFA.out (HK3.out.block s.A (World.rowIs.lt HFA.out) (fun e => hhA e.symm))
    clear hK3 hz3
    generalize hn1 : min (D - p) n = n1 at *
    go_wp2_with fail
    refine U2.wp_region_tail_read 7 (by decide) (by kernel_rfl) (by kernel_rfl) (by kernel_rfl) (by kernel_rfl) ?_
    dsimp only [List.take, List.drop]
    repeat (quiet_step (fail))
    refine wpQuiet_nil ?_
    rintro w4 ⟨nq2, rfl⟩
    refine wpList_copy_fr rfl (.tmp 30) (.tmp 33) rfl _ _ _ _ _ _ rfl rfl h 0 D (lay g p (seg f q n1)) hF3.out (seg f (q + n1) (n - n1)) (by rw [seg_len]; show _ = min (n - n1) D; omega) (fun hpos => ?_) (by rw [seg_len]; omega) ?_
    · rw [seg_len] at hpos
      exact ⟨rfl, s.A, q + n1, by rw [frm_at (by omega)], seg_cells HFA3.out (by omega)⟩
    · intro w5 hF5 hK5 hz5
      have HK5 : Hid (Kx (· = h) W2 w5) := HK3.out.trans ((Kx.bel (Fi.belD nq2)).trans hK5)
      have c1'' := HK5.out.cell ld HDh.out.ne c1
      have c2'' := HK5.out.cell ld HDh.out.ne c2
      have cf := HK5.out.froz (o := 2) ld HDh.out.ne (HDh.out.fz 2)
      have ld'' : d < w5.heap.size := lt_cell c1''
      have hw : IntKind.i64.wrap ((p : Int) + (n : Int)) = (p : Int) + (n : Int) := wid (by omega) (by omega)
      have hDz : (D : Int) ≠ 0 := by omega
      have hDn : ¬ D = 0 := by omega
      have hDb : ((D : Int) == 0) = false := by simp; omega
      clear hK5 hz5 c1' c2'
      have Hrem : Hid (((p : Int) + (n : Int)) % (D : Int) = (((p + n) % D : Nat) : Int)) := rfl
      go_wp2_with fail
      refine U2.wp_region_tail_read 14 (by decide) (by kernel_rfl) (by kernel_rfl) (by kernel_rfl) (by kernel_rfl) ?_
      dsimp only [List.take, List.drop]
      repeat (quiet_step (fail))
      refine wpQuiet_nil ?_
      rintro w6 ⟨nq3, rfl⟩
      have hb3 := Fi.belD (w := w5) nq3
      have c2e := Fi.keepC hb3 ld'' c2''
      have cfe : (w5.drewN nq3).frozen? ⟨d, 2, none⟩ = false := cf
      have lde : d < (w5.drewN nq3).heap.size := ld''
      have HBe : Hid (Below w5.heap.size w5 (w5.drewN nq3)) := hb3
      clear hb3
      generalize w5.drewN nq3 = W6 at *
      go_wp2_with fail
      go_end0
      have hK6 : Kx (· = h) W2 W6 := HK5.out.trans (Kx.bel HBe.out)
      have h6 : ∀ i, i ≠ 2 → (W6.setCell ⟨d, 2, none⟩ (.int .i64 (((p : Int) + (n : Int)) % (D : Int)))).cell? ⟨d, i, none⟩ = W6.cell? ⟨d, i, none⟩ := fun i hi => World.cell?_setCell_other _ _ _ _ (fun e => hi (congrArg Addr.off e).symm)
      refine ⟨rfl, ⟨⟨lay (lay g p (seg f q n1)) 0 (seg f (q + n1) (n - n1)), ?_, fun j hj => ?_⟩, ?_⟩⟩
      · have hF6 : Fi.FR W6 h D (lay (lay g p (seg f q n1)) 0 (seg f (q + n1) (n - n1))) := World.rowIs.of_block hF5.out (HBe.out.block h (World.rowIs.lt hF5.out))
        refine ⟨(h6 0 (by omega)).trans (hK6.cell ld HDh.out.ne HDh.out.c0), (h6 1 (by omega)).trans (hK6.cell ld HDh.out.ne HDh.out.c1), ?_, fun i => ?_, World.rowIs.setOther hF6 (fun e => HDh.out.ne e.symm) _, lay_lt (lay_lt HDh.out.g6 (seg_mem Hf.out)) (seg_mem Hf.out), Nat.mod_lt _ (by omega), hmx, HDh.out.ne⟩
        · rw [Hrem.out]; exact World.cell?_setCell_same _ _ _ c2e
        · rw [World.frozen?_setCell]; exact hK6.froz ld HDh.out.ne (HDh.out.fz i)
      · have := ring_lay f g q p n D j hlt hnD hj
        rw [hn1] at this
        exact this
      · exact (((Kx.bel HBn.out).trans (hK6.mono (fun k _ e => .inr e))).trans (Kx.put (.inl rfl)))
end Go.Proofs.Ytjpcebnbkdekkaa.Gh

/- What filters and voices make in a graph. -/
namespace Go.Proofs.Ytjpcebnbkdekkaa.Gh
open Go.RowKit Go.Maps Go.Sort Fl
set_option linter.unusedVariables false
set_option linter.unusedSimpArgs false

theorem adv_fst (c : Fi.Cf) (V : Hist) (f i t : Nat) (h : V i t = Fi.nx c (fst' V f i t) (V f t)) : Fi.adv c (fst' V f i t) (V f t) = fst' V f i (t + 1) := by
  unfold Fi.adv
  rw [← h]
  unfold fst'
  have e1 : (((t + 1 : Nat) : Int) - 1) = (t : Int) := by omega
  have e2 : (((t + 1 : Nat) : Int) - 2) = (t : Int) - 1 := by omega
  rw [e1, e2, pv_nat, pv_nat]
theorem outs_fst (c : Fi.Cf) (V : Hist) (f i : Nat) : ∀ (l : List (Option Nat)) (T : Nat), (∀ j, j < l.length → V i (T + j) = Fi.nx c (fst' V f i (T + j)) (V f (T + j))) → (∀ (j : Nat) x, l[j]? = some x → x = V f (T + j)) →
    Fi.outs c (fst' V f i T) l = (List.range l.length).map (fun j => V i (T + j)) ∧ Fi.sts c (fst' V f i T) l = fst' V f i (T + l.length) := by
  intro l
  induction l with
  | nil => intro T _ _; exact ⟨rfl, rfl⟩
  | cons x l ih =>
    intro T h1 h2
    obtain rfl : x = V f T := h2 0 x rfl
    have e0 := h1 0 (by simp)
    rw [Nat.add_zero] at e0
    have hs := adv_fst c V f i T e0
    obtain ⟨a1, a2⟩ := ih (T + 1) (fun j hj => by
      have := h1 (j + 1) (by simp; omega)
      rwa [show T + (j + 1) = T + 1 + j by omega] at this) (fun j x hj => by
      have := h2 (j + 1) x hj
      rwa [show T + (j + 1) = T + 1 + j by omega] at this)
    refine ⟨?_, ?_⟩
    · show Fi.nx c (fst' V f i T) (V f T) :: Fi.outs c (Fi.adv c (fst' V f i T) (V f T)) l = _
      rw [hs, a1, ← e0, List.length_cons, List.range_succ_eq_map, List.map_cons, List.map_map]
      congr 1
      refine List.map_congr_left fun j _ => ?_
      show V i (T + 1 + j) = V i (T + (j + 1))
      congr 1; omega
    · show Fi.sts c (Fi.adv c (fst' V f i T) (V f T)) l = _
      rw [hs, a2, List.length_cons]; congr 1; omega
/-- What a node leaves: n words from place o on of block A; and its own blocks are other ones. -/
structure Pq (w : World) (A M o n : Nat) (f : Nat → Nat) (U : Nat → Option Nat) (O : Nat → Prop) (ww : World) : Prop where
  ex : ∃ g, Fi.FR ww A M g ∧ (∀ j, g j < 18446744073709551616) ∧ (∀ j, j < o ∨ o + n ≤ j → g j = f j) ∧ ∀ j, j < n → ab (g (o + j)) = U j
  k : Kx (fun b => b = A ∨ O b) w ww
theorem Wt.pq {w ww : World} {A M o n : Nat} {f : Nat → Nat} {U : Nat → Option Nat} (h : Wt w A M o n f U ww) (O : Nat → Prop) : Pq w A M o n f U O ww := ⟨h.ex, h.k.mono (fun _ _ e => .inl e)⟩
theorem Run_seg (c : Fi.Cf) (st : Fi.St) (b A q n cp M : Nat) (f : Nat → Nat) (w : World) (hF : Fi.FL w b c st) (hA : Fi.FR w A M f) (hf : ∀ j, f j < 18446744073709551616) (hne : A ≠ b) (hq : q + n ≤ M) (hc : n ≤ cp) (hcm : cp ≤ 9223372036854775807) (hn : n ≤ 65536) :
    Calls Try.prog 98 #[.pointer (some ⟨b, 0, none⟩), .slice (some ⟨A, q, none⟩) n cp] w fun e w' => Fi.RnQ w b c st (seg f q n) e w' := by
  have hl := seg_len f q n
  have := Fi.Run_any c st b (· = A) (seg f q n) (some ⟨A, q, none⟩) cp w hF ⟨fun _ => ⟨A, q, rfl, World.rowIs.lt hA, rfl, fun j x hj => ⟨seg_cells hA hq j x hj, seg_mem hf x (List.mem_of_getElem? hj)⟩⟩⟩ (fun k e => by rw [e]; exact hne) (by omega) hcm (by omega)
  rw [hl] at this
  exact this
theorem belD' {w : World} {n : Nat} : Below w.heap.size w (w.drewN n) := Fi.belD n
set_option maxRecDepth 8000 in
set_option maxHeartbeats 4000000 in
theorem splay_any (s : Sx) (fb fo o n c q qc M T i ec : Nat) (eo : Option Addr) (S : Nat → Prop) (cf : Fi.Cf) (V : Hist) (f : Nat → Nat) (w : World) (hFL : Fi.FL w fb cf (fst' V fo i T)) (hE : ZL w S eo [(fo : Int)]) (hec : 1 ≤ ec) (hfA : fb ≠ s.A) (hmA : s.mb ≠ s.A) (hmF : s.mb ≠ fb) (hSA : ∀ b, S b → b ≠ s.A) (hSF : ∀ b, S b → b ≠ fb)
    (hm : w.cell? ⟨s.mb, fo, none⟩ = some (.slice (some ⟨s.A, q, none⟩) n qc)) (hfo : fo < s.N) (hq : q + n ≤ M) (hqc : n ≤ qc) (hqm : qc ≤ 9223372036854775807) (hV : ∀ j, j < n → V i (T + j) = Fi.nx cf (fst' V fo i (T + j)) (V fo (T + j))) (hX : ∀ j, j < n → ab (f (q + j)) = V fo (T + j))
    (hF : Fi.FR w s.A M f) (hf : ∀ j, f j < 18446744073709551616) (hfit : o + n ≤ M) (hn : n ≤ c) (hM : n ≤ 65536) :
    Calls Try.prog 97 #[.agg #[.slice eo 1 ec, .pointer (some ⟨fb, 0, none⟩)], sv s, .slice (some ⟨s.A, o, none⟩) n c] w fun e w' => e = .returned (.tuple #[]) ∧ Pq w s.A M o n f (fun j => V i (T + j)) (· = fb) w' ∧ Fi.FL w' fb cf (fst' V fo i (T + n)) := by
  obtain ⟨W1, hW1⟩ : ∃ x, x = (w.alloc (Obj.cells #[.slice eo 1 ec, .pointer (some ⟨fb, 0, none⟩)] 128)).alloc (Obj.cells #[.slice s.io s.il s.ic, .int .i64 s.t, .slice (some ⟨s.mb, 0, none⟩) s.N s.N] 82) := ⟨_, rfl⟩
  have HB : Hid (Below w.heap.size w W1) := by rw [hW1]; exact ((Below.refl _ _).alloc (Nat.le_refl _) _).alloc (by simp) _
  have HF1 : Hid (Fi.FR W1 s.A M f) := by rw [hW1]; exact World.rowIs.alloc (World.rowIs.alloc hF _) _
  have hm1 := Fi.keepC HB.out (lt_cell hm) hm
  have z1 : W1.heap.size = w.heap.size + 2 := by rw [hW1]; simp
  have b0 : W1.cell? ⟨w.heap.size, 0, none⟩ = some (.slice eo 1 ec) := by rw [hW1]; simp [go_sem]
  have b1 : W1.cell? ⟨w.heap.size, 1, none⟩ = some (.pointer (some ⟨fb, 0, none⟩)) := by rw [hW1]; simp [go_sem]
  have d2 : W1.cell? ⟨w.heap.size + 1, 2, none⟩ = some (.slice (some ⟨s.mb, 0, none⟩) s.N s.N) := by rw [hW1]; simp [go_sem]
  have l0 : w.heap.size < W1.heap.size := by omega
  have l1 : w.heap.size + 1 < W1.heap.size := by omega
  obtain ⟨eb, eof, rfl, he1, he2, he3⟩ := hE.at' (by simp)
  have heA := hSA eb he2
  have heF := hSF eb he2
  have he0 := Fi.keepC HB.out he1 (he3 0 _ rfl)
  rw [Nat.add_zero] at he0
  have HFL : Hid (Fi.FL W1 fb cf (fst' V fo i T)) := hFL.bel HB.out
  have hfo' : (fo : Int) < (s.N : Int) := by omega
  have Hf : Hid (∀ j, f j < 18446744073709551616) := hf
  have HV : Hid ((∀ j, j < n → V i (T + j) = Fi.nx cf (fst' V fo i (T + j)) (V fo (T + j))) ∧ ∀ j, j < n → ab (f (q + j)) = V fo (T + j)) := ⟨hV, hX⟩
  have lfb : fb < w.heap.size := hFL.lt
  have lA : s.A < w.heap.size := World.rowIs.lt hF
  clear hF hf hm he3 hE hFL hV hX he1
  go_enter Try.func97, Try.ntmps97
  go_wp2_with fail
  rw [← hW1]
  clear hW1
  have nb0 : ¬ (w.heap.size = s.A ∨ w.heap.size = fb) := by omega
  have nb1 : ¬ (w.heap.size + 1 = s.A ∨ w.heap.size + 1 = fb) := by omega
  have nbe : ¬ (eb = s.A ∨ eb = fb) := fun q => q.elim heA heF
  have nbm : ¬ (s.mb = s.A ∨ s.mb = fb) := fun q => q.elim hmA hmF
  refine RF.wp_region_floatC (fun w' => Kx (fun b => b = s.A ∨ b = fb) W1 w') (fun k => k != 11 && k != 12) (by kernel_rfl) (by kernel_rfl) (by kernel_rfl) (Kx.bel (belD' (n := 1))) ?_
  refine RF.wpFl_readC rfl rfl (.slice (some ⟨s.A, o, none⟩) n c) (fun w' hw' => by unfold RM.valAt; go_simp) ?_
  refine RF.wpFl_readC rfl rfl (.pointer (some ⟨w.heap.size, 1, none⟩)) (fun w' hw' => by unfold RM.valAt; go_simp) ?_
  refine RF.wpFl_readC rfl rfl (.pointer (some ⟨fb, 0, none⟩)) (fun w' hw' => by have cc := hw'.cell l0 nb0 b1; have cl := lt_cell cc; unfold RM.valAt; go_simp) ?_
  refine RF.wpFl_readC rfl rfl (.pointer (some ⟨w.heap.size + 1, 2, none⟩)) (fun w' hw' => by unfold RM.valAt; go_simp) ?_
  refine RF.wpFl_readC rfl rfl (.slice (some ⟨s.mb, 0, none⟩) s.N s.N) (fun w' hw' => by have cc := hw'.cell l1 nb1 d2; have cl := lt_cell cc; unfold RM.valAt; go_simp) ?_
  refine RF.wpFl_readC rfl rfl (.pointer (some ⟨w.heap.size, 0, none⟩)) (fun w' hw' => by unfold RM.valAt; go_simp) ?_
  refine RF.wpFl_readC rfl rfl (.slice (some ⟨eb, eof, none⟩) 1 ec) (fun w' hw' => by have cc := hw'.cell l0 nb0 b0; have cl := lt_cell cc; unfold RM.valAt; go_simp) ?_
  refine RF.wpFl_readC rfl rfl (.pointer (some ⟨eb, eof, none⟩)) (fun w' hw' => by unfold RM.valAt; go_simp) ?_
  refine RF.wpFl_readC rfl rfl (.int .i64 fo) (fun w' hw' => by have cc := hw'.cell (lt_cell he0) nbe he0; have cl := lt_cell cc; unfold RM.valAt; go_simp) ?_
  refine RF.wpFl_readC rfl rfl (.pointer (some ⟨s.mb, fo, none⟩)) (fun w' hw' => by unfold RM.valAt; go_simp) ?_
  refine RF.wpFl_readC rfl rfl (.slice (some ⟨s.A, q, none⟩) n qc) (fun w' hw' => by have cc := hw'.cell (lt_cell hm1) nbm hm1; have cl := lt_cell cc; unfold RM.valAt; go_simp) ?_
  refine RF.wpFl_doC rfl rfl (fun K hK => ?_)
  have HFL2 : Hid (Fi.FL W1.drew fb cf (fst' V fo i T)) := HFL.out.bel (belD' (n := 1))
  have HF2 : Hid (Fi.FR W1.drew s.A M f) := HF1.out
  have HB2 : Hid (Below w.heap.size w W1.drew) := HB.out.trans ((belD' (n := 1)).mono HB.out.size)
  have HC2 : Hid (Kx (fun b => b = s.A ∨ b = fb) W1 W1.drew) := Kx.bel (belD' (n := 1))
  clear HFL HF1 HB b0 b1 d2 he0 hm1 l0 l1
  generalize W1.drew = W2 at *
  have hq1 := Run_seg cf (fst' V fo i T) fb s.A q n qc M f W2 HFL2.out HF2.out Hf.out (fun e => hfA e.symm) hq hqc hqm hM
  go_wp2_with fail
  refine hq1.mono ?_
  intro e w3 hQ
  have hex := hQ.ex
  rw [seg_len] at hex
  subst hex
  obtain ⟨g, g1, g2, g3, g4⟩ := hQ.fr
  rw [seg_len] at g1 g4
  have HO : Hid (Fi.outs cf (fst' V fo i T) (Fi.abs (seg f q n)) = (List.range n).map (fun j => V i (T + j)) ∧ Fi.sts cf (fst' V fo i T) (Fi.abs (seg f q n)) = fst' V fo i (T + n)) := by
    have hl : (Fi.abs (seg f q n)).length = n := by rw [Fi.abs_len, seg_len]
    have := outs_fst cf V fo i (Fi.abs (seg f q n)) T (fun j hj => HV.out.1 j (by omega)) (fun j x hj => by
      have hjn : j < n := by have := (List.getElem?_eq_some_iff.1 hj).1; omega
      unfold Fi.abs at hj
      rw [List.getElem?_map, seg_get hjn] at hj
      cases hj
      exact HV.out.2 j hjn)
    rw [hl] at this
    exact this
  have HK : Hid (Kx (· = fb) W2 w3) := Kx.kn hQ.k
  have hz3 : W2.heap.size < w3.heap.size := hQ.z
  have HG : Hid (g.length = n ∧ Fi.abs g = (List.range n).map (fun j => V i (T + j)) ∧ (∀ x ∈ g, x < 18446744073709551616) ∧ Fi.FR w3 W2.heap.size n (fun i => g.getD i 0)) := ⟨g1, by rw [g2]; exact HO.out.1, g3, g4⟩
  have HFL3 : Hid (Fi.FL w3 fb cf (fst' V fo i (T + n))) := by
    have := hQ.v
    rw [HO.out.2] at this
    exact this
  have HF3 : Hid (Fi.FR w3 s.A M f) := World.rowIs.of_block HF2.out (HK.out.block s.A (World.rowIs.lt HF2.out) (fun e => hfA e.symm))
  have HC3 : Hid (Kx (fun b => b = s.A ∨ b = fb) W1 w3) := HC2.out.trans (HK.out.mono (fun _ _ e => .inr e))
  clear hQ g1 g2 g3 g4 hq1 HO
  go_wp2_with fail
  refine hK _ _ HC3.out ?_
  clear hK K
  refine RF.wpFl_doC rfl rfl (fun K hK => ?_)
  refine wpList_copy_fr rfl (.tmp 6) (.tmp 17) rfl _ _ _ _ _ _ rfl rfl s.A o M f HF3.out g (by rw [HG.out.1]; show n = min n n; omega) ?c1 (by rw [HG.out.1]; exact hfit) ?c2
  case c1 =>
    intro hpos
    refine ⟨rfl, W2.heap.size, 0, rfl, fun j x hj => ?_⟩
    have hjn : j < n := by have := (List.getElem?_eq_some_iff.1 hj).1; have := HG.out.1; omega
    rw [Nat.zero_add, World.rowIs.cell HG.out.2.2.2 hjn]
    show some (Value.float .f64 (g.getD j 0)) = _
    rw [List.getD_eq_getElem?_getD, hj]; rfl
  case c2 =>
    intro w4 hF4 hK4 hz4
    have HR : Hid (Pq w s.A M o n f (fun j => V i (T + j)) (· = fb) w4 ∧ Fi.FL w4 fb cf (fst' V fo i (T + n))) := by
      refine ⟨⟨⟨_, hF4.out, lay_lt Hf.out HG.out.2.2.1, fun j hj => lay_out _ _ _ _ (by rw [HG.out.1]; exact hj), fun j hj => ?_⟩, ?_⟩, ?_⟩
      · have hjg : j < g.length := by rw [HG.out.1]; exact hj
        rw [lay_in _ _ _ _ hjg]
        have h1 : (Fi.abs g)[j]? = some (V i (T + j)) := by rw [HG.out.2.1, List.getElem?_map, List.getElem?_range hj]; rfl
        unfold Fi.abs at h1
        rw [List.getElem?_map, List.getElem?_eq_getElem hjg] at h1
        rw [List.getD_eq_getElem?_getD, List.getElem?_eq_getElem hjg]
        exact Option.some.inj h1
      · exact ((Kx.bel HB2.out).trans ((HK.out.mono (fun _ _ e => .inr e)).trans (hK4.mono (fun _ _ e => .inl e))))
      · exact HFL3.out.keep (hK4.block fb HFL3.out.lt hfA) hK4.size
    have HC4 : Hid (Kx (fun b => b = s.A ∨ b = fb) W1 w4) := HC3.out.trans (hK4.mono (fun _ _ e => .inl e))
    clear hF4 hK4
    refine Fi.wpList_nil' ?_
    refine hK _ _ HC4.out ?_
    clear hK K
    refine RF.wpFl_nil ?_
    go_wp2_with fail
    go_end0
    exact ⟨rfl, HR.out⟩
end Go.Proofs.Ytjpcebnbkdekkaa.Gh

/- What a voice makes in a graph; how nodes come to rest. -/
namespace Go.Proofs.Ytjpcebnbkdekkaa.Gh
open Go.RowKit Go.Maps Go.Sort Fl
set_option linter.unusedVariables false
set_option linter.unusedSimpArgs false

/-- A singer in memory. -/
structure GL (w : World) (sb vb T : Nat) (p : Vo.Pt) (ev : Value) : Prop where
  c0 : w.cell? ⟨sb, 0, none⟩ = some ev
  c1 : w.cell? ⟨sb, 1, none⟩ = some (.pointer (some ⟨vb, 0, none⟩))
  p0 : w.cell? ⟨sb, 2, none⟩ = some (.int .i64 p.shape)
  p1 : w.cell? ⟨sb, 3, none⟩ = some (.int .u32 p.step)
  p2 : w.cell? ⟨sb, 4, none⟩ = some (.float .f64 p.gain)
  p3 : w.cell? ⟨sb, 5, none⟩ = some (.int .i64 p.atk)
  p4 : w.cell? ⟨sb, 6, none⟩ = some (.int .i64 p.dec)
  p5 : w.cell? ⟨sb, 7, none⟩ = some (.int .i64 p.rel)
  p6 : w.cell? ⟨sb, 8, none⟩ = some (.int .i64 p.sus)
  fz : ∀ i, w.frozen? ⟨sb, i, none⟩ = false
  v : Vo.VL w vb p T none
  ok : Vo.Ok p
  st : p.step < 4294967296
  wr : Vo.wr p = 0
  ne : sb ≠ vb
theorem GL.keep {w w' : World} {sb vb T : Nat} {p : Vo.Pt} {ev : Value} (h : GL w sb vb T p ev) (hs : w'.heap[sb]? = w.heap[sb]?) (hv : Vo.VL w' vb p T none) : GL w' sb vb T p ev := by
  have hc : ∀ i, w'.cell? ⟨sb, i, none⟩ = w.cell? ⟨sb, i, none⟩ := fun i => World.cell?_of_block (w := w) (w' := w') (a := ⟨sb, i, none⟩) hs
  exact ⟨(hc 0).trans h.c0, (hc 1).trans h.c1, (hc 2).trans h.p0, (hc 3).trans h.p1, (hc 4).trans h.p2, (hc 5).trans h.p3, (hc 6).trans h.p4, (hc 7).trans h.p5, (hc 8).trans h.p6, fun i => (World.frozen?_of_block (w := w) (w' := w') (a := ⟨sb, i, none⟩) hs).trans (h.fz i), hv, h.ok, h.st, h.wr, h.ne⟩
theorem GL.bel {w w' : World} {sb vb T : Nat} {p : Vo.Pt} {ev : Value} (h : GL w sb vb T p ev) (hb : Below w.heap.size w w') : GL w' sb vb T p ev := h.keep (hb.block sb (lt_cell h.c0)) (h.v.bel hb)
theorem ab_fi {x : Nat} (h : Fi x) : ab x = some x := by
  unfold ab
  have : nn x = false := by
    cases hc : nn x with
    | false => rfl
    | true => have h1 := nn_of x hc; have h2 := h.2; omega
  rw [this]; rfl
set_option maxRecDepth 8000 in
set_option maxHeartbeats 4000000 in
theorem gplay_any (hC : Vo.CirC) (s : Sx) (sb vb o n c M T : Nat) (ev : Value) (p : Vo.Pt) (f : Nat → Nat) (w : World) (hG : GL w sb vb T p ev) (hsA : sb ≠ s.A) (hvA : vb ≠ s.A) (hT : T + n ≤ 4611686018427387904)
    (hF : Fi.FR w s.A M f) (hf : ∀ j, f j < 18446744073709551616) (hfit : o + n ≤ M) (hn : n ≤ c) (hM : n ≤ 65536) :
    Calls Try.prog 102 #[.pointer (some ⟨sb, 0, none⟩), sv s, .slice (some ⟨s.A, o, none⟩) n c] w fun e w' => e = .returned (.tuple #[]) ∧ Pq w s.A M o n f (fun j => some (Vo.S p none (T + j))) (· = vb) w' ∧ GL w' sb vb (T + n) p ev := by
  have HB : Hid (Below w.heap.size w (w.alloc (Obj.cells #[.slice s.io s.il s.ic, .int .i64 s.t, .slice (some ⟨s.mb, 0, none⟩) s.N s.N] 82))) := (sbox s w).1
  have HF1 : Hid (Fi.FR (w.alloc (Obj.cells #[.slice s.io s.il s.ic, .int .i64 s.t, .slice (some ⟨s.mb, 0, none⟩) s.N s.N] 82)) s.A M f) := World.rowIs.alloc hF _
  have HG : Hid (GL (w.alloc (Obj.cells #[.slice s.io s.il s.ic, .int .i64 s.t, .slice (some ⟨s.mb, 0, none⟩) s.N s.N] 82)) sb vb T p ev) := hG.bel HB.out
  have c1 := HG.out.c1
  have ls := lt_cell c1
  have Hf : Hid (∀ j, f j < 18446744073709551616) := hf
  have hq1 := Vo.Render_any hC p hG.ok hG.st vb T none n (w.alloc (Obj.cells #[.slice s.io s.il s.ic, .int .i64 s.t, .slice (some ⟨s.mb, 0, none⟩) s.N s.N] 82)) HG.out.v hM hT
  clear hG hF hf hC
  go_enter Try.func102, Try.ntmps102
  go_wp2_with fail
  generalize (w.alloc (Obj.cells #[.slice s.io s.il s.ic, .int .i64 s.t, .slice (some ⟨s.mb, 0, none⟩) s.N s.N] 82)) = W1 at *
  refine hq1.mono ?_
  rintro e w2 hQ
  have hex := hQ.ex
  subst hex
  have HK : Hid (Kx (· = vb) W1 w2) := Kx.vn hQ.k
  have HR2 : Hid (Fi.FR w2 W1.heap.size n (fun i => Vo.S p none (T + i))) := hQ.fr
  have HV2 : Hid (Vo.VL w2 vb p (T + n) none) := hQ.v
  have HF2 : Hid (Fi.FR w2 s.A M f) := World.rowIs.of_block HF1.out (HK.out.block s.A (World.rowIs.lt HF1.out) (fun e => hvA e.symm))
  clear hQ hq1
  go_wp2_with (refine wpList_copy_fr rfl (.tmp 18) (.tmp 19) rfl _ _ _ _ _ _ rfl rfl s.A o M f HF2.out (seg (fun i => Vo.S p none (T + i)) 0 n) (by rw [seg_len]; show n = min n n; omega) ?c1 (by rw [seg_len]; exact hfit) ?c2)
  case c1 =>
    intro hpos
    first | exact ⟨rfl, W1.heap.size, 0, rfl, seg_cells HR2.out (by omega)⟩ | exact ⟨W1.heap.size, 0, rfl, seg_cells HR2.out (by omega)⟩ | exact ⟨W1.heap.size, 0, ⟨rfl, rfl⟩, seg_cells HR2.out (by omega)⟩ | trace_state
  case c2 =>
    intro w4 hF4 hK4 hz4
    have hfi : ∀ j, Fi (Vo.S p none (T + j)) := fun j => (Vo.S_ok p HG.out.ok none (T + j) (fun k hk => by cases hk)).1
    have HR : Hid (Pq w s.A M o n f (fun j => some (Vo.S p none (T + j))) (· = vb) w4 ∧ GL w4 sb vb (T + n) p ev) := by
      refine ⟨⟨⟨_, hF4.out, lay_lt Hf.out (seg_mem (fun j => (hfi j).1)), fun j hj => lay_out _ _ _ _ (by rw [seg_len]; exact hj), fun j hj => ?_⟩, ?_⟩, ?_⟩
      · rw [lay_in _ _ _ _ (by rw [seg_len]; exact hj), seg_getD hj, Nat.zero_add]
        exact ab_fi (hfi j)
      · exact ((Kx.bel HB.out).trans ((HK.out.mono (fun _ _ e => .inr e)).trans (hK4.mono (fun _ _ e => .inl e))))
      · have h2 : w2.heap[sb]? = W1.heap[sb]? := HK.out.block sb ls HG.out.ne
        have h4 : w4.heap[sb]? = w2.heap[sb]? := hK4.block sb (Nat.lt_of_lt_of_le ls HK.out.size) hsA
        have hG := HG.out
        exact ⟨(World.cell?_of_block (w := W1) (w' := w4) (a := ⟨sb, 0, none⟩) (h4.trans h2)).trans hG.c0, (World.cell?_of_block (w := W1) (w' := w4) (a := ⟨sb, 1, none⟩) (h4.trans h2)).trans hG.c1, (World.cell?_of_block (w := W1) (w' := w4) (a := ⟨sb, 2, none⟩) (h4.trans h2)).trans hG.p0, (World.cell?_of_block (w := W1) (w' := w4) (a := ⟨sb, 3, none⟩) (h4.trans h2)).trans hG.p1, (World.cell?_of_block (w := W1) (w' := w4) (a := ⟨sb, 4, none⟩) (h4.trans h2)).trans hG.p2, (World.cell?_of_block (w := W1) (w' := w4) (a := ⟨sb, 5, none⟩) (h4.trans h2)).trans hG.p3, (World.cell?_of_block (w := W1) (w' := w4) (a := ⟨sb, 6, none⟩) (h4.trans h2)).trans hG.p4, (World.cell?_of_block (w := W1) (w' := w4) (a := ⟨sb, 7, none⟩) (h4.trans h2)).trans hG.p5, (World.cell?_of_block (w := W1) (w' := w4) (a := ⟨sb, 8, none⟩) (h4.trans h2)).trans hG.p6, fun i => (World.frozen?_of_block (w := W1) (w' := w4) (a := ⟨sb, i, none⟩) (h4.trans h2)).trans (hG.fz i), HV2.out.keep (hK4.block vb HV2.out.lt hvA) hK4.size, hG.ok, hG.st, hG.wr, hG.ne⟩
    clear hF4 hK4 hfi
    go_wp2_with fail
    go_end0
    exact ⟨rfl, HR.out⟩
end Go.Proofs.Ytjpcebnbkdekkaa.Gh
