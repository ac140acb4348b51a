/- A writer of bits in memory; what its method bit comes to. -/
import Derived.Test.YtdlcnbfiklbiiaaCoRow
import Derived.BigRegion
import Derived.Laws.BitsLemmas
import Derived.Laws.OwnMore
namespace Go.Proofs.Ytdlcnbfiklbiiaa.Co
open Go.RowKit Go.Maps Go.Sort
set_option linter.unusedVariables false
set_option linter.unusedSimpArgs false

theorem ub {x : Int} (h0 : 0 ≤ x) (h1 : x ≤ 255) : IntKind.u8.wrap x = x := by
  rw [IntKind.wrap_u8]; omega
/-- A byte as a cell. -/
def bc (x : Nat) : Value := .int .u8 (x : Int)
/-- v is a row of one's own that holds these bytes. -/
def OB (w : World) (base : Nat) (v : Value) (xs : List Nat) : Prop := w.ownsRow base 5 1 v xs.length (xs.map bc)
theorem infoY : (Try.prog.info? 5).map (fun i => (i.zero, i.size, i.bytes)) = some (some (.int .u8 0), 1, 1) := by kernel_rfl
theorem own_pos {w : World} {base : Nat} {e : TypeId} {size : Nat} {v : Value} {n : Nat} {xs : List Value} (h : w.ownsRow base e size v (n + 1) xs) : ∃ g c, v = .slice (some ⟨g, 0, none⟩) (n + 1) c ∧ base ≤ g := by
  rcases h.2 with ⟨q1, q2⟩ | ⟨g, cap, cur, q1, q2, _⟩
  · cases q2
  · exact ⟨g, cap, q1, q2⟩
/-- How many bits of the last byte are free. -/
def fre (bs : List Nat) : Nat := (8 - bs.length % 8) % 8
/-- A writer at block p that holds these bits. -/
structure WB (w : World) (p : Nat) (bs : List Nat) : Prop where
  ex : ∃ v, w.cell? ⟨p, 0, none⟩ = some v ∧ OB w (p + 1) v (pk bs)
  c1 : w.cell? ⟨p, 1, none⟩ = some (.int .i64 (fre bs : Nat))
  f0 : w.frozen? ⟨p, 0, none⟩ = false
  f1 : w.frozen? ⟨p, 1, none⟩ = false
  bl : ∀ x ∈ bs, x < 2
def cv (w : World) (b o : Nat) : Value := (w.cell? ⟨b, o, none⟩).getD (.bool false)
theorem cv_is {w : World} {b o : Nat} {v : Value} (h : w.cell? ⟨b, o, none⟩ = some v) : cv w b o = v := by unfold cv; rw [h]; rfl
theorem lt_cell {w : World} {b o : Nat} {v : Value} (h : w.cell? ⟨b, o, none⟩ = some v) : b < w.heap.size := block_lt_of_cell h
/-- What a writer's method keeps: all but the writer and its row. -/
structure WK (p : Nat) (w w' : World) : Prop where
  bel : Below p w w'
  blk : ∀ b, b < w.heap.size → b ≠ p → some b ≠ (cv w p 0).ownBlock → w'.heap[b]? = w.heap[b]?
  own : (cv w' p 0).ownBlock = (cv w p 0).ownBlock ∨ ∃ k, (cv w' p 0).ownBlock = some k ∧ w.heap.size ≤ k
theorem WK.trans {p : Nat} {w w1 w2 : World} (h : WK p w w1) (h2 : WK p w1 w2) : WK p w w2 := by
  have z := h.bel.size
  refine ⟨h.bel.trans h2.bel, fun b hb h0 hne => ?_, ?_⟩
  · refine (h2.blk b (by omega) h0 ?_).trans (h.blk b hb h0 hne)
    rcases h.own with e | ⟨j, e, hj⟩
    · rw [e]; exact hne
    · rw [e]; intro q; cases q; omega
  · rcases h2.own with e | ⟨j, e, hj⟩
    · rw [e]; exact h.own
    · exact Or.inr ⟨j, e, by omega⟩
theorem WK.below {p : Nat} {w w' : World} (hb : Below w.heap.size w w') (hp : p < w.heap.size) : WK p w w' := by
  refine ⟨hb.mono (by omega), fun b h _ _ => hb.block b h, Or.inl ?_⟩
  unfold cv
  rw [World.cell?_of_block (w := w) (w' := w') (a := ⟨p, 0, none⟩) (hb.block p hp)]
theorem WK.refl (p : Nat) (w : World) (hp : p < w.heap.size) : WK p w w := WK.below (Below.refl _ _) hp
theorem WB.keep {w w' : World} {p : Nat} {bs : List Nat} (h : WB w p bs) (hb : Below w.heap.size w w') : WB w' p bs := by
  obtain ⟨v, h0, h1⟩ := h.ex
  have hp := lt_cell h0
  have e := hb.block p hp
  exact ⟨⟨v, (World.cell?_of_block (w := w) (w' := w') (a := ⟨p, 0, none⟩) e).trans h0, own_step h1 (fun k hk => hb.block k (own_lt h1 k hk))⟩,
    (World.cell?_of_block (w := w) (w' := w') (a := ⟨p, 1, none⟩) e).trans h.c1, (World.frozen?_of_block (w := w) (w' := w') (a := ⟨p, 0, none⟩) e).trans h.f0, (World.frozen?_of_block (w := w) (w' := w') (a := ⟨p, 1, none⟩) e).trans h.f1, h.bl⟩
theorem WB.lt {w : World} {p : Nat} {bs : List Nat} (h : WB w p bs) : p < w.heap.size := lt_cell h.c1
theorem or_add {y t s : Nat} (h1 : y % 2 ^ (s + 1) = 0) (h2 : t < 2 ^ (s + 1)) : y ||| t = y + t := by
  have h := Nat.two_pow_add_eq_or_of_lt h2 (y / 2 ^ (s + 1))
  have e : 2 ^ (s + 1) * (y / 2 ^ (s + 1)) = y := by
    have := Nat.div_add_mod y (2 ^ (s + 1)); omega
  rw [e] at h; exact h.symm
/-- What a bit makes of the last byte, as the program reckons. -/
theorem last_new (bs : List Nat) (b : Nat) (h : bs.length % 8 = 0) : pk (bs ++ [b]) = (pk bs ++ [0]).set ((pk bs).length) (0 + b * 2 ^ 7) := by
  rw [pk_new _ _ h, List.set_append_right _ _ (Nat.le_refl _)]; simp; omega
theorem or8 (y b s : Nat) (hs : s < 8) (hb : b < 2) (hy : y < 256) (hm : y % 2 ^ (s + 1) = 0) : bits .or .u8 (y : Int) (wrap64 ((b : Int) * 2 ^ s) % 256) = ((y + b * 2 ^ s : Nat) : Int) := by
  have hp : 2 ^ s < 256 := by
    have : s ≤ 7 := by omega
    calc 2 ^ s ≤ 2 ^ 7 := Nat.pow_le_pow_right (by omega) this
      _ < 256 := by decide
  have e1 : ((b : Int) * 2 ^ s) = ((b * 2 ^ s : Nat) : Int) := by push_cast; rfl
  have hbs : b * 2 ^ s ≤ 2 ^ s := by
    have : b ≤ 1 := by omega
    calc b * 2 ^ s ≤ 1 * 2 ^ s := Nat.mul_le_mul_right _ this
      _ = 2 ^ s := by omega
  have e2 : wrap64 ((b * 2 ^ s : Nat) : Int) % 256 = ((b * 2 ^ s : Nat) : Int) := by unfold wrap64; omega
  rw [e1, e2]
  have h := bits_nat .u8 8 (by decide) wraps_u8 y (b * 2 ^ s) (by omega) (by omega)
  have h2 : b * 2 ^ s < 2 ^ (s + 1) := by rw [Nat.pow_succ]; omega
  rw [← or_add hm h2]
  exact h.2
theorem WK.set1 {p : Nat} {w : World} (hp : p < w.heap.size) (x : Value) : WK p w (w.setCell ⟨p, 1, none⟩ x) := by
  refine ⟨(Below.refl p w).setCell (p := ⟨p, 1, none⟩) (Nat.le_refl _) _, fun b hb h0 _ => Below.heap_setCell _ _ _ _ (by show b ≠ p; exact h0), Or.inl ?_⟩
  unfold cv
  rw [World.cell?_setCell_other _ _ _ _ (by intro e; cases e)]
theorem WK.app {p : Nat} {w w0 w1 : World} {v v' x y : Value} {xs : List Nat} (h : w.cell? ⟨p, 0, none⟩ = some v) (ho : OB w (p + 1) v xs) (hb : Below w.heap.size w w0) (hg : Gw w0 w1 v v') : WK p w (((w1.setCell ⟨p, 0, none⟩ v').setCell ⟨p, 1, none⟩ x).setCell ⟨p, 1, none⟩ y) := by
  have hp := lt_cell h
  have z := hb.size
  have z1 := hg.gr.size
  have hB : Below p w w1 := (hb.mono (by omega)).trans (hg.bel (by omega) (fun k hk => by have := own_block ho k hk; omega))
  refine ⟨((hB.setCell (p := ⟨p, 0, none⟩) (Nat.le_refl _) _).setCell (p := ⟨p, 1, none⟩) (Nat.le_refl _) _).setCell (p := ⟨p, 1, none⟩) (Nat.le_refl _) _, fun b hb2 h0 hne => ?_, ?_⟩
  · rw [cv_is h] at hne
    rw [Below.heap_setCell _ _ _ _ (by show b ≠ p; exact h0), Below.heap_setCell _ _ _ _ (by show b ≠ p; exact h0), Below.heap_setCell _ _ _ _ (by show b ≠ p; exact h0), hg.gr.block b (by omega) hne, hb.block b hb2]
  · have hp1 : w1.heap[p]? = w.heap[p]? := (hg.gr.block p (by omega) (fun q => by have := own_block ho p q.symm; omega)).trans (hb.block p hp)
    have d0 := (World.cell?_of_block (w := w) (w' := w1) (a := ⟨p, 0, none⟩) hp1).trans h
    have e : (((w1.setCell ⟨p, 0, none⟩ v').setCell ⟨p, 1, none⟩ x).setCell ⟨p, 1, none⟩ y).cell? ⟨p, 0, none⟩ = some v' := by
      rw [World.cell?_setCell_other _ _ _ _ (by intro e; cases e), World.cell?_setCell_other _ _ _ _ (by intro e; cases e)]; exact World.cell?_setCell_same' _ _ _ (by rw [d0]; rfl)
    rw [cv_is e, cv_is h]
    exact hg.ob.imp id (fun ⟨k, h1, h2⟩ => ⟨k, h1, by omega⟩)
theorem WK.row {p : Nat} {w : World} {g N M c : Nat} (h : w.cell? ⟨p, 0, none⟩ = some (.slice (some ⟨g, 0, none⟩) M c)) (hg : p + 1 ≤ g) (x : Value) : WK p w ((w.setCell ⟨g, N, none⟩ x).drew) := by
  have hp := lt_cell h
  refine ⟨((Below.refl p w).setCell (p := ⟨g, N, none⟩) (by show p ≤ g; omega) _).drew, fun b hb h0 hne => ?_, Or.inl ?_⟩
  · have hbg : b ≠ g := fun e => hne (by rw [cv_is h, e]; rfl)
    exact Below.heap_setCell _ _ _ _ (by show b ≠ g; exact hbg)
  · have e : (w.setCell ⟨g, N, none⟩ x).drew.cell? ⟨p, 0, none⟩ = some (.slice (some ⟨g, 0, none⟩) M c) := by
      show (w.setCell ⟨g, N, none⟩ x).cell? ⟨p, 0, none⟩ = _
      rw [World.cell?_setCell_other _ _ _ _ (fun e => by have := congrArg Addr.block e; simp at this; omega)]; exact h
    rw [cv_is e, cv_is h]
theorem bit_end {p b g N vc s y : Nat} {bs ys : List Nat} {w W : World} (d0 : W.cell? ⟨p, 0, none⟩ = some (.slice (some ⟨g, 0, none⟩) (N + 1) vc)) (d1 : W.cell? ⟨p, 1, none⟩ = some (.int .i64 (s : Int))) (f0 : W.frozen? ⟨p, 0, none⟩ = false) (f1 : W.frozen? ⟨p, 1, none⟩ = false)
    (ho : W.ownsRow (p + 1) 5 1 (.slice (some ⟨g, 0, none⟩) (N + 1) vc) (N + 1) (ys.map bc)) (hN : ys.length = N + 1) (hg : p + 1 ≤ g) (hb : b < 2) (hbs : ∀ x ∈ bs, x < 2) (hpk : pk (bs ++ [b]) = ys.set N (y + b * 2 ^ s)) (hs : fre (bs ++ [b]) = s) (hK : WK p w W) :
    WB ((W.setCell ⟨g, N, none⟩ (.int .u8 ((y + b * 2 ^ s : Nat) : Int))).drew) p (bs ++ [b]) ∧ WK p w ((W.setCell ⟨g, N, none⟩ (.int .u8 ((y + b * 2 ^ s : Nat) : Int))).drew) := by
  refine ⟨⟨⟨.slice (some ⟨g, 0, none⟩) (N + 1) vc, ?_, ?_⟩, ?_, (by rw [show (W.setCell ⟨g, N, none⟩ (.int .u8 ((y + b * 2 ^ s : Nat) : Int))).drew.frozen? ⟨p, 0, none⟩ = (W.setCell ⟨g, N, none⟩ (.int .u8 ((y + b * 2 ^ s : Nat) : Int))).frozen? ⟨p, 0, none⟩ from rfl, World.frozen?_setCell]; exact f0), (by rw [show (W.setCell ⟨g, N, none⟩ (.int .u8 ((y + b * 2 ^ s : Nat) : Int))).drew.frozen? ⟨p, 1, none⟩ = (W.setCell ⟨g, N, none⟩ (.int .u8 ((y + b * 2 ^ s : Nat) : Int))).frozen? ⟨p, 1, none⟩ from rfl, World.frozen?_setCell]; exact f1), ?_⟩, hK.trans (WK.row d0 hg _)⟩
  · show (W.setCell ⟨g, N, none⟩ _).cell? ⟨p, 0, none⟩ = _
    rw [World.cell?_setCell_other _ _ _ _ (fun e => by have := congrArg Addr.block e; simp at this; omega)]; exact d0
  · unfold OB
    rw [hpk, List.length_set, hN, List.map_set]
    have h := (World.ownsRow.stored ho N (.int .u8 ((y + b * 2 ^ s : Nat) : Int))).1
    exact own_step h (fun _ _ => rfl)
  · show (W.setCell ⟨g, N, none⟩ _).cell? ⟨p, 1, none⟩ = _
    rw [World.cell?_setCell_other _ _ _ _ (fun e => by have := congrArg Addr.block e; simp at this; omega), hs]; exact d1
  · intro x hx
    rcases List.mem_append.1 hx with h | h
    · exact hbs x h
    · simp at h; omega
set_option maxRecDepth 8000 in
set_option maxHeartbeats 4000000 in
theorem bit_any (p b : Nat) (bs : List Nat) (w : World) (hW : WB w p bs) (hb : b < 2) (hl : bs.length ≤ 1099511627776) :
    Calls Try.prog 53 #[.pointer (some ⟨p, 0, none⟩), .int .i64 (b : Int)] w fun e w' => e = .returned (.tuple #[]) ∧ WB w' p (bs ++ [b]) ∧ WK p w w' := by
  have HW : Hid (WB w p bs) := hW
  obtain ⟨v, h0, h1⟩ := hW.ex
  have c1 := hW.c1
  have f0 := hW.f0
  have f1 := hW.f1
  have lp := hW.lt
  clear hW
  obtain ⟨va, vc, rfl, v1, v2⟩ := own_form h1
  go_enter Try.func53, Try.ntmps53
  by_cases hm : bs.length % 8 = 0
  · have e0 : ((fre bs : Nat) : Int) = 0 := by unfold fre; omega
    rw [e0] at c1
    have hb1 : Below w.heap.size w (w.alloc (.cells #[.int .u8 0] 5)) := (Below.refl _ _).alloc (Nat.le_refl _) _
    go_wp2_with ((at_builtin; refine wpList_append_1 61 5 (.int .u8 0) 1 Try.underlying61 infoY rfl rfl (.tmp 13) (.tmp 14) rfl (p + 1) _ _ _ rfl (own_step h1 (fun j hj => hb1.block j (own_lt h1 j hj))) w.heap.size (.int .u8 0) rfl (by simp [go_sem]) rfl (by rw [pk_len]; omega) (by rw [pk_len]; omega) (by simp; omega) ?_; intro v' w1 k1 k2; have hnn : ∃ g c', v' = .slice (some ⟨g, 0, none⟩) ((pk bs).length + 1) c' ∧ p + 1 ≤ g := own_pos k1; obtain ⟨g, vc', rfl, hg⟩ := hnn; have T1 : Hid _ := k1; have T2 : Hid _ := k2; have hp1 : w1.heap[p]? = w.heap[p]? := (k2.gr.block p (by simp; omega) (fun q => by have := own_block h1 p q.symm; omega)).trans (hb1.block p lp); have d1 := (World.cell?_of_block (w := w) (w' := w1) (a := ⟨p, 1, none⟩) hp1).trans c1; have d0 := (World.cell?_of_block (w := w) (w' := w1) (a := ⟨p, 0, none⟩) hp1).trans h0; have g0 := (World.frozen?_of_block (w := w) (w' := w1) (a := ⟨p, 0, none⟩) hp1).trans f0; have g1 := (World.frozen?_of_block (w := w) (w' := w1) (a := ⟨p, 1, none⟩) hp1).trans f1; have lp1 := lt_cell d1; have cy : w1.cell? ⟨g, (pk bs).length, none⟩ = some (.int .u8 0) := (by rw [World.ownsRow.cellAt k1 (pk bs).length (by omega), List.getElem?_append_right (by simp)]; (first | done | simp)); have cf : w1.frozen? ⟨g, (pk bs).length, none⟩ = false := World.ownsRow.frozenAt k1 _; have lg : g < w1.heap.size := lt_cell cy; have h0' : Hid (w.cell? ⟨p, 0, none⟩ = some (.slice va (pk bs).length vc)) := h0; have h1' : Hid (OB w (p + 1) (.slice va (pk bs).length vc) (pk bs)) := h1; have HB1 : Hid (Below w.heap.size w (w.alloc (.cells #[.int .u8 0] 5))) := hb1; clear k1 k2 h0 c1 f0 f1 h1 hb1))
    obtain ⟨W, hW⟩ : ∃ W, W = ((w1.setCell ⟨p, 0, none⟩ (.slice (some ⟨g, 0, none⟩) ((pk bs).length + 1) vc')).setCell ⟨p, 1, none⟩ (.int .i64 8)).setCell ⟨p, 1, none⟩ (.int .i64 7) := ⟨_, rfl⟩
    have e0' : W.cell? ⟨p, 0, none⟩ = some (.slice (some ⟨g, 0, none⟩) ((pk bs).length + 1) vc') := by
      rw [hW, World.cell?_setCell_other _ _ _ _ (by intro e; cases e), World.cell?_setCell_other _ _ _ _ (by intro e; cases e)]; exact World.cell?_setCell_same' _ _ _ (by rw [d0]; rfl)
    have e1' : W.cell? ⟨p, 1, none⟩ = some (.int .i64 7) := by
      rw [hW]; refine World.cell?_setCell_same' _ _ _ ?_
      rw [World.cell?_setCell_same' _ _ _ (by rw [World.cell?_setCell_other _ _ _ _ (by intro e; cases e), d1]; rfl)]; rfl
    have dy : W.cell? ⟨g, (pk bs).length, none⟩ = some (.int .u8 0) := by rw [hW, World.cell?_setCell_other _ _ _ _ (fun e => by have := congrArg Addr.block e; simp at this; omega), World.cell?_setCell_other _ _ _ _ (fun e => by have := congrArg Addr.block e; simp at this; omega), World.cell?_setCell_other _ _ _ _ (fun e => by have := congrArg Addr.block e; simp at this; omega)]; exact cy
    have df : W.frozen? ⟨g, (pk bs).length, none⟩ = false := by rw [hW, World.frozen?_setCell, World.frozen?_setCell, World.frozen?_setCell]; exact cf
    have lW : g < W.heap.size := by rw [hW]; simpa [World.setCell] using lg
    have lp2 : p < W.heap.size := by rw [hW]; simpa [World.setCell] using lp1
    have q0 : W.frozen? ⟨p, 0, none⟩ = false := by rw [hW, World.frozen?_setCell, World.frozen?_setCell, World.frozen?_setCell]; exact g0
    have q1 : W.frozen? ⟨p, 1, none⟩ = false := by rw [hW, World.frozen?_setCell, World.frozen?_setCell, World.frozen?_setCell]; exact g1
    rw [← hW]
    have HWW : Hid (W = ((w1.setCell ⟨p, 0, none⟩ (.slice (some ⟨g, 0, none⟩) ((pk bs).length + 1) vc')).setCell ⟨p, 1, none⟩ (.int .i64 8)).setCell ⟨p, 1, none⟩ (.int .i64 7)) := hW
    have HM : Hid (bs.length % 8 = 0) := hm
    have HE0 : Hid (((fre bs : Nat) : Int) = 0) := e0
    have hNb : (pk bs).length ≤ 1099511627776 := by rw [pk_len]; omega
    clear hW cy cf lg d0 d1 g0 g1 hm e0 hl lp lp1 hp1
    go_region
    have hbs := HW.out.bl
    have e8 : bits .or .u8 0 ((b : Int) * 128) = ((0 + b * 2 ^ 7 : Nat) : Int) := by
      have e2 : ((b : Int) * 128) = ((b * 128 : Nat) : Int) := by push_cast; rfl
      have h := (bits_nat .u8 8 (by decide) wraps_u8 0 (b * 128) (by omega) (by omega)).2
      rw [e2]
      refine h.trans ?_
      rw [Nat.zero_or]; simp
    rw [e8]
    have HE := bit_end (w := w) (b := b) (bs := bs) (y := 0) (ys := pk bs ++ [0]) (N := (pk bs).length) (s := 7) e0' e1' q0 q1
      (by
        have e : (pk bs ++ [0]).map bc = (pk bs).map bc ++ [.int .u8 0] := by rw [List.map_append]; rfl
        rw [e, HWW.out]
        refine own_step T1.out (fun k hk => ?_)
        cases hk
        rw [Below.heap_setCell _ _ _ _ (by show g ≠ p; omega), Below.heap_setCell _ _ _ _ (by show g ≠ p; omega), Below.heap_setCell _ _ _ _ (by show g ≠ p; omega)]) (by simp) hg hb hbs (last_new bs b HM.out) (by have h2 := HM.out; show (8 - (bs ++ [b]).length % 8) % 8 = 7; rw [List.length_append]; show (8 - (bs.length + 1) % 8) % 8 = 7; omega) (by rw [HWW.out]; exact WK.app h0'.out h1'.out HB1.out T2.out)
    go_end0
    exact ⟨rfl, HE⟩
  · have e0 : ((fre bs : Nat) : Int) ≠ 0 := by unfold fre; omega
    generalize hF : fre bs = F at *
    have hne : (((F : Int) == 0) = true) = False := by simp; omega
    have HFv : Hid (F = 8 - bs.length % 8) := by show _ = _; rw [← hF]; unfold fre; omega
    obtain ⟨s, hs⟩ : ∃ s, F = s + 1 := ⟨F - 1, by omega⟩
    subst hs
    have w1 : IntKind.i64.wrap (((s + 1 : Nat) : Int) - 1) = (s : Int) := by have := HFv.out; rw [wid (by omega) (by omega)]; omega
    have hs7 : s < 8 := by have := HFv.out; omega
    have hN : (pk bs).length = bs.length / 8 + 1 := by rw [pk_len]; omega
    have hL := pk_get bs (bs.length / 8) (by omega)
    obtain ⟨y, hy⟩ : ∃ y, y = b8 (bs.drop (8 * (bs.length / 8))) := ⟨_, rfl⟩
    have HY : Hid (y = b8 (bs.drop (8 * (bs.length / 8)))) := hy
    rw [← hy] at hL
    obtain ⟨N, hNN⟩ : ∃ N, N = bs.length / 8 := ⟨_, rfl⟩
    have HM : Hid (bs.length % 8 ≠ 0) := hm
    have HN : Hid (N = bs.length / 8 ∧ (pk bs).length = N + 1) := ⟨hNN, by omega⟩
    rw [← hNN] at hN hL
    have hOB : OB w (p + 1) (Value.slice va (pk bs).length vc) (pk bs) := h1
    have HL : Hid ((pk bs)[N]? = some y) := hL
    have HF : Hid (fre bs = s + 1) := hF
    unfold OB at h1
    rw [hN] at h0 v1 h1
    have hgo : ∃ g, va = some ⟨g, 0, none⟩ ∧ p + 1 ≤ g := by
      rcases h1.2 with ⟨q1, q2⟩ | ⟨g, cap, cur, q1, q2, _⟩
      · cases q2
      · cases q1; exact ⟨g, rfl, q2⟩
    obtain ⟨g, rfl, hg⟩ := hgo
    have cy : w.cell? ⟨g, N, none⟩ = some (bc y) := by
      rw [World.ownsRow.cellAt h1 N (by omega), List.getElem?_map, HL.out]; rfl
    have cf : w.frozen? ⟨g, N, none⟩ = false := World.ownsRow.frozenAt h1 N
    have lg := lt_cell cy
    unfold bc at cy
    clear hNN hy hL hN hF e0 hm
    go_wp2_with (simp only [w1])
    obtain ⟨W, hW⟩ : ∃ W, W = w.setCell ⟨p, 1, none⟩ (.int .i64 (s : Int)) := ⟨_, rfl⟩
    have d0 : W.cell? ⟨p, 0, none⟩ = some (.slice (some ⟨g, 0, none⟩) (N + 1) vc) := by rw [hW]; simp [go_sem, h0]
    have d1 : W.cell? ⟨p, 1, none⟩ = some (.int .i64 (s : Int)) := by rw [hW]; exact World.cell?_setCell_same' _ _ _ (by rw [c1]; rfl)
    have dy : W.cell? ⟨g, N, none⟩ = some (.int .u8 (y : Int)) := by rw [hW, World.cell?_setCell_other _ _ _ _ (fun e => by have := congrArg Addr.block e; simp at this; omega)]; exact cy
    have df : W.frozen? ⟨g, N, none⟩ = false := by rw [hW, World.frozen?_setCell]; exact cf
    have lW : g < W.heap.size := by rw [hW]; simpa [World.setCell] using lg
    have lp2 : p < W.heap.size := by rw [hW]; simpa [World.setCell] using lp
    rw [← hW]
    clear h0 c1 cy cf lg lp w1
    have w2 : IntKind.i64.wrap ((N + 1 : Nat) : Int) = ((N + 1 : Nat) : Int) := by have := HN.out; have := pk_len bs; exact wid (by omega) (by omega)
    have hNb : N ≤ 1099511627776 := by have := HN.out.1; omega
    have HWW : Hid (W = w.setCell ⟨p, 1, none⟩ (.int .i64 (s : Int))) := hW
    clear hW hl
    go_region
    have hbs := HW.out.bl
    have e8 : bits .or .u8 (y : Int) (wrap64 ((b : Int) * 2 ^ s) % 256) = ((y + b * 2 ^ s : Nat) : Int) := by
      have h1 := HN.out; have h2 := HFv.out; have h3 := HY.out
      refine or8 y b s hs7 hb (by rw [h3]; exact b8_lt _ (fun x hx => hbs x (List.mem_of_mem_drop hx))) ?_
      have h4 := b8_mod (bs.drop (8 * (bs.length / 8))) (by rw [List.length_drop]; omega)
      rw [List.length_drop, ← h3, show 8 - (bs.length - 8 * (bs.length / 8)) = s + 1 by omega] at h4
      exact h4
    rw [e8]
    have HE := bit_end (w := w) (b := b) (bs := bs) (y := y) (ys := pk bs) d0 d1 (by rw [HWW.out, World.frozen?_setCell]; exact f0) (by rw [HWW.out, World.frozen?_setCell]; exact f1)
      (by rw [HWW.out]; exact own_step h1 (fun k hk => by cases hk; exact Below.heap_setCell _ _ _ _ (by show g ≠ p; omega))) HN.out.2 hg hb hbs
      (by have h1 := HN.out; have h2 := HFv.out; have h3 := HY.out; have h4 := pk_more bs b HM.out; rw [← h1.1] at h4; rw [h4, h3, h1.1, show 7 - bs.length % 8 = s by omega]) (by have h1 := HN.out; have h2 := HFv.out; show (8 - (bs ++ [b]).length % 8) % 8 = s; rw [List.length_append]; show (8 - (bs.length + 1) % 8) % 8 = s; omega) (by rw [HWW.out]; exact WK.set1 (by have := HW.out.lt; exact this) _)
    go_end0
    exact ⟨rfl, HE⟩
end Go.Proofs.Ytdlcnbfiklbiiaa.Co
