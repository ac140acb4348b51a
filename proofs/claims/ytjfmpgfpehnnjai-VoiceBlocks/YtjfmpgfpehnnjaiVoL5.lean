/- VoiceBlocks: the law's text, walked. -/
import Derived.Test.YtjfmpgfpehnnjaiVo15
import Derived.Test.YtjfmpgfpehnnjaiRFloat
import Derived.Deep.RegionLaw
namespace Go.Proofs.Ytjfmpgfpehnnjai.Vo
open Go.RowKit Go.Maps Go.Sort
set_option linter.unusedSimpArgs false
set_option linter.unusedVariables false

def ints (l : List Int) : List Value := l.map fun x => .int .i64 x
/-- While the pieces are gathered: both sums, the two lists, the pieces. -/
structure BI (w1 ww : World) (u0 u1 : Value) (a0 a1 : Nat) (v : Value) (P : List Int) : Prop where
  own : ww.ownsRow (w1.heap.size + 2) 3 1 v P.length (ints P)
  c0 : ww.cell? ⟨w1.heap.size, 0, none⟩ = some (.int .i64 a0)
  c1 : ww.cell? ⟨w1.heap.size, 1, none⟩ = some (.int .i64 a1)
  f : ∀ i, ww.frozen? ⟨w1.heap.size, i, none⟩ = false
  d0 : ww.cell? ⟨w1.heap.size + 1, 0, none⟩ = some u0
  d1 : ww.cell? ⟨w1.heap.size + 1, 1, none⟩ = some u1
  b : Below w1.heap.size w1 ww
  z : w1.heap.size + 2 ≤ ww.heap.size
theorem BI.set {w1 ww : World} {u0 u1 : Value} {a0 a1 : Nat} {v : Value} {P : List Int} (h : BI w1 ww u0 u1 a0 a1 v P) (k x : Nat) (y : Int) (hy : y = x) (hk : k < 2) : BI w1 (ww.setCell ⟨w1.heap.size, k, none⟩ (.int .i64 y)) u0 u1 (if k = 0 then x else a0) (if k = 1 then x else a1) v P := by
  subst hy
  have hne : ∀ o, (ww.setCell ⟨w1.heap.size, k, none⟩ (.int .i64 x)).cell? ⟨w1.heap.size + 1, o, none⟩ = ww.cell? ⟨w1.heap.size + 1, o, none⟩ := fun o => World.cell?_setCell_other _ _ _ _ (fun e => by have := congrArg Addr.block e; simp at this)
  refine ⟨own_step h.own (fun j hj => Below.heap_setCell _ _ _ _ (by have := own_block h.own j hj; show j ≠ w1.heap.size; omega)), ?_, ?_, fun i => (World.frozen?_setCell _ _ _ _).trans (h.f i), (hne 0).trans h.d0, (hne 1).trans h.d1, h.b.setCell (p := ⟨w1.heap.size, k, none⟩) (Nat.le_refl _) _, by simpa [World.setCell] using h.z⟩
  · by_cases c : k = 0
    · subst c; rw [if_pos rfl]; exact World.cell?_setCell_same _ _ _ h.c0
    · rw [if_neg c, oth _ c]; exact h.c0
  · by_cases c : k = 1
    · subst c; rw [if_pos rfl]; exact World.cell?_setCell_same _ _ _ h.c1
    · rw [if_neg c, oth _ c]; exact h.c1
theorem BI.app {w1 ww w4 : World} {u0 u1 : Value} {a0 a1 : Nat} {v v' : Value} {P : List Int} {x : Int} (h : BI w1 ww u0 u1 a0 a1 v P) (o : Obj) (g : Gw (ww.alloc o) w4 v v') (hr : w4.ownsRow (w1.heap.size + 2) 3 1 v' (P.length + 1) (ints P ++ [.int .i64 x])) : BI w1 w4 u0 u1 a0 a1 v' (P ++ [x]) := by
  have hb : Below ww.heap.size ww (ww.alloc o) := (Below.refl _ _).alloc (Nat.le_refl _) _
  have hz := h.z
  have z4 := g.gr.size
  simp at z4
  have hk : ∀ j, j < w1.heap.size + 2 → w4.heap[j]? = ww.heap[j]? := fun j hj => by
    rw [g.gr.block j (by simp; omega) (fun q => by have := own_block h.own j q.symm; omega), hb.block j (by omega)]
  refine ⟨?_, (World.cell?_of_block (w := ww) (w' := w4) (a := ⟨w1.heap.size, 0, none⟩) (hk w1.heap.size (by omega))).trans h.c0, (World.cell?_of_block (w := ww) (w' := w4) (a := ⟨w1.heap.size, 1, none⟩) (hk w1.heap.size (by omega))).trans h.c1, fun i => (World.frozen?_of_block (w := ww) (w' := w4) (a := ⟨w1.heap.size, i, none⟩) (hk w1.heap.size (by omega))).trans (h.f i), (World.cell?_of_block (w := ww) (w' := w4) (a := ⟨w1.heap.size + 1, 0, none⟩) (hk (w1.heap.size + 1) (by omega))).trans h.d0, (World.cell?_of_block (w := ww) (w' := w4) (a := ⟨w1.heap.size + 1, 1, none⟩) (hk (w1.heap.size + 1) (by omega))).trans h.d1, h.b.trans (Below.trans (hb.mono (by omega)) (g.bel (by simp; omega) (fun j hj => by have := own_block h.own j hj; omega))), by omega⟩
  have e : (P ++ [x]).length = P.length + 1 := by simp
  rw [e]
  unfold ints at hr ⊢
  rw [List.map_append]; exact hr
def Good (l : List Int) : Prop := Gd l ∧ (l = [] ∨ l.length ≤ 60)
theorem Gd.take {l : List Int} {i : Nat} (h : Gd (l.take i)) {x : Int} (hx : l[i]? = some x) (h1 : 1 ≤ x) (h2 : x ≤ 1000) : Gd (l.take (i + 1)) ∧ l.take (i + 1) = l.take i ++ [x] := by
  have hi : i < l.length := (List.getElem?_eq_some_iff.1 hx).1
  have e : l.take (i + 1) = l.take i ++ [x] := by
    rw [take_snoc l i hi, List.getD_eq_getElem?_getD, hx]; rfl
  refine ⟨?_, e⟩
  rw [e]
  intro y hy
  rcases List.mem_append.1 hy with c | c
  · exact h y c
  · simp at c; subst c; exact ⟨h1, h2⟩
theorem cat_take (R : List Rw) (k : Nat) (r : Rw) (h : R[k]? = some r) {N : Nat} (hN : (cat R).length = N) : cat (R.take (k + 1)) = cat (R.take k) ++ rcat r ∧ (cat (R.take k)).length + r.m ≤ N := by
  have e : R.take (k + 1) = R.take k ++ [r] := by rw [List.take_add_one, h]; rfl
  have e2 : cat (R.take (k + 1)) = cat (R.take k) ++ rcat r := by
    rw [e, cat_app]; show _ ++ (rcat r ++ []) = _; rw [List.append_nil]
  refine ⟨e2, ?_⟩
  have e3 : cat R = cat (R.take (k + 1)) ++ cat (R.drop (k + 1)) := by rw [← cat_app, List.take_append_drop]
  rw [← hN, e3, e2, List.length_append, List.length_append, show (rcat r).length = r.m by unfold rcat; simp]
  omega
theorem take_len {l : List Int} {i : Nat} (h : i ≤ l.length) : (l.take i).length = i := by simp; omega
set_option maxRecDepth 4000 in
set_option maxHeartbeats 16000000 in
theorem blocks_walk (p : Pt) (hg : p.gain < 18446744073709551616) (hst : p.step < 4294967296) (l1 : List Int) (ao1 : Option Addr) (c1 : Nat) (l2 : List Int) (ao2 : Option Addr) (c2 : Nat) (w : World) (hL1 : NL w ao1 l1) (hn1 : l1.length ≤ c1) (hc1 : c1 ≤ 9223372036854775807) (hL2 : NL w ao2 l2) (hn2 : l2.length ≤ c2) (hc2 : c2 ≤ 9223372036854775807) :
    Calls Try.prog 3 #[pv p, .slice ao1 l1.length c1, .slice ao2 l2.length c2] w fun e w' => e = .returned (.bool true) ∧ Below w.heap.size w w' := by
  have hbA : Below w.heap.size w (w.alloc (Obj.cells #[.int .i64 p.shape, .int .u32 p.step, .float .f64 p.gain, .int .i64 p.atk, .int .i64 p.dec, .int .i64 p.rel, .int .i64 p.sus] 25)) := (Below.refl _ _).alloc (Nat.le_refl _) _
  have HL1 : Hid (NL w ao1 l1) := hL1
  have HL2 : Hid (NL w ao2 l2) := hL2
  clear hL1 hL2
  go_enter Try.func3, Try.ntmps3
  go_wp2_with fail
  refine (alive_any _).mono ?_
  rintro e w1 ⟨rfl, hb1⟩
  have hb01 : Below w.heap.size w w1 := hbA.trans (hb1.mono (by simp))
  have z1 : w.heap.size < w1.heap.size := by have := hb1.size; simp at this; omega
  have HP1 : Hid (PB w1 w.heap.size p) := ⟨keepC hb1 (by simp) (by simp [go_sem]), keepC hb1 (by simp) (by simp [go_sem]), keepC hb1 (by simp) (by simp [go_sem]), keepC hb1 (by simp) (by simp [go_sem]), keepC hb1 (by simp) (by simp [go_sem]), keepC hb1 (by simp) (by simp [go_sem]), keepC hb1 (by simp) (by simp [go_sem]), z1⟩
  clear hb1 hbA
  have HI0 : Hid (BI w1 ((w1.alloc (Obj.cells #[.int .i64 0, .int .i64 0] 3)).alloc (Obj.cells #[.slice ao1 l1.length c1, .slice ao2 l2.length c2] 26)) (.slice ao1 l1.length c1) (.slice ao2 l2.length c2) 0 0 (.slice none 0 0) []) := ⟨World.ownsRow_nil _ _ _ _, by simp [go_sem], by simp [go_sem], fun i => by simp [go_sem], by simp [go_sem], by simp [go_sem], ((Below.refl _ w1).alloc (Nat.le_refl _) _).alloc (by simp) _, by simp⟩
  go_wp2_with fail
  generalize (w1.alloc (Obj.cells #[.int .i64 0, .int .i64 0] 3)).alloc (Obj.cells #[.slice ao1 l1.length c1, .slice ao2 l2.length c2] 26) = WB at *
  go_loopw [32, 7] (fun i v ww => ∃ k : Nat, k ≤ 2 ∧ i = .int .i64 k ∧ Hid (k = 0 → BI w1 ww (.slice ao1 l1.length c1) (.slice ao2 l2.length c2) 0 0 v []) ∧ Hid (k = 1 → BI w1 ww (.slice ao1 l1.length c1) (.slice ao2 l2.length c2) (sumN l1) 0 v l1 ∧ Good l1) ∧ Hid (k = 2 → BI w1 ww (.slice ao1 l1.length c1) (.slice ao2 l2.length c2) (sumN l1) (sumN l2) v (l1 ++ ng1 l2) ∧ Good l1 ∧ Good l2)) (fun i _ _ => 2 - (intOf i).toNat)
  case atStart => exact ⟨0, by omega, rfl, fun _ => HI0.out, fun h => absurd h (by decide), fun h => absurd h (by decide)⟩
  case round =>
    clear HI0
    obtain ⟨k, hk, rfl, hI0, hI1, hI2⟩ := hrel
    rcases (show k = 0 ∨ k = 1 ∨ k = 2 by omega) with rfl | rfl | rfl
    · have hI := hI0.out rfl
      have d0 := hI.d0
      have zz := hI.z
      have zz' : w1.heap.size + 1 < wr.heap.size := by omega
      clear hI0 hI1 hI2
      rw [show ((0 : Nat) : Int) = 0 from rfl]
      go_wp2_with fail
      go_loopw [39, 7] (fun i v ww => ∃ j : Nat, j ≤ l1.length ∧ i = .int .i64 j ∧ Hid (BI w1 ww (.slice ao1 l1.length c1) (.slice ao2 l2.length c2) (sumN (l1.take j)) 0 v (l1.take j)) ∧ Hid (Gd (l1.take j) ∧ (j = 0 ∨ l1.length ≤ 60))) (fun i _ _ => l1.length - (intOf i).toNat)
      case atStart => exact ⟨0, by omega, rfl, hI, ⟨fun x hx => absurd hx (by simp), Or.inl rfl⟩⟩
      case round =>
        clear hI
        obtain ⟨j, hj, rfl, hI, hG⟩ := hrel
        have hbw : Below w.heap.size w wr := hb01.trans (hI.out.b.mono (by omega))
        by_cases hlt : j < l1.length
        · obtain ⟨x, hx⟩ : ∃ x, l1[j]? = some x := ⟨_, List.getElem?_eq_getElem hlt⟩
          obtain ⟨nb, of, hao, hnb, q0⟩ := (HL1.out.bel hbw).at' (by omega)
          obtain ⟨r0, r1, r2⟩ := q0 j x hx
          have HX : Hid (l1[j]? = some x) := hx
          have hlt' : (j : Int) < (l1.length : Int) := by omega
          have zb : nb < wr.heap.size := hnb
          clear q0 hx hnb
          subst hao
          by_cases h1 : x < 1
          · clear hI hG
            go_wp2_with fail
            go_ret
            exact ⟨rfl, hbw⟩
          by_cases h2 : 1000 < x
          · clear hI hG
            go_wp2_with fail
            go_ret
            exact ⟨rfl, hbw⟩
          by_cases h3 : 60 < l1.length
          · have h3' : (60 : Int) < (l1.length : Int) := by omega
            clear hI hG
            go_wp2_with fail
            go_ret
            exact ⟨rfl, hbw⟩
          have h3' : ¬ (60 : Int) < (l1.length : Int) := by omega
          obtain ⟨X, hX⟩ : ∃ X : Nat, x = X := ⟨x.toNat, by omega⟩
          have hX1 : 1 ≤ X := by omega
          have hX2 : X ≤ 1000 := by omega
          have HT : Hid (Gd (l1.take (j + 1)) ∧ l1.take (j + 1) = l1.take j ++ [x]) := hG.out.1.take HX.out (by omega) (by omega)
          have hsb := sumN_bd _ hG.out.1
          rw [take_len (by omega)] at hsb
          have HSu : Hid (sumN (l1.take (j + 1)) = sumN (l1.take j) + X) := by
            rw [HT.out.2, sumN_app]
            show _ + (x.toNat + 0) = _
            omega
          have cA := hI.out.c0
          have fA := hI.out.f 0
          have zA := hI.out.z
          have zA' : w1.heap.size < wr.heap.size := by omega
          have w3 : IntKind.i64.wrap ((j : Int) + 1) = (j : Int) + 1 := wid (by omega) (by omega)
          have HI2 : Hid (BI w1 (wr.setCell ⟨w1.heap.size, 0, none⟩ (.int .i64 (((sumN (l1.take j) : Nat) : Int) + x))) (.slice (some ⟨nb, of, none⟩) l1.length c1) (.slice ao2 l2.length c2) (if 0 = 0 then sumN (l1.take j) + X else sumN (l1.take j)) (if 0 = 1 then sumN (l1.take j) + X else 0) u7 (l1.take j)) := hI.out.set 0 (sumN (l1.take j) + X) _ (by omega) (by omega)
          have hPl : (l1.take j).length ≤ 200 := by rw [take_len (by omega)]; omega
          clear hG
          subst hX
          obtain ⟨va, vc, rfl, hv1, hv2⟩ := own_form hI.out.own
          have HPL : Hid ((l1.take j).length ≤ 200) := hPl
          clear hPl hI HX
          go_upto_region 16 with fail
          generalize wr.setCell ⟨w1.heap.size, 0, none⟩ (.int .i64 (((sumN (l1.take j) : Nat) : Int) + (X : Int))) = W5 at *
          have hbC : Below W5.heap.size W5 (W5.alloc (Obj.cells #[.int .i64 ((X : Int))] 3)) := (Below.refl _ _).alloc (Nat.le_refl _) _
          have HLo : Hid (∀ q, (Value.slice va (l1.take j).length vc).ownBlock = some q → q < W5.heap.size) := own_lt HI2.out.own
          have z5 := HI2.out.z
          go_wp2_with (at_builtin; refine wpList_append_1 26 3 (.int .i64 0) 8 Try.underlying26 infoI rfl (by omega) rfl (.tmp 72) (.tmp 74) rfl (w1.heap.size + 2) _ (l1.take j).length (ints (l1.take j)) rfl (own_step HI2.out.own (fun q hq => hbC.block q (HLo.out q hq))) W5.heap.size (.int .i64 ((X : Int))) rfl (by simp [go_sem]) rfl (by have := HPL.out; omega) (by simp; omega) ?a7)
          case a7 =>
            intro v' w6 o6 g6
            have hle : (l1.take j).length = j := take_len (by omega)
            have HN : Hid (BI w1 w6 (.slice (some ⟨nb, of, none⟩) l1.length c1) (.slice ao2 l2.length c2) (if 0 = 0 then sumN (l1.take j) + X else sumN (l1.take j)) (if 0 = 1 then sumN (l1.take j) + X else 0) v' ((l1.take j) ++ [(X : Int)])) := HI2.out.app _ (by rw [hle]; exact g6) (by rw [hle]; exact o6)
            clear hle
            clear o6 g6 HI2 HLo hbC
            go_wp2_with fail
            exact ⟨⟨j + 1, by omega, by go_num, by rw [HT.out.2, ← HT.out.2, HSu.out]; rw [HT.out.2]; exact HN, ⟨HT.out.1, Or.inr (by omega)⟩⟩, by simp [intOf]; omega⟩
        · obtain rfl : j = l1.length := by omega
          clear hlt
          go_wp2_with fail
          go_roundw
          case rel => exact ⟨1, by omega, by go_num, fun h => absurd h (by decide), (fun _ => ⟨by have := hI.out; rw [List.take_length] at this; exact this, by have := hG.out.1; rw [List.take_length] at this; exact this, by rcases hG.out.2 with c | c; (left; exact List.eq_nil_of_length_eq_zero c); (right; exact c)⟩), fun h => absurd h (by decide)⟩
          case measure => simp [intOf]
    · obtain ⟨hI, hG1⟩ := hI1.out rfl
      have HG1 : Hid (Good l1) := hG1
      have hl60 : l1.length ≤ 60 := by
        rcases hG1.2 with c | c
        · rw [c]; exact Nat.zero_le _
        · exact c
      have d1 := hI.d1
      have zz := hI.z
      have zz' : w1.heap.size + 1 < wr.heap.size := by omega
      have hI' : BI w1 wr (.slice ao1 l1.length c1) (.slice ao2 l2.length c2) (sumN l1) (sumN (l2.take 0)) u7 (l1 ++ ng1 (l2.take 0)) := by
        rw [List.take_zero]
        show BI w1 wr _ _ (sumN l1) 0 u7 (l1 ++ [])
        rw [List.append_nil]; exact hI
      clear hI0 hI1 hI2 hG1 hI
      rename BI _ _ _ _ _ _ _ _ => hI
      rw [show ((1 : Nat) : Int) = 1 from rfl]
      go_wp2_with fail
      go_loopw [39, 7] (fun i v ww => ∃ j : Nat, j ≤ l2.length ∧ i = .int .i64 j ∧ Hid (BI w1 ww (.slice ao1 l1.length c1) (.slice ao2 l2.length c2) (sumN l1) (sumN (l2.take j)) v (l1 ++ ng1 (l2.take j))) ∧ Hid (Gd (l2.take j) ∧ (j = 0 ∨ l2.length ≤ 60))) (fun i _ _ => l2.length - (intOf i).toNat)
      case atStart => exact ⟨0, by omega, rfl, hI, ⟨fun x hx => absurd hx (by simp), Or.inl rfl⟩⟩
      case round =>
        clear hI
        obtain ⟨j, hj, rfl, hI, hG⟩ := hrel
        have hbw : Below w.heap.size w wr := hb01.trans (hI.out.b.mono (by omega))
        by_cases hlt : j < l2.length
        · obtain ⟨x, hx⟩ : ∃ x, l2[j]? = some x := ⟨_, List.getElem?_eq_getElem hlt⟩
          obtain ⟨nb, of, hao, hnb, q0⟩ := (HL2.out.bel hbw).at' (by omega)
          obtain ⟨r0, r1, r2⟩ := q0 j x hx
          have HX : Hid (l2[j]? = some x) := hx
          have hlt' : (j : Int) < (l2.length : Int) := by omega
          have zb : nb < wr.heap.size := hnb
          clear q0 hx hnb
          subst hao
          by_cases h1 : x < 1
          · clear hI hG
            go_wp2_with fail
            go_ret
            exact ⟨rfl, hbw⟩
          by_cases h2 : 1000 < x
          · clear hI hG
            go_wp2_with fail
            go_ret
            exact ⟨rfl, hbw⟩
          by_cases h3 : 60 < l2.length
          · have h3' : (60 : Int) < (l2.length : Int) := by omega
            clear hI hG
            go_wp2_with fail
            go_ret
            exact ⟨rfl, hbw⟩
          have h3' : ¬ (60 : Int) < (l2.length : Int) := by omega
          obtain ⟨X, hX⟩ : ∃ X : Nat, x = X := ⟨x.toNat, by omega⟩
          have hX1 : 1 ≤ X := by omega
          have hX2 : X ≤ 1000 := by omega
          have HT : Hid (Gd (l2.take (j + 1)) ∧ l2.take (j + 1) = l2.take j ++ [x]) := hG.out.1.take HX.out (by omega) (by omega)
          have hsb := sumN_bd _ hG.out.1
          rw [take_len (by omega)] at hsb
          have HSu : Hid (sumN (l2.take (j + 1)) = sumN (l2.take j) + X) := by
            rw [HT.out.2, sumN_app]
            show _ + (x.toNat + 0) = _
            omega
          have cA := hI.out.c1
          have fA := hI.out.f 1
          have zA := hI.out.z
          have zA' : w1.heap.size < wr.heap.size := by omega
          have w3 : IntKind.i64.wrap ((j : Int) + 1) = (j : Int) + 1 := wid (by omega) (by omega)
          have HI2 : Hid (BI w1 (wr.setCell ⟨w1.heap.size, 1, none⟩ (.int .i64 (((sumN (l2.take j) : Nat) : Int) + x))) (.slice ao1 l1.length c1) (.slice (some ⟨nb, of, none⟩) l2.length c2) (if 1 = 0 then sumN (l2.take j) + X else sumN l1) (if 1 = 1 then sumN (l2.take j) + X else sumN (l2.take j)) u7 (l1 ++ ng1 (l2.take j))) := hI.out.set 1 (sumN (l2.take j) + X) _ (by omega) (by omega)
          have hPl : (l1 ++ ng1 (l2.take j)).length ≤ 200 := by rw [List.length_append, ng1_len, take_len (by omega)]; omega
          clear hG
          subst hX
          obtain ⟨va, vc, rfl, hv1, hv2⟩ := own_form hI.out.own
          have HPL : Hid ((l1 ++ ng1 (l2.take j)).length ≤ 200) := hPl
          clear hPl hI HX
          by_cases h0 : j = 0
          · have h0' : ((j : Int) == 0) = true := by simp [h0]
            have H0 : Hid (j = 0) := h0
            clear h0
            go_upto_region 16 with fail
            generalize wr.setCell ⟨w1.heap.size, 1, none⟩ (.int .i64 (((sumN (l2.take j) : Nat) : Int) + (X : Int))) = W5 at *
            have hbC : Below W5.heap.size W5 (W5.alloc (Obj.cells #[.int .i64 (-(X : Int))] 3)) := (Below.refl _ _).alloc (Nat.le_refl _) _
            have HLo : Hid (∀ q, (Value.slice va (l1 ++ ng1 (l2.take j)).length vc).ownBlock = some q → q < W5.heap.size) := own_lt HI2.out.own
            have z5 := HI2.out.z
            go_wp2_with (at_builtin; refine wpList_append_1 26 3 (.int .i64 0) 8 Try.underlying26 infoI rfl (by omega) rfl (.tmp 72) (.tmp 74) rfl (w1.heap.size + 2) _ (l1 ++ ng1 (l2.take j)).length (ints (l1 ++ ng1 (l2.take j))) rfl (own_step HI2.out.own (fun q hq => hbC.block q (HLo.out q hq))) W5.heap.size (.int .i64 (-(X : Int))) rfl (by simp [go_sem]) rfl (by have := HPL.out; omega) (by simp; omega) ?a7)
            case a7 =>
              intro v' w6 o6 g6
              have hle : (l1 ++ ng1 (l2.take j)).length = l1.length + (ng1 (l2.take j)).length := List.length_append
              have HN : Hid (BI w1 w6 (.slice ao1 l1.length c1) (.slice (some ⟨nb, of, none⟩) l2.length c2) (if 1 = 0 then sumN (l2.take j) + X else sumN l1) (if 1 = 1 then sumN (l2.take j) + X else sumN (l2.take j)) v' ((l1 ++ ng1 (l2.take j)) ++ [-(X : Int)])) := HI2.out.app _ (by rw [hle]; exact g6) (by rw [hle]; exact o6)
              clear hle
              clear o6 g6 HI2 HLo hbC
              go_wp2_with fail
              exact ⟨⟨j + 1, by omega, by go_num, by rw [HSu.out, HT.out.2, H0.out]; rw [H0.out] at HN; simpa [ng1, List.append_assoc] using HN, ⟨HT.out.1, Or.inr (by omega)⟩⟩, by simp [intOf]; omega⟩
          · have h0' : ((j : Int) == 0) = false := by simp; omega
            go_upto_region 16 with fail
            generalize wr.setCell ⟨w1.heap.size, 1, none⟩ (.int .i64 (((sumN (l2.take j) : Nat) : Int) + (X : Int))) = W5 at *
            have hbC : Below W5.heap.size W5 (W5.alloc (Obj.cells #[.int .i64 ((X : Int))] 3)) := (Below.refl _ _).alloc (Nat.le_refl _) _
            have HLo : Hid (∀ q, (Value.slice va (l1 ++ ng1 (l2.take j)).length vc).ownBlock = some q → q < W5.heap.size) := own_lt HI2.out.own
            have z5 := HI2.out.z
            go_wp2_with (at_builtin; refine wpList_append_1 26 3 (.int .i64 0) 8 Try.underlying26 infoI rfl (by omega) rfl (.tmp 72) (.tmp 74) rfl (w1.heap.size + 2) _ (l1 ++ ng1 (l2.take j)).length (ints (l1 ++ ng1 (l2.take j))) rfl (own_step HI2.out.own (fun q hq => hbC.block q (HLo.out q hq))) W5.heap.size (.int .i64 ((X : Int))) rfl (by simp [go_sem]) rfl (by have := HPL.out; omega) (by simp; omega) ?a7)
            case a7 =>
              intro v' w6 o6 g6
              have hle : (l1 ++ ng1 (l2.take j)).length = l1.length + (ng1 (l2.take j)).length := List.length_append
              have HN : Hid (BI w1 w6 (.slice ao1 l1.length c1) (.slice (some ⟨nb, of, none⟩) l2.length c2) (if 1 = 0 then sumN (l2.take j) + X else sumN l1) (if 1 = 1 then sumN (l2.take j) + X else sumN (l2.take j)) v' ((l1 ++ ng1 (l2.take j)) ++ [(X : Int)])) := HI2.out.app _ (by rw [hle]; exact g6) (by rw [hle]; exact o6)
              clear hle
              clear o6 g6 HI2 HLo hbC
              go_wp2_with fail
              exact ⟨⟨j + 1, by omega, by go_num, by rw [HSu.out, HT.out.2, ng1_snoc _ _ (fun e => by have := congrArg List.length e; rw [take_len (by omega)] at this; simp at this; omega), ← List.append_assoc]; exact HN, ⟨HT.out.1, Or.inr (by omega)⟩⟩, by simp [intOf]; omega⟩
        · obtain rfl : j = l2.length := by omega
          clear hlt
          go_wp2_with fail
          go_roundw
          case rel => exact ⟨2, by omega, by go_num, fun h => absurd h (by decide), fun h => absurd h (by decide), (fun _ => ⟨by have := hI.out; rw [List.take_length] at this; exact this, HG1.out, by have := hG.out.1; rw [List.take_length] at this; exact this, by rcases hG.out.2 with c | c; (left; exact List.eq_nil_of_length_eq_zero c); (right; exact c)⟩)⟩
          case measure => simp [intOf]
    · obtain ⟨hI, hG1, hG2⟩ := hI2.out rfl
      clear hI0 hI1 hI2
      have hs1 := sumN_bd l1 hG1.1
      have hs2 := sumN_bd l2 hG2.1
      have hl1 : l1.length ≤ 60 := by
        rcases hG1.2 with c | c
        · rw [c]; exact Nat.zero_le _
        · exact c
      have hl2 : l2.length ≤ 60 := by
        rcases hG2.2 with c | c
        · rw [c]; exact Nat.zero_le _
        · exact c
      have hPb : ∀ x ∈ l1 ++ ng1 l2, -9223372036854775808 ≤ x ∧ x ≤ 9223372036854775807 := fun x hx => by
        rcases List.mem_append.1 hx with c | c
        · have := hG1.1 x c; omega
        · cases hl : l2 with
          | nil => rw [hl] at c; exact absurd c (by simp [ng1])
          | cons y t =>
            rw [hl] at c hG2
            rcases List.mem_cons.1 c with d | d
            · have := hG2.1 y (List.mem_cons_self ..); omega
            · have := hG2.1 x (List.mem_cons_of_mem _ d); omega
      have hPl : (l1 ++ ng1 l2).length ≤ 120 := by rw [List.length_append, ng1_len]; omega
      have HCat : Hid (cat (rws p (l1 ++ ng1 l2) (l1 ++ ng1 l2).length) = seg p none 0 (sumN l1) ++ seg p (some (sumN l1)) (sumN l1) (sumN l2)) := cat_pieces p l1 l2 hG1.1 hG2.1
      have HCat2 : Hid (cat (rws p [(sumN l1 : Int), -(sumN l2 : Int)] 2) = seg p none 0 (sumN l1) ++ seg p (some (sumN l1)) (sumN l1) (sumN l2)) := cat_once p _ _ (by omega) (by omega)
      have HLn : Hid ((seg p none 0 (sumN l1) ++ seg p (some (sumN l1)) (sumN l1) (sumN l2)).length = sumN l1 + sumN l2) := (List.length_append).trans (by rw [seg_len, seg_len])
      have HM1 : Hid (∀ (j : Nat) (r : Rw), (rws p (l1 ++ ng1 l2) (l1 ++ ng1 l2).length)[j]? = some r → r.m ≤ 65536) := fun j r h => rws_m p _ _ j r h
      have HM2 : Hid (∀ (j : Nat) (r : Rw), (rws p [(sumN l1 : Int), -(sumN l2 : Int)] 2)[j]? = some r → r.m ≤ 65536) := fun j r h => rws_m p _ _ j r h
      have HR1 : Hid ((rws p (l1 ++ ng1 l2) (l1 ++ ng1 l2).length).length = (l1 ++ ng1 l2).length) := rws_len _ _ _
      have HR2 : Hid ((rws p [(sumN l1 : Int), -(sumN l2 : Int)] 2).length = 2) := rws_len _ _ _
      obtain ⟨pa, pc, hu7, hp1, hp2, hNL⟩ := own_NL hI.own hPb
      subst hu7
      have hq1 := Sing_any circle_any p hg hst (l1 ++ ng1 l2) pa pc wr hNL hp1 hp2 (by omega)
      have hbw : Below w.heap.size w wr := hb01.trans (hI.b.mono (by omega))
      have HPw : Hid (PB wr w.heap.size p) := HP1.out.bel hI.b z1 (by have := hI.b.size; omega)
      have HI : Hid (BI w1 wr (.slice ao1 l1.length c1) (.slice ao2 l2.length c2) (sumN l1) (sumN l2) (.slice pa (l1 ++ ng1 l2).length pc) (l1 ++ ng1 l2)) := hI
      have p0 := HPw.out.c0
      have p1 := HPw.out.c1
      have p2 := HPw.out.c2
      have p3 := HPw.out.c3
      have p4 := HPw.out.c4
      have p5 := HPw.out.c5
      have p6 := HPw.out.c6
      have plt := HPw.out.lt
      have zI := hI.z
      have HA : Hid (sumN l1 ≤ 60000 ∧ sumN l2 ≤ 60000) := ⟨by omega, by omega⟩
      clear hI hNL hG1 hG2 hPb hs1 hs2 HL1 HL2 HP1
      generalize (l1 ++ ng1 l2) = PP at *
      generalize hA : sumN l1 = A at *
      generalize hB : sumN l2 = B at *
      clear hA hB
      generalize seg p none 0 A ++ seg p (some A) A B = LL at *
      rw [show ((2 : Nat) : Int) = 2 from rfl]
      obtain ⟨wq, hwq⟩ : ∃ x, x = wr := ⟨wr, rfl⟩
      subst hwq
      go_wp2_with fail
      refine hq1.mono ?_
      rintro e w3 hQ1
      have hb3 := hQ1.b
      have z3 := hb3.size
      have HP3 : Hid (PB w3 w.heap.size p) := HPw.out.bel hb3 plt z3
      have ca : w3.cell? ⟨w1.heap.size, 0, none⟩ = some (.int .i64 (A : Int)) := keepC hb3 (by omega) HI.out.c0
      have cb : w3.cell? ⟨w1.heap.size, 1, none⟩ = some (.int .i64 (B : Int)) := keepC hb3 (by omega) HI.out.c1
      have hb03 : Below w.heap.size w w3 := hbw.trans (hb3.mono (by omega))
      clear p0 p1 p2 p3 p4 p5 p6 hq1 HPw HI hb3 hbw
      have p0 := HP3.out.c0
      have p1 := HP3.out.c1
      have p2 := HP3.out.c2
      have p3 := HP3.out.c3
      have p4 := HP3.out.c4
      have p5 := HP3.out.c5
      have p6 := HP3.out.c6
      have hA1 := HA.out.1
      have hB1 := HA.out.2
      have wn : IntKind.i64.wrap (-(B : Int)) = -(B : Int) := wid (by omega) (by omega)
      have HQ1 : Hid (SgQ wq p PP e w3) := hQ1
      obtain ⟨v1, u1, E1, he, HV1⟩ : ∃ v1 u1 E1, e = .returned (.tuple #[v1, u1, .int .i64 E1]) ∧ Hid (E1 = Vo.wr p ∧ (Vo.wr p = 0 → ∃ base, wq.heap.size ≤ base ∧ SO w3 base v1 u1 (rws p PP PP.length))) := by
        by_cases hz : Vo.wr p = 0
        · obtain ⟨v, u, base, h1, h2, h3⟩ := HQ1.out.ok hz
          exact ⟨v, u, 0, h1, ⟨hz.symm, fun _ => ⟨base, h2, h3⟩⟩⟩
        · exact ⟨_, _, _, HQ1.out.bad hz, ⟨rfl, fun h => absurd h hz⟩⟩
      subst he
      clear hQ1 HQ1
      go_wp2_with fail
      obtain ⟨hE, hV1⟩ := HV1.out
      have HV1' : Hid (Vo.wr p = 0 → ∃ base, wq.heap.size ≤ base ∧ SO w3 base v1 u1 (rws p PP PP.length)) := hV1
      subst hE
      have plt3 : w.heap.size < w3.heap.size := by omega
      have zab : w1.heap.size < w3.heap.size := by omega
      have hbC : Below w3.heap.size w3 (w3.alloc (Obj.cells #[.int .i64 (A : Int), .int .i64 (-(B : Int))] 3)).drew := ((Below.refl _ w3).alloc (Nat.le_refl _) _).drew
      have hq2 : Calls Try.prog 8 #[pv p, .slice (some ⟨w3.heap.size, 0, none⟩) 2 2] (w3.alloc (Obj.cells #[.int .i64 (A : Int), .int .i64 (-(B : Int))] 3)).drew fun e w' => ∃ v2 u2, e = .returned (.tuple #[v2, u2, .int .i64 (Vo.wr p)]) ∧ Hid (Vo.wr p = 0 → ∃ base, w3.heap.size < base ∧ SO w' base v2 u2 (rws p [(A : Int), -(B : Int)] 2)) ∧ Below w3.heap.size w3 w' := by
        refine (Sing_any circle_any p hg hst [(A : Int), -(B : Int)] (some ⟨w3.heap.size, 0, none⟩) 2 (w3.alloc (Obj.cells #[.int .i64 (A : Int), .int .i64 (-(B : Int))] 3)).drew (NL.bel (NL.new w3 [(A : Int), -(B : Int)] (fun x hx => by simp at hx; omega)) ((Below.refl _ _).drew)) (by simp) (by omega) (by simp)).mono ?_
        intro e w' hQ2
        have hbb : Below w3.heap.size w3 w' := hbC.trans (hQ2.b.mono (by simp))
        by_cases hz : Vo.wr p = 0
        · obtain ⟨v, u, base, h1, h2, h3⟩ := hQ2.ok hz
          exact ⟨v, u, by rw [hz]; exact h1, fun _ => ⟨base, by simp at h2; omega, h3⟩, hbb⟩
        · exact ⟨_, _, hQ2.bad hz, fun h => absurd h hz, hbb⟩
      clear HV1 hV1
      generalize rws p [(A : Int), -(B : Int)] 2 = R2 at *
      generalize rws p PP PP.length = R1 at *
      generalize Vo.wr p = WR at *
      have hpv : ∃ PV : Value, pv p = PV := ⟨_, rfl⟩
      clear hpv
      have gp0 := cell_regrown p0
      have gp1 := cell_regrown p1
      have gp2 := cell_regrown p2
      have gp3 := cell_regrown p3
      have gp4 := cell_regrown p4
      have gp5 := cell_regrown p5
      have gp6 := cell_regrown p6
      have gca := cell_regrown ca
      have gcb := cell_regrown cb
      refine RF.wp_region_float (fun k => k != 8 && k != 9) (by kernel_rfl) (by kernel_rfl) (by kernel_rfl) ?_
      repeat (refine RF.wpFl_read rfl (fun K hK => ?_); go_simp; refine hK _ ?_; clear hK K)
      refine RF.wpFl_do rfl rfl (fun K hK => ?_)
      go_wp2_with fail
      refine hK _ _ hbC ?_
      clear hK K
      refine RF.wpFl_do rfl rfl (fun K hK => ?_)
      go_wp2_with fail
      refine hq2.mono ?_
      rintro e w5 ⟨v2, u2, rfl, hV2, hb5⟩
      go_wp2_with fail
      refine hK _ _ hb5 ?_
      clear hK K hq2 gp0 gp1 gp2 gp3 gp4 gp5 gp6 gca gcb
      repeat (refine RF.wpFl_read rfl (fun K hK => ?_); go_simp; refine hK _ ?_; clear hK K)
      refine RF.wpFl_nil ?_
      have hb05 : Below w.heap.size w w5 := hb03.trans (hb5.mono (by omega))
      have z5 := hb5.size
      have ca5 := keepC hb5 zab ca
      have cb5 := keepC hb5 zab cb
      clear hbC p0 p1 p2 p3 p4 p5 p6 ca cb HP3
      by_cases hz : WR = 0
      · obtain ⟨base1, hBs1, hSO1⟩ := HV1'.out hz
        obtain ⟨base2, hBs2, hSO2⟩ := hV2.out hz
        have HS1 : Hid (SO w5 base1 v1 u1 (R1)) := hSO1.step (fun j _ hj => hb5.block j hj) z5
        have HS2 : Hid (SO w5 base2 v2 u2 (R2)) := hSO2
        rw [hz]
        clear HV1' hV2 hz hSO1 hSO2 hb5
        obtain ⟨va, vc, ua, uc, rfl, f1, f2, rfl, f3, f4⟩ := HS1.out.form
        obtain ⟨xa, xc, ya, yc, rfl, f5, f6, rfl, f7, f8⟩ := HS2.out.form
        have HT1 : Hid (∀ (k : Nat) (r : Rw), R1[k]? = some r → cat (R1.take (k + 1)) = cat (R1.take k) ++ rcat r ∧ (cat (R1.take k)).length + r.m ≤ A + B) := fun k r h => cat_take R1 k r h (by rw [HCat.out]; exact HLn.out)
        have HT2 : Hid (∀ (k : Nat) (r : Rw), R2[k]? = some r → cat (R2.take (k + 1)) = cat (R2.take k) ++ rcat r ∧ (cat (R2.take k)).length + r.m ≤ A + B) := fun k r h => cat_take R2 k r h (by rw [HCat2.out]; exact HLn.out)
        have HRl1 : Hid (R1.length = PP.length) := HR1
        rw [HR1.out] at HS1 f1 f3
        rw [HR2.out] at HS2 f5 f7
        rw [HR1.out, HR2.out]
        generalize PP.length = n1 at *
        clear HM1 HM2
        go_wp2_with fail
        go_loopw [111, 19] (fun i v ww => ∃ k : Nat, k ≤ n1 ∧ i = .int .i64 k ∧ Hid (ww.ownsRow w5.heap.size 23 1 v (cat (R1.take k)).length (fls' (cat (R1.take k)))) ∧ Below w5.heap.size w5 ww) (fun i _ _ => n1 - (intOf i).toNat)
        case atStart => exact ⟨0, by omega, rfl, World.ownsRow_nil _ _ _ _, Below.refl _ _⟩
        case round =>
          obtain ⟨k, hk, rfl, hO, hbr⟩ := hrel
          by_cases hlt : k < n1
          · obtain ⟨r, hr⟩ : ∃ r, R1[k]? = some r := ⟨_, List.getElem?_eq_getElem (by rw [HRl1.out]; exact hlt)⟩
            have T1 := HS1.out.step (w' := wr) (fun j _ hj => hbr.block j hj) hbr.size
            obtain ⟨g1, c3, h1, d1, xa1, xc1, e1, e2, b1, b2, b3, b4, b5, b6, k1, k2, k3⟩ := T1.at' hr
            rw [HRl1.out] at e1 e2 b1 b3
            cases e1
            cases e2
            obtain ⟨t1, t2⟩ := HT1.out k r hr
            have HTt : Hid (cat (R1.take (k + 1)) = cat (R1.take k) ++ rcat r) := t1
            have hlt' : (k : Int) < (n1 : Int) := by omega
            have w3' : IntKind.i64.wrap ((k : Int) + 1) = (k : Int) + 1 := wid (by omega) (by omega)
            have HFr : Hid (FSl wr _ (.slice xa1 r.m xc1) r.m r.f) := k3
            have zr := hbr.size
            obtain ⟨oa, oc, rfl, o1, o2⟩ := own_form hO.out
            clear T1 k2 k3 t1 hr HT1 HT2 HS1 HS2
            go_wp2_with (at_builtin; refine wpList_append_fs rfl (.tmp 115) (.tmp 116) rfl w5.heap.size _ (cat (R1.take k)).length (fls' (cat (R1.take k))) rfl hO.out r _ xa1 xc1 rfl HFr.out (by omega) (by omega) ?a8)
            case a8 =>
              intro v' w6 o6 g6
              have z6 := g6.gr.size
              have HO6 : Hid (w6.ownsRow w5.heap.size 23 1 v' (cat (R1.take (k + 1))).length (fls' (cat (R1.take (k + 1))))) := by
                rw [HTt.out, List.length_append, show (rcat r).length = r.m by unfold rcat; simp]
                unfold fls' at o6 ⊢
                rw [List.map_append]; exact o6
              have hb6 : Below w5.heap.size w5 w6 := hbr.trans (g6.bel zr (fun q hq => own_block hO.out q hq))
              clear o6 g6 hO HFr
              go_wp2_with fail
              exact ⟨⟨k + 1, by omega, by go_num, HO6, hb6⟩, by simp [intOf]; omega⟩
          · obtain rfl : k = n1 := by omega
            have HO1 : Hid (wr.ownsRow w5.heap.size 23 1 u19 (A + B) (fls' LL)) := by
              have h := hO.out
              rw [List.take_of_length_le (by rw [HRl1.out]; exact Nat.le_refl _), HCat.out, HLn.out] at h
              exact h
            obtain ⟨oa, oc, rfl, o1, o2⟩ := own_form HO1.out
            have HS2r : Hid (SO wr base2 (.slice xa 2 xc) (.slice ya 2 yc) R2) := HS2.out.step (fun j _ hj => hbr.block j hj) hbr.size
            have ca6 := keepC hbr (by omega) ca5
            have cb6 := keepC hbr (by omega) cb5
            have z6 := hbr.size
            have hb06 : Below w.heap.size w wr := hb05.trans (hbr.mono (by omega))
            obtain ⟨w6, hw6⟩ : ∃ x, x = wr := ⟨wr, rfl⟩
            subst hw6
            clear HS1 HS2 HT1 hO ca5 cb5 hb05 hlt
            go_wp2_with fail
            go_loopw [121, 20] (fun i v ww => ∃ k : Nat, k ≤ 2 ∧ i = .int .i64 k ∧ Hid (ww.ownsRow w6.heap.size 23 1 v (cat (R2.take k)).length (fls' (cat (R2.take k)))) ∧ Below w6.heap.size w6 ww) (fun i _ _ => 2 - (intOf i).toNat)
            case atStart => exact ⟨0, by omega, rfl, World.ownsRow_nil _ _ _ _, Below.refl _ _⟩
            case round =>
              obtain ⟨k, hk, rfl, hO, hbr⟩ := hrel
              by_cases hlt : k < 2
              · obtain ⟨r, hr⟩ : ∃ r, R2[k]? = some r := ⟨_, List.getElem?_eq_getElem (by rw [HR2.out]; exact hlt)⟩
                have T1 := HS2r.out.step (w' := wr) (fun j _ hj => hbr.block j hj) hbr.size
                obtain ⟨g1, c3, h1, d1, xa1, xc1, e1, e2, b1, b2, b3, b4, b5, b6, k1, k2, k3⟩ := T1.at' hr
                rw [HR2.out] at e1 e2 b1 b3
                cases e1
                cases e2
                obtain ⟨t1, t2⟩ := HT2.out k r hr
                have HTt : Hid (cat (R2.take (k + 1)) = cat (R2.take k) ++ rcat r) := t1
                have hlt' : (k : Int) < 2 := by omega
                have w3' : IntKind.i64.wrap ((k : Int) + 1) = (k : Int) + 1 := wid (by omega) (by omega)
                have HFr : Hid (FSl wr _ (.slice xa1 r.m xc1) r.m r.f) := k3
                have zr := hbr.size
                obtain ⟨pa2, pc2, rfl, o3, o4⟩ := own_form hO.out
                clear T1 k2 k3 t1 hr HT2 HS2r HO1
                go_wp2_with (at_builtin; refine wpList_append_fs rfl (.tmp 125) (.tmp 126) rfl w6.heap.size _ (cat (R2.take k)).length (fls' (cat (R2.take k))) rfl hO.out r _ xa1 xc1 rfl HFr.out (by omega) (by omega) ?a9)
                case a9 =>
                  intro v' w7 o6 g6
                  have z7 := g6.gr.size
                  have HO6 : Hid (w7.ownsRow w6.heap.size 23 1 v' (cat (R2.take (k + 1))).length (fls' (cat (R2.take (k + 1))))) := by
                    rw [HTt.out, List.length_append, show (rcat r).length = r.m by unfold rcat; simp]
                    unfold fls' at o6 ⊢
                    rw [List.map_append]; exact o6
                  have hb7 : Below w6.heap.size w6 w7 := hbr.trans (g6.bel zr (fun q hq => own_block hO.out q hq))
                  clear o6 g6 hO HFr
                  go_wp2_with fail
                  exact ⟨⟨k + 1, by omega, by go_num, HO6, hb7⟩, by simp [intOf]; omega⟩
              · obtain rfl : k = 2 := by omega
                have HO2 : Hid (wr.ownsRow w6.heap.size 23 1 u20 (A + B) (fls' LL)) := by
                  have h := hO.out
                  rw [List.take_of_length_le (by rw [HR2.out]; exact Nat.le_refl _), HCat2.out, HLn.out] at h
                  exact h
                have HO1r : Hid (wr.ownsRow w5.heap.size 23 1 (.slice oa (A + B) oc) (A + B) (fls' LL)) := own_step HO1.out (fun q hq => hbr.block q (own_lt HO1.out q hq))
                have hget : ∀ i, i < A + B → (fls' LL)[i]? = some (.float .f64 (LL.getD i 0)) := fun i hi => by
                  have hi2 : i < LL.length := by rw [HLn.out]; exact hi
                  unfold fls'
                  rw [List.getElem?_map, List.getD_eq_getElem?_getD, List.getElem?_eq_getElem hi2]; rfl
                obtain ⟨pa2, pc2, rfl, o3, o4⟩ := own_form HO2.out
                have F1 := own_FS (f := fun i => LL.getD i 0) HO1r.out hget
                have F2 := own_FS (f := fun i => LL.getD i 0) HO2.out hget
                have hq := fun (w' : World) (h : Below wr.heap.size wr w') => SameAll_eq w' _ _ oa pa2 (A + B) oc pc2 (fun i => LL.getD i 0) (F1.keep (fun q hq => h.block q hq.2) (fun q hq => hq)) (F2.keep (fun q hq => h.block q hq.2) (fun q hq => hq)) (by omega)
                have cS : ∀ dd os, Calls Try.prog 9 #[.slice oa (A + B) oc, .slice pa2 (A + B) pc2] (grow (redrawn wr dd) os) fun e w'' => e = .returned (.bool true) ∧ ∃ p : Regrown, w'' = grow (redrawn wr p.d) p.os := fun dd os => Calls.regrown_of (hq _ (below_regrown wr dd os))
                have gca := cell_regrown (keepC hbr (by omega) ca6)
                have gcb := cell_regrown (keepC hbr (by omega) cb6)
                have hb08 : Below w.heap.size w wr := hb06.trans (hbr.mono (by omega))
                have wS : IntKind.i64.wrap ((A : Int) + (B : Int)) = (A : Int) + (B : Int) := wid (by omega) (by omega)
                have eS : (((A + B : Nat) : Int) == (A : Int) + (B : Int)) = true := by simp
                clear F1 F2 hq hget HO1r HO2 HO1 hO HT2 HS2r ca6 cb6 hlt
                go_wp2_with fail
                refine wp_region_quiet_below (by kernel_rfl) (by kernel_rfl) ?_
                repeat (go_big_quiet_step (exact cS _ _))
                refine wpQuiet_nil ?_
                rintro w8 ⟨⟨dq, osq⟩, hw8⟩
                have hb8 : Below wr.heap.size wr w8 := by rw [hw8]; exact below_regrown wr dq osq
                clear hw8 cS gca gcb
                go_wp2_with fail
                go_ret
                exact ⟨rfl, hb08.trans (hb8.mono hb08.size)⟩
      · have hne : (WR != 0) = true := by simpa using hz
        clear HV1' hV2 hz HCat HCat2 HLn HM1 HM2 HR1 HR2
        go_wp2_with fail
        go_ret
        exact ⟨rfl, hb05⟩
end Go.Proofs.Ytjfmpgfpehnnjai.Vo
