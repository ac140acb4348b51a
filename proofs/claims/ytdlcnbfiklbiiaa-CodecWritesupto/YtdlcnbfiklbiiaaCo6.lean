/- slices.Chunk at whole numbers, as an iterator. -/
import Derived.Test.YtdlcnbfiklbiiaaCo5
import Derived.RangeFuncNested
import Derived.RangeFuncBound
import Derived.RangeFuncCalls
import Derived.RangeFuncLeaves
import Derived.RangeFuncWrites
import Derived.Shelf.Abstract
import Derived.Shelf.RegionOpen
import Derived.OwnWalkIn
import Derived.TacticsInMore
import Derived.LoopNIn
import Derived.LoopIn
import Derived.BigRegionIn
namespace Go.Proofs.Ytdlcnbfiklbiiaa.Co
open Go.RowKit Go.Maps Go.Sort Go.Shelf
set_option linter.unusedVariables false
set_option linter.unusedSimpArgs false
attribute [local go_sem] Oper.semAt_some

/-- How long the j-th chunk is. -/
def cl (len j : Nat) : Nat := min 256 (len - 256 * j)
/-- The j-th chunk as a slice. -/
def cs (la : Option Addr) (len c j : Nat) : Value := .slice (frm la (256 * j) c) (cl len j) (cl len j)
/-- l[i:k:k]. -/
theorem run_three (la : Option Addr) (m c i k : Nat) (h1 : i ≤ k) (h2 : k ≤ c) (w : World) : (Instr.slice 23 (.slice la m c) (some (.int .i64 (i : Int))) (some (.int .i64 (k : Int))) (some (.int .i64 (k : Int)))).run Try.prog w = .ok (.slice (if k = i then la else la.map (fun x => x.add i)) (k - i) (k - i)) w := by
  have hu : Try.prog.underlying 23 = some (.slice 3) := Try.underlying23
  unfold Instr.slice
  simp [run_underlying hu, Instr.sliceBounds, run_sliceBound, h1, h2, sizeF]
set_option maxRecDepth 100000 in
set_option maxHeartbeats 2000000 in
theorem chunk_in (F : Fence) (n : Nat) (h5 : F.fn 33) (hro : F.round = none) (la : Option Addr) (len c : Nat) (w : World) :
    CallsIn F n Try.prog 33 #[.slice la len c, .int .i64 256] w fun e w' => e = .returned (.func (.func 54) #[] #[.pointer (some ⟨w.heap.size, 0, none⟩), .pointer (some ⟨w.heap.size + 1, 0, none⟩)]) ∧ w' = (w.alloc (.cells #[.slice la len c] 23)).alloc (.cells #[.int .i64 256] 3) := by
  refine callsIn_of_wp Try.func33 rfl h5 ?_ hro
  simp only [Try.ntmps33, List.size_toArray, List.length_cons, List.length_nil, Nat.reduceAdd, Nat.reduceSub, Array.replicate_succ, Array.replicate_zero, List.push_toArray, List.append_toArray, List.nil_append, List.cons_append]
  gi_wp2
  go_ret
  exact ⟨rfl, rfl⟩
/-- The two boxes stay as they are. -/
def Bx (b : Nat) (W W' : World) : Prop := W'.heap[b]? = W.heap[b]? ∧ W'.heap[b + 1]? = W.heap[b + 1]?
theorem Bx.refl (b : Nat) (W : World) : Bx b W W := ⟨rfl, rfl⟩
theorem Bx.trans {b : Nat} {A B C : World} (h : Bx b A B) (k : Bx b B C) : Bx b A C := ⟨k.1.trans h.1, k.2.trans h.2⟩
def upto (k : Nat) : List Nat := List.range k
set_option maxRecDepth 100000 in
set_option maxHeartbeats 2000000 in
theorem iter_in (F : Fence) (n : Nat) (h7 : F.fn 54) (hro : F.round = none) (hn : 1 ≤ n) (l b : Nat) (la : Option Addr) (len c N : Nat) (hN : N = (len + 255) / 256) (hlc : len ≤ c) (hc : c ≤ 9223372036854775807) (hlm : len ≤ 1048576) (J Jx : List {j : Nat // j < N} → World → Prop)
    (hJd : ∀ s W, J s W → J s W.drew)
    (hY : ∀ pre x W, J pre W → pre.length < N → YieldAt F (n - 1) Try.prog l #[cs la len c x.1] W fun e W' =>
      (e = .returned (.bool true) ∧ J (pre ++ [x]) W' ∧ Bx b W W') ∨ (e = .returned (.bool false) ∧ Jx (pre ++ [x]) W'))
    (W : World) (hB0 : W.cell? ⟨b, 0, none⟩ = some (.slice la len c)) (hB1 : W.cell? ⟨b + 1, 0, none⟩ = some (.int .i64 256)) (h0 : J [] W) :
    CallsIn F n Try.prog 54 #[.func (.yield l) #[] #[], .pointer (some ⟨b, 0, none⟩), .pointer (some ⟨b + 1, 0, none⟩)] W fun e W' => (∃ v, e = .returned v) ∧
      ((∃ ys : List {j : Nat // j < N}, ys.map (·.1) = List.range N ∧ J ys W') ∨ (∃ pre, Jx pre W')) := by
  have HN : Hid (N = (len + 255) / 256) := hN
  clear hN
  refine callsIn_of_wp Try.func54 rfl h7 ?_ hro
  simp only [Try.ntmps54, List.size_toArray, List.length_cons, List.length_nil, Nat.reduceAdd, Nat.reduceSub, Array.replicate_succ, Array.replicate_zero, List.push_toArray, List.append_toArray, List.nil_append, List.cons_append]
  gi_wp2
  gi_loopw [4] (fun i wr => ∃ (k : Nat) (ys : List {j : Nat // j < N}), k ≤ N ∧ i = .int .i64 ((256 * k : Nat) : Int) ∧ ys.map (·.1) = List.range k ∧ J ys wr ∧ Bx b W wr) (fun i _ => len + 256 - (intOf i).toNat)
  case atStart => exact ⟨0, [], Nat.zero_le _, rfl, rfl, h0, Bx.refl _ _⟩
  case round =>
    obtain ⟨k, ys, hk, rfl, hys, hJs, hbx⟩ := hrel
    have c0 := (World.cell?_of_block (w := W) (w' := wr) (a := ⟨b, 0, none⟩) hbx.1).trans hB0
    have c1 := (World.cell?_of_block (w := W) (w' := wr) (a := ⟨b + 1, 0, none⟩) hbx.2).trans hB1
    by_cases hlt : 256 * k < len
    · have hlt' : ((256 * k : Nat) : Int) < (len : Int) := by omega
      have hkN : k < N := by have := HN.out; omega
      have hyl : ys.length = k := by have := congrArg List.length hys; simpa using this
      obtain ⟨I, hI⟩ : ∃ I, I = 256 * k := ⟨_, rfl⟩
      obtain ⟨E, hE⟩ : ∃ E, E = cl len k := ⟨_, rfl⟩
      have hE0 : 0 < E ∧ E ≤ 256 ∧ I + E ≤ len := by rw [hE, hI]; unfold cl; omega
      have hEm : (if ((len - I : Nat) : Int) < 256 then ((len - I : Nat) : Int) else 256) = (E : Int) := by
        rw [hE, hI]; unfold cl
        by_cases q : len - 256 * k < 256
        · rw [if_pos (by omega), Nat.min_eq_right (by omega)]
        · rw [if_neg (by omega), Nat.min_eq_left (by omega)]; rfl
      have hcs : cs la len c k = .slice (la.map fun x => x.add I) E E := by
        unfold cs frm; rw [← hI, ← hE, if_neg (by omega)]
      obtain ⟨fn, tmps, assign, body, hy, hR⟩ := hY ys ⟨k, hkN⟩ wr.drew (hJd _ _ hJs) (by rw [hyl]; exact hkN)
      dsimp only at hy
      rw [hcs] at hy
      have s1 : ∀ W : World, (Instr.slice 23 (.slice la len c) (some (.int .i64 (I : Int))) none none).run Try.prog W = .ok (.slice (frm la I c) (len - I) (c - I)) W := fun W => run_from la len c I (by omega) W
      have s2 : ∀ W : World, (Instr.slice 23 (.slice la len c) (some (.int .i64 (I : Int))) (some (.int .i64 ((I + E : Nat) : Int))) (some (.int .i64 ((I + E : Nat) : Int)))).run Try.prog W = .ok (.slice (la.map fun x => x.add I) E E) W := fun W => by
        have h := run_three la len c I (I + E) (by omega) (by omega) W
        rw [if_neg (by omega), Nat.add_sub_cancel_left] at h
        exact h
      have w1 : IntKind.i64.wrap ((I : Int) + (E : Int)) = ((I + E : Nat) : Int) := by rw [wid (by omega) (by omega)]; omega
      have w2 : IntKind.i64.wrap ((I : Int) + 256) = ((I + 256 : Nat) : Int) := by rw [wid (by omega) (by omega)]; omega
      rw [← hI] at hlt hlt'
      rw [← hI]
      have HI : Hid (I = 256 * k) := hI
      have hIE : I + E ≤ 1048576 := by omega
      have lb0 : b < wr.heap.size := lt_cell c0
      have lb1 : b + 1 < wr.heap.size := lt_cell c1
      clear hI hE hcs
      gi_wp2
      gi_region
      all_goals
        have d0 : wr.drew.cell? ⟨b, 0, none⟩ = some (.slice la len c) := c0
        have d1 : wr.drew.cell? ⟨b + 1, 0, none⟩ = some (.int .i64 256) := c1
        have ld0 : b < wr.drew.heap.size := lb0
        have ld1 : b + 1 < wr.drew.heap.size := lb1
        have hbd : Bx b W wr.drew := hbx.trans ⟨rfl, rfl⟩
        generalize wr.drew = wd at *
        clear c0 c1 lb0 lb1 hJs hbx hEm
        gi_wp2
        refine hR.mono ?_
        rintro e W3 (⟨rfl, hJ3, hk3⟩ | ⟨rfl, hJx3⟩)
        · have hb3 := hbd.trans hk3
          have e1 := (World.cell?_of_block (w := wd) (w' := W3) (a := ⟨b + 1, 0, none⟩) hk3.2).trans d1
          have le1 : b + 1 < W3.heap.size := lt_cell e1
          gi_wp2
          go_roundw
          case rel => exact ⟨k + 1, ys ++ [⟨k, hkN⟩], by omega, by rw [HI.out]; go_num, by rw [List.map_append, hys, List.range_succ]; rfl, hJ3, hb3⟩
          case measure => simp [intOf]; omega
        · gi_wp2
          refine bodyPost_ret (results_none rfl _ _ _) rfl ?_
          exact ⟨⟨_, rfl⟩, .inr ⟨_, hJx3⟩⟩
    · have hkN : k = N := by have := HN.out; omega
      subst hkN
      have hlt' : ¬ ((256 * k : Nat) : Int) < (len : Int) := by omega
      gi_wp2
      go_end0
      exact ⟨⟨_, rfl⟩, .inl ⟨_, by simpa using hys, hJs⟩⟩
end Go.Proofs.Ytdlcnbfiklbiiaa.Co
