/- What chord keeps from pitch to pitch. -/
import Derived.Test.YtaohahahhjkcdaeGreatDoorSG30
import Derived.Test.YtaohahahhjkcdaeGreatDoorSG3
import Derived.Test.YtaohahahhjkcdaeGreatDoorSG24
import Derived.Deep.RegionWith
import Derived.Deep.AppendLies
import Derived.Deep.DeepCutAuto
namespace Go.Proofs.YtaohahahhjkcdaeGreatDoor.G
open Go.RowKit
set_option linter.unusedVariables false
set_option linter.unusedSimpArgs false

theorem infoNt : (Tryz.prog.info? 43).map (fun i => (i.zero, i.size, i.bytes)) = some (some (.agg #[.int .i64 0, .int .i64 0, .int .i64 0, .int .i64 0, .int .i64 0, .int .i64 0, .int .i64 0, .int .i64 0, .string ⟨#[]⟩]), 9, 80) := by kernel_rfl

theorem Clone_any (s : ByteArray) (w : World) (hs : s.size ≤ 281474976710656) : Calls Tryz.prog 55 #[.string s] w fun e w' => e = .returned (.string s) ∧ Below w.heap.size w w' := by
  go_enter Tryz.func55, Tryz.ntmps55
  go_wp2_with fail
  refine (Tryz.stringslite_Clone s _ hs).mono ?_
  rintro e w1 ⟨rfl, hb⟩
  go_wp2_with fail
  go_ret
  exact ⟨rfl, hb⟩

/-- What chord keeps. -/
structure CdI (w : World) (q B : Nat) (ns : List M.Nt) (vo au ad : Int) (tm : List F.M.Sp) (mv : List (Int × Int)) (hd : Nat) (vN vM vT : Value) (R : Nat → (Int × Int × Int) × Int) (f : Int × Int × Int → M.Nt) (V : Value) (su sd lu ld : Int) (j : Nat) (vN' : Value) (wr : World) : Prop where
  e : (M.cdl R f j).2 = 0
  s : Sg wr q (ns ++ (M.cdl R f j).1) vo au ad tm mv hd vN' vM vT
  k : Kp w q vN vM wr vN' vM
  b : Below B w wr
  lz : w.heap.size + 2 < wr.heap.size
  i2 : wr.cell? ⟨w.heap.size, 2, none⟩ = some V
  s0 : wr.cell? ⟨w.heap.size + 1, 0, none⟩ = some (.int .i64 su)
  s1 : wr.cell? ⟨w.heap.size + 1, 1, none⟩ = some (.int .i64 sd)
  l0 : wr.cell? ⟨w.heap.size + 2, 0, none⟩ = some (.int .i64 lu)
  l1 : wr.cell? ⟨w.heap.size + 2, 1, none⟩ = some (.int .i64 ld)
  ow : ∀ k, vN'.ownBlock = some k → k < w.heap.size ∨ w.heap.size + 2 < k

theorem CdI.more {w wr w6 w7 : World} {q B : Nat} {ns : List M.Nt} {vo au ad : Int} {tm : List F.M.Sp} {mv : List (Int × Int)} {hd : Nat} {vN vM vT : Value} {R : Nat → (Int × Int × Int) × Int} {f : Int × Int × Int → M.Nt} {V : Value} {su sd lu ld : Int} {j : Nat} {vN' v7 : Value}
    (h : CdI w q B ns vo au ad tm mv hd vN vM vT R f V su sd lu ld j vN' wr) (hB : B ≤ q) (hq : q < w.heap.size) (hnN : ∀ k, vN.ownBlock = some k → k < w.heap.size) (hR : (R j).2 = 0) (h6 : Below wr.heap.size wr w6) (hg : w6.grownBy w7 vN'.ownBlock)
    (hown : w7.ownsRow (q + 1) 43 9 v7 ((ns ++ (M.cdl R f j).1).length + 1) (ntL (ns ++ (M.cdl R f j).1) ++ ntC (f (R j).1))) (hat : v7.ownBlock = vN'.ownBlock ∨ ∃ g, v7.ownBlock = some g ∧ w6.heap.size ≤ g) :
    CdI w q B ns vo au ad tm mv hd vN vM vT R f V su sd lu ld (j + 1) v7 (w7.setCell ⟨q, 0, none⟩ v7) := by
  have hS6 := h.s.step h6
  have z6 := h6.size
  have z7 := hg.size
  have lz := h.lz
  have nge := F.own_block h.s.n
  have ho : ∀ k, v7.ownBlock = some k → vN'.ownBlock = some k ∨ w6.heap.size ≤ k := fun k e => by
    rcases hat with x | ⟨g, x1, x2⟩
    · exact .inl (x ▸ e)
    · rw [x1] at e; simp only [Option.some.injEq] at e; exact .inr (by omega)
  have hblk : ∀ b, b < w6.heap.size → b ≠ q → vN'.ownBlock ≠ some b → (w7.setCell ⟨q, 0, none⟩ v7).heap[b]? = w6.heap[b]? := fun b b1 b2 b3 => by
    rw [heap_setCell_other _ _ _ _ (by show b ≠ q; exact b2)]
    exact hg.block b b1 (fun e => b3 e.symm)
  have hq7 : w7.heap[q]? = w6.heap[q]? := hg.block q (by omega) (fun e => by have := nge q e.symm; omega)
  have hc7 : ∀ i, w7.cell? ⟨q, i, none⟩ = w6.cell? ⟨q, i, none⟩ := fun i => cell_of hq7
  have hf7 : ∀ i, w7.frozen? ⟨q, i, none⟩ = w6.frozen? ⟨q, i, none⟩ := fun i => frozen_of hq7
  have e1 : M.cdl R f (j + 1) = ((M.cdl R f j).1 ++ [f (R j).1], 0) := M.cdl_on h.e hR
  have e2 : ns ++ (M.cdl R f (j + 1)).1 = (ns ++ (M.cdl R f j).1) ++ [f (R j).1] := by rw [e1]; simp
  have hown2 : (w7.setCell ⟨q, 0, none⟩ v7).ownsRow (q + 1) 43 9 v7 (ns ++ (M.cdl R f (j + 1)).1).length (ntL (ns ++ (M.cdl R f (j + 1)).1)) := by
    rw [e2, ntL_app, List.length_append]
    simp only [ntL, List.append_nil, List.length_cons, List.length_nil]
    exact F.own_put hown (by omega)
  obtain ⟨hS, hK⟩ := hS6.notes (w' := w7.setCell ⟨q, 0, none⟩ v7) (hd' := hd) (by simp; omega) hblk hown2 ho (fun i i0 i6 => by simp [go_sem, i0, Ne.symm i0, hc7]) (by simp [go_sem, hc7, hS6.c0]) (by simp [go_sem, hc7, hS6.c6]) (fun i => by simp [go_sem, hf7])
  have hloc : ∀ b i u, w.heap.size ≤ b → b ≤ w.heap.size + 2 → wr.cell? ⟨b, i, none⟩ = some u → (w7.setCell ⟨q, 0, none⟩ v7).cell? ⟨b, i, none⟩ = some u := fun b i u b1 b2 hc => by
    rw [cell_of (hblk b (by omega) (by omega) (fun e => by have := h.ow b e; omega))]
    exact F.keepC h6 (by omega) hc
  refine ⟨by rw [e1], hS, (h.k.trans (Kp.below h6)).trans hK, ?_, by simp; omega, hloc _ _ _ (by omega) (by omega) h.i2, hloc _ _ _ (by omega) (by omega) h.s0, hloc _ _ _ (by omega) (by omega) h.s1, hloc _ _ _ (by omega) (by omega) h.l0, hloc _ _ _ (by omega) (by omega) h.l1, fun k e => ?_⟩
  · exact ((h.b.trans (h6.mono (by have := h.b.size; omega))).grown hg (by omega) (fun k e => by have := nge k e; omega)).setCell (p := ⟨q, 0, none⟩) hB _
  · rcases ho k e with x | x
    · exact h.ow k x
    · exact .inr (by omega)

end Go.Proofs.YtaohahahhjkcdaeGreatDoor.G

/- A region that draws its order, by what holds between its operations. -/
namespace Go.Proofs.YtaohahahhjkcdaeGreatDoor.G
open Go.RowKit
set_option linter.unusedVariables false
set_option linter.unusedSimpArgs false

/-- How many operations have not come up yet. -/
def leftOf (L : Array Bool) : Nat := (L.toList.filter (fun b => !b)).length
theorem left_set (L : Array Bool) (i : Nat) (hi : i < L.size) (h : L.getD i true = false) : leftOf (L.setIfInBounds i true) + 1 = leftOf L := by
  have h1 : L.toList[i]? = some false := by
    simp only [Array.getD, hi, dif_pos] at h
    rw [Array.getElem?_toList, Array.getElem?_eq_getElem hi]
    simpa using h
  unfold leftOf
  rw [Array.toList_setIfInBounds]
  generalize L.toList = l at *
  clear h hi
  induction l generalizing i with
  | nil => simp at h1
  | cons x l ih =>
    cases i with
    | zero => simp at h1; subst h1; simp
    | succ i =>
      simp at h1
      have := ih i h1
      cases x <;> simp [this]
theorem ready_mem {md : Region.Mode} {ops : Array Oper} {L : Array Bool} {i : Nat} (h : i ∈ Region.ready md ops L) : i < ops.size ∧ L.getD i true = false ∧ ((ops[i]?).map (·.after.all fun e => !Region.binds md e || L.getD e.on false)).getD false = true := by
  unfold Region.ready at h
  rw [List.mem_filter] at h
  have h2 := h.2
  rw [Bool.and_eq_true] at h2
  refine ⟨List.mem_range.1 h.1, ?_, h2.2⟩
  have := h2.1
  simpa using this
/-- What holds ahead of the region and is kept by whichever operation comes up next holds behind it. -/
theorem wpAny_inv {P : Program} {ops : Array Oper} {Q : Exit → Act → World → Prop} {md : Region.Mode} (I : Array Bool → Act → World → Prop) (hsz : ∀ L a w, I L a w → L.size = ops.size)
    (hdone : ∀ L a w, I L a w → Region.ready md ops L = [] → Q .normal a w)
    (hstep : ∀ L a w, I L a w → ∀ i ∈ Region.ready md ops L, wpOp P ops Q i (I (L.setIfInBounds i true)) a w) :
    ∀ (fuel : Nat) (L : Array Bool) (a : Act) (w : World), I L a w → leftOf L ≤ fuel → wpAny P md ops Q fuel L a w := by
  intro fuel
  induction fuel with
  | zero =>
    intro L a w hI hl
    have hr : Region.ready md ops L = [] := by
      apply List.eq_nil_iff_forall_not_mem.2
      intro i hi
      obtain ⟨h1, h2, _⟩ := ready_mem hi
      have := left_set L i (by rw [hsz L a w hI]; exact h1) h2
      omega
    exact ⟨hr, hdone L a w hI hr⟩
  | succ fuel ih =>
    intro L a w hI hl
    refine ⟨fun hr => hdone L a w hI hr, fun i hi => ?_⟩
    obtain ⟨h1, h2, _⟩ := ready_mem hi
    have := left_set L i (by rw [hsz L a w hI]; exact h1) h2
    exact wpOp_mono (fun a' w' h => ih _ a' w' h (by omega)) (hstep L a w hI i hi)
end Go.Proofs.YtaohahahhjkcdaeGreatDoor.G

/- What the program's chord comes to. -/
namespace Go.Proofs.YtaohahahhjkcdaeGreatDoor.G
open Go.RowKit
set_option linter.unusedVariables false
set_option linter.unusedSimpArgs false

/-- What a pitch is moved to by the moves of a list. -/
def M.mvp (mv : List (Int × Int)) (p : Int × Int × Int) : (Int × Int × Int) × Int := M.mvd (fun j => (mv[j]?.getD (0, 0)).1) (fun j => (mv[j]?.getD (0, 0)).2) mv.length p

theorem rs_gs (L : Array Bool) (i j : Nat) (h : i ≠ j) : (L.setIfInBounds i true)[j]?.getD false = L[j]?.getD false := by
  simp only [Array.getElem?_setIfInBounds, h, if_false]
theorem rs_gd (L : Array Bool) (i : Nat) (h : L.getD i true = false) : L[i]?.getD false = false := by
  simp only [Array.getD_eq_getD_getElem?] at *
  cases hq : L[i]? with
  | none => rfl
  | some x => rw [hq] at h; exact h
theorem rs_at (L : Array Bool) (i : Nat) (h : i < L.size) : (L.setIfInBounds i true)[i]?.getD false = true := by
  simp [h]
theorem rs_mem {md : Region.Mode} {ops : Array Oper} {L : Array Bool} {i : Nat} (h0 : Region.ready md ops L = []) (h1 : i < ops.size) (hs : L.size = ops.size) (h3 : ((ops[i]?).map (·.after.all fun e => !Region.binds md e || L.getD e.on false)).getD false = true) : L[i]?.getD false = true := by
  cases hq : L[i]?.getD false with
  | true => rfl
  | false =>
    have h2 : L.getD i true = false := by
      simp only [Array.getD_eq_getD_getElem?] at *
      rw [Array.getElem?_eq_getElem (by omega)] at *
      exact hq
    have : i ∈ Region.ready md ops L := by
      unfold Region.ready
      rw [List.mem_filter]
      refine ⟨List.mem_range.2 h1, ?_⟩
      rw [h2, h3]; rfl
    rw [h0] at this
    cases this

/-- What append has made. -/
def CrA (q X nc y z : Nat) (na : Option Addr) (vo su sd lu ld ra rb rc : Int) (ly : ByteArray) (xs : List Value) (W0 : World) (v : Value) (W : World) : Prop := ∃ gg cap, v = .slice (some ⟨gg, 0, none⟩) (X + 1) cap ∧ W.ownsRow (q + 1) 43 9 (.slice (some ⟨gg, 0, none⟩) (X + 1) cap) (X + 1) (xs ++ [.int .i64 vo, .int .i64 su, .int .i64 sd, .int .i64 lu, .int .i64 ld, .int .i64 ra, .int .i64 rb, .int .i64 rc, .string ly]) ∧ (W0.alloc (Obj.cells #[.int .i64 vo, .int .i64 su, .int .i64 sd, .int .i64 lu, .int .i64 ld, .int .i64 ra, .int .i64 rb, .int .i64 rc, .string ly] 43)).grownBy W (Value.slice na X nc).ownBlock ∧ ((Value.slice na X nc).ownBlock = some gg ∨ gg = z + 2)
/-- The world, by how far the statement has come. -/
def CrW (q X nc y z : Nat) (na : Option Addr) (vo su sd lu ld ra rb rc : Int) (ly : ByteArray) (xs : List Value) (W0 : World) (v : Value) (W : World) : Bool → Bool → Bool → Prop
  | false, false, false => W = W0
  | true, false, false => W = W0.alloc (Obj.cells #[.int .i64 vo, .int .i64 su, .int .i64 sd, .int .i64 lu, .int .i64 ld, .int .i64 ra, .int .i64 rb, .int .i64 rc, .string ly] 43)
  | true, true, false => CrA q X nc y z na vo su sd lu ld ra rb rc ly xs W0 v W
  | true, true, true => ∃ W7, CrA q X nc y z na vo su sd lu ld ra rb rc ly xs W0 v W7 ∧ W = W7.setCell ⟨q, 0, none⟩ v
  | _, _, _ => False
/-- What holds between the operations of chord's one statement that draws. -/
def CrI (q X nc y z : Nat) (na : Option Addr) (vo su sd lu ld ra rb rc : Int) (ly : ByteArray) (xs : List Value) (W0 : World) (s1 s2 s3 s4 s5 s8 s10 s11 s13 s14 s15 s16 s17 s18 s19 s20 s21 s22 s23 s24 s25 s26 s27 s28 s29 s30 s31 s32 s51 s52 s53 s54 s55 s56 s57 : Value) (L : Array Bool) (A : Act) (W : World) : Prop :=
  L.size = 19 ∧ (L[15]?.getD false = true → L[4]?.getD false = true) ∧ (L[14]?.getD false = true → L[8]?.getD false = true ∧ L[9]?.getD false = true ∧ L[10]?.getD false = true ∧ L[11]?.getD false = true) ∧ (L[13]?.getD false = true → L[8]?.getD false = true ∧ L[9]?.getD false = true ∧ L[10]?.getD false = true ∧ L[11]?.getD false = true) ∧ ∃ (t33 t34 t35 t36 t37 t38 t39 t40 t41 t42 t43 t44 t45 t46 t47 t48 t49 t50 : Value), A = { tmps := #[.pointer (some ⟨q, 0, none⟩), s1, s2, s3, s4, s5, .pointer (some ⟨y + 1, 0, none⟩), .pointer (some ⟨y + 1 + 1, 0, none⟩), s8, .string ly, s10, s11, .pointer (some ⟨z, 0, none⟩), s13, s14, s15, s16, s17, s18, s19, s20, s21, s22, s23, s24, s25, s26, s27, s28, s29, s30, s31, s32, t33, t34, t35, t36, t37, t38, t39, t40, t41, t42, t43, t44, t45, t46, t47, t48, t49, t50, s51, s52, s53, s54, s55, s56, s57], defers := [] } ∧ CrW q X nc y z na vo su sd lu ld ra rb rc ly xs W0 t48 W (L[14]?.getD false) (L[15]?.getD false) (L[18]?.getD false) ∧
  (L[0]?.getD false = true → t33 = .pointer (some ⟨q, 0, none⟩)) ∧
  (L[1]?.getD false = true → t34 = .pointer (some ⟨q, 0, none⟩)) ∧
  (L[2]?.getD false = true → t35 = .pointer (some ⟨q, 0, none⟩)) ∧
  (L[3]?.getD false = true → t36 = .pointer (some ⟨q, 0, none⟩)) ∧
  (L[4]?.getD false = true → t37 = .slice na X nc) ∧
  (L[5]?.getD false = true → t38 = .pointer (some ⟨q, 0, none⟩)) ∧
  (L[6]?.getD false = true → t39 = .pointer (some ⟨q, 0, none⟩)) ∧
  (L[7]?.getD false = true → t40 = .pointer (some ⟨q, 1, none⟩)) ∧
  (L[8]?.getD false = true → t41 = .int .i64 vo) ∧
  (L[9]?.getD false = true → t42 = .agg #[.int .i64 su, .int .i64 sd]) ∧
  (L[10]?.getD false = true → t43 = .agg #[.int .i64 lu, .int .i64 ld]) ∧
  (L[11]?.getD false = true → t44 = .agg #[.int .i64 ra, .int .i64 rb, .int .i64 rc]) ∧
  (L[12]?.getD false = true → t45 = .string ly) ∧
  (L[13]?.getD false = true → t46 = .agg #[.int .i64 vo, .int .i64 su, .int .i64 sd, .int .i64 lu, .int .i64 ld, .int .i64 ra, .int .i64 rb, .int .i64 rc, .string ly]) ∧
  (L[14]?.getD false = true → t47 = .slice (some ⟨z + 1, 0, none⟩) 1 1) ∧
  (L[16]?.getD false = true → t49 = .pointer (some ⟨q, 0, none⟩)) ∧
  (L[17]?.getD false = true → t50 = .pointer (some ⟨q, 0, none⟩))

set_option maxRecDepth 20000 in
set_option maxHeartbeats 8000000 in
theorem chord_region {Q : Exit → Act → World → Prop} (q X nc y z : Nat) (na : Option Addr) (vo su sd lu ld ra rb rc : Int) (ly : ByteArray) (xs : List Value) (W0 : World) (s1 s2 s3 s4 s5 s8 s10 s11 s13 s14 s15 s16 s17 s18 s19 s20 s21 s22 s23 s24 s25 s26 s27 s28 s29 s30 s31 s32 s51 s52 s53 s54 s55 s56 s57 u33 u34 u35 u36 u37 u38 u39 u40 u41 u42 u43 u44 u45 u46 u47 u48 u49 u50 : Value) (V : World) (i0 : TypeInfo) (hi : Tryz.prog.info? 43 = some i0) (hz0 : i0.zero = some (.agg #[.int .i64 0, .int .i64 0, .int .i64 0, .int .i64 0, .int .i64 0, .int .i64 0, .int .i64 0, .int .i64 0, .string ⟨#[]⟩])) (hz1 : i0.size = 9) (hz2 : i0.bytes = 80)
    (hV : W0 = V.drew) (hX : X < 1099511627777) (hld : ∀ W, (W = W0 ∨ W = W0.alloc (Obj.cells #[.int .i64 vo, .int .i64 su, .int .i64 sd, .int .i64 lu, .int .i64 ld, .int .i64 ra, .int .i64 rb, .int .i64 rc, .string ly] 43)) → (fun w' : World => w'.cell? ⟨q, 0, none⟩ = some (.slice na X nc) ∧ w'.cell? ⟨q, 1, none⟩ = some (.int .i64 vo) ∧ w'.cell? ⟨y + 1, 0, none⟩ = some (.int .i64 su) ∧ w'.cell? ⟨y + 1, 1, none⟩ = some (.int .i64 sd) ∧ w'.cell? ⟨y + 1 + 1, 0, none⟩ = some (.int .i64 lu) ∧ w'.cell? ⟨y + 1 + 1, 1, none⟩ = some (.int .i64 ld) ∧ w'.cell? ⟨z, 0, none⟩ = some (.int .i64 ra) ∧ w'.cell? ⟨z, 1, none⟩ = some (.int .i64 rb) ∧ w'.cell? ⟨z, 2, none⟩ = some (.int .i64 rc)) W) (how : (W0.alloc (Obj.cells #[.int .i64 vo, .int .i64 su, .int .i64 sd, .int .i64 lu, .int .i64 ld, .int .i64 ra, .int .i64 rb, .int .i64 rc, .string ly] 43)).ownsRow (q + 1) 43 9 (.slice na X nc) X xs)
    (hnew : ∀ j u, ([.int .i64 vo, .int .i64 su, .int .i64 sd, .int .i64 lu, .int .i64 ld, .int .i64 ra, .int .i64 rb, .int .i64 rc, .string ly] : List Value)[j]? = some u → (W0.alloc (Obj.cells #[.int .i64 vo, .int .i64 su, .int .i64 sd, .int .i64 lu, .int .i64 ld, .int .i64 ra, .int .i64 rb, .int .i64 rc, .string ly] 43)).cell? ((⟨z + 1, 0, none⟩ : Addr).add j) = some u) (hzz : W0.heap.size = z + 1) (hqz : q < z)
    (hst : ∀ W, (W0.alloc (Obj.cells #[.int .i64 vo, .int .i64 su, .int .i64 sd, .int .i64 lu, .int .i64 ld, .int .i64 ra, .int .i64 rb, .int .i64 rc, .string ly] 43)).grownBy W (Value.slice na X nc).ownBlock → W.cell? ⟨q, 0, none⟩ = some (.slice na X nc) ∧ W.frozen? ⟨q, 0, none⟩ = false ∧ q < W.heap.size)
    (hQ : ∀ v W7, CrA q X nc y z na vo su sd lu ld ra rb rc ly xs W0 v W7 → Q .normal { tmps := #[.pointer (some ⟨q, 0, none⟩), s1, s2, s3, s4, s5, .pointer (some ⟨y + 1, 0, none⟩), .pointer (some ⟨y + 1 + 1, 0, none⟩), s8, .string ly, s10, s11, .pointer (some ⟨z, 0, none⟩), s13, s14, s15, s16, s17, s18, s19, s20, s21, s22, s23, s24, s25, s26, s27, s28, s29, s30, s31, s32, .pointer (some ⟨q, 0, none⟩), .pointer (some ⟨q, 0, none⟩), .pointer (some ⟨q, 0, none⟩), .pointer (some ⟨q, 0, none⟩), .slice na X nc, .pointer (some ⟨q, 0, none⟩), .pointer (some ⟨q, 0, none⟩), .pointer (some ⟨q, 1, none⟩), .int .i64 vo, .agg #[.int .i64 su, .int .i64 sd], .agg #[.int .i64 lu, .int .i64 ld], .agg #[.int .i64 ra, .int .i64 rb, .int .i64 rc], .string ly, .agg #[.int .i64 vo, .int .i64 su, .int .i64 sd, .int .i64 lu, .int .i64 ld, .int .i64 ra, .int .i64 rb, .int .i64 rc, .string ly], .slice (some ⟨z + 1, 0, none⟩) 1 1, v, .pointer (some ⟨q, 0, none⟩), .pointer (some ⟨q, 0, none⟩), s51, s52, s53, s54, s55, s56, s57], defers := [] } (W7.setCell ⟨q, 0, none⟩ v)) :
    Code.wp Tryz.prog (Code.region 8 #[{ dst := some 33, op := Op.move (Operand.tmp 0), type := 71, pos := "notes.go:119", after := #[], guard := none }, { dst := some 34, op := Op.move (Operand.tmp 0), type := 71, pos := "notes.go:119", after := #[], guard := none }, { dst := some 35, op := Op.nilCheck (Operand.tmp 34), type := 0, pos := "notes.go:119", after := #[{ on := 1, ground := Ground.data }], guard := none }, { dst := some 36, op := Op.fieldAddr 54 (Operand.tmp 35) 0, type := 0, pos := "notes.go:119", after := #[{ on := 2, ground := Ground.data }], guard := none }, { dst := some 37, op := Op.load 26 (Operand.tmp 36), type := 26, pos := "notes.go:119", after := #[{ on := 3, ground := Ground.data }], guard := none }, { dst := some 38, op := Op.move (Operand.tmp 0), type := 71, pos := "notes.go:119", after := #[], guard := none }, { dst := some 39, op := Op.nilCheck (Operand.tmp 38), type := 0, pos := "notes.go:119", after := #[{ on := 5, ground := Ground.data }], guard := none }, { dst := some 40, op := Op.fieldAddr 54 (Operand.tmp 39) 1, type := 0, pos := "notes.go:119", after := #[{ on := 6, ground := Ground.data }], guard := none }, { dst := some 41, op := Op.load 3 (Operand.tmp 40), type := 3, pos := "notes.go:119", after := #[{ on := 7, ground := Ground.data }], guard := none }, { dst := some 42, op := Op.load 36 (Operand.tmp 6), type := 36, pos := "notes.go:119", after := #[], guard := none }, { dst := some 43, op := Op.load 36 (Operand.tmp 7), type := 36, pos := "notes.go:119", after := #[], guard := none }, { dst := some 44, op := Op.load 41 (Operand.tmp 12), type := 41, pos := "notes.go:119", after := #[], guard := none }, { dst := some 45, op := Op.move (Operand.tmp 9), type := 9, pos := "notes.go:119", after := #[], guard := none }, { dst := some 46, op := Op.build 43 #[(0, Operand.tmp 41), (1, Operand.tmp 42), (2, Operand.tmp 43), (3, Operand.tmp 44), (4, Operand.tmp 45)], type := 43, pos := "notes.go:119", after := #[{ on := 8, ground := Ground.data }, { on := 9, ground := Ground.data }, { on := 10, ground := Ground.data }, { on := 11, ground := Ground.data }, { on := 12, ground := Ground.data }], guard := none }, { dst := some 47, op := Op.buildSlice 26 1 #[(0, Operand.tmp 46)], type := 26, pos := "notes.go:119", after := #[{ on := 13, ground := Ground.data }], guard := none }, { dst := some 48, op := Op.call { callee := Callee.builtin Builtin.append, args := #[Operand.tmp 37, Operand.tmp 47], argTypes := #[26, 26] }, type := 26, pos := "notes.go:119", after := #[{ on := 4, ground := Ground.data }, { on := 14, ground := Ground.data }], guard := none }, { dst := some 49, op := Op.nilCheck (Operand.tmp 33), type := 0, pos := "notes.go:119", after := #[{ on := 0, ground := Ground.data }, { on := 0, ground := Ground.phase }, { on := 1, ground := Ground.phase }, { on := 2, ground := Ground.phase }, { on := 3, ground := Ground.phase }, { on := 4, ground := Ground.phase }, { on := 5, ground := Ground.phase }, { on := 6, ground := Ground.phase }, { on := 7, ground := Ground.phase }, { on := 8, ground := Ground.phase }, { on := 9, ground := Ground.phase }, { on := 10, ground := Ground.phase }, { on := 11, ground := Ground.phase }, { on := 12, ground := Ground.phase }, { on := 13, ground := Ground.phase }, { on := 14, ground := Ground.phase }, { on := 15, ground := Ground.phase }], guard := none }, { dst := some 50, op := Op.fieldAddr 54 (Operand.tmp 49) 0, type := 0, pos := "notes.go:119", after := #[{ on := 16, ground := Ground.data }, { on := 0, ground := Ground.phase }, { on := 1, ground := Ground.phase }, { on := 2, ground := Ground.phase }, { on := 3, ground := Ground.phase }, { on := 4, ground := Ground.phase }, { on := 5, ground := Ground.phase }, { on := 6, ground := Ground.phase }, { on := 7, ground := Ground.phase }, { on := 8, ground := Ground.phase }, { on := 9, ground := Ground.phase }, { on := 10, ground := Ground.phase }, { on := 11, ground := Ground.phase }, { on := 12, ground := Ground.phase }, { on := 13, ground := Ground.phase }, { on := 14, ground := Ground.phase }, { on := 15, ground := Ground.phase }], guard := none }, { dst := none, op := Op.store 26 (Operand.tmp 50) (Operand.tmp 48), type := 0, pos := "notes.go:119", after := #[{ on := 17, ground := Ground.data }, { on := 15, ground := Ground.data }, { on := 15, ground := Ground.chain }, { on := 0, ground := Ground.phase }, { on := 1, ground := Ground.phase }, { on := 2, ground := Ground.phase }, { on := 3, ground := Ground.phase }, { on := 4, ground := Ground.phase }, { on := 5, ground := Ground.phase }, { on := 6, ground := Ground.phase }, { on := 7, ground := Ground.phase }, { on := 8, ground := Ground.phase }, { on := 9, ground := Ground.phase }, { on := 10, ground := Ground.phase }, { on := 11, ground := Ground.phase }, { on := 12, ground := Ground.phase }, { on := 13, ground := Ground.phase }, { on := 14, ground := Ground.phase }, { on := 15, ground := Ground.phase }], guard := none }] true) Q { tmps := #[.pointer (some ⟨q, 0, none⟩), s1, s2, s3, s4, s5, .pointer (some ⟨y + 1, 0, none⟩), .pointer (some ⟨y + 1 + 1, 0, none⟩), s8, .string ly, s10, s11, .pointer (some ⟨z, 0, none⟩), s13, s14, s15, s16, s17, s18, s19, s20, s21, s22, s23, s24, s25, s26, s27, s28, s29, s30, s31, s32, u33, u34, u35, u36, u37, u38, u39, u40, u41, u42, u43, u44, u45, u46, u47, u48, u49, u50, s51, s52, s53, s54, s55, s56, s57], defers := [] } V := by
  subst hV
  have hsz : z + 2 ≤ (V.drew.alloc (Obj.cells #[.int .i64 vo, .int .i64 su, .int .i64 sd, .int .i64 lu, .int .i64 ld, .int .i64 ra, .int .i64 rb, .int .i64 rc, .string ly] 43)).heap.size := by simp at hzz ⊢; omega
  have hz : z + 2 = (V.drew.alloc (Obj.cells #[.int .i64 vo, .int .i64 su, .int .i64 sd, .int .i64 lu, .int .i64 ld, .int .i64 ra, .int .i64 rb, .int .i64 rc, .string ly] 43)).heap.size := by simp at hzz ⊢; omega
  refine wp_region_any (by kernel_rfl) ?_
  refine wpAny_inv (CrI q X nc y z na vo su sd lu ld ra rb rc ly xs V.drew s1 s2 s3 s4 s5 s8 s10 s11 s13 s14 s15 s16 s17 s18 s19 s20 s21 s22 s23 s24 s25 s26 s27 s28 s29 s30 s31 s32 s51 s52 s53 s54 s55 s56 s57) (fun L A W h => h.1.trans rfl) ?done ?step _ _ _ _ ?init ?fuel
  case fuel => decide
  case init =>
    exact ⟨rfl, fun h => (by cases h), fun h => (by cases h), fun h => (by cases h), u33, u34, u35, u36, u37, u38, u39, u40, u41, u42, u43, u44, u45, u46, u47, u48, u49, u50, rfl, rfl, fun h => (by cases h), fun h => (by cases h), fun h => (by cases h), fun h => (by cases h), fun h => (by cases h), fun h => (by cases h), fun h => (by cases h), fun h => (by cases h), fun h => (by cases h), fun h => (by cases h), fun h => (by cases h), fun h => (by cases h), fun h => (by cases h), fun h => (by cases h), fun h => (by cases h), fun h => (by cases h), fun h => (by cases h)⟩
  case done =>
    rintro L A W ⟨hs, hc15, hc14, hc13, t33, t34, t35, t36, t37, t38, t39, t40, t41, t42, t43, t44, t45, t46, t47, t48, t49, t50, rfl, hW, f0, f1, f2, f3, f4, f5, f6, f7, f8, f9, f10, f11, f12, f13, f14, f16, f17⟩ hr
    have e0 : L[0]?.getD false = true := rs_mem hr (by decide) hs (by simp [Region.binds])
    have e1 : L[1]?.getD false = true := rs_mem hr (by decide) hs (by simp [Region.binds])
    have e2 : L[2]?.getD false = true := rs_mem hr (by decide) hs (by simp [Region.binds, e1])
    have e3 : L[3]?.getD false = true := rs_mem hr (by decide) hs (by simp [Region.binds, e2])
    have e4 : L[4]?.getD false = true := rs_mem hr (by decide) hs (by simp [Region.binds, e3])
    have e5 : L[5]?.getD false = true := rs_mem hr (by decide) hs (by simp [Region.binds])
    have e6 : L[6]?.getD false = true := rs_mem hr (by decide) hs (by simp [Region.binds, e5])
    have e7 : L[7]?.getD false = true := rs_mem hr (by decide) hs (by simp [Region.binds, e6])
    have e8 : L[8]?.getD false = true := rs_mem hr (by decide) hs (by simp [Region.binds, e7])
    have e9 : L[9]?.getD false = true := rs_mem hr (by decide) hs (by simp [Region.binds])
    have e10 : L[10]?.getD false = true := rs_mem hr (by decide) hs (by simp [Region.binds])
    have e11 : L[11]?.getD false = true := rs_mem hr (by decide) hs (by simp [Region.binds])
    have e12 : L[12]?.getD false = true := rs_mem hr (by decide) hs (by simp [Region.binds])
    have e13 : L[13]?.getD false = true := rs_mem hr (by decide) hs (by simp [Region.binds, e8, e9, e10, e11, e12])
    have e14 : L[14]?.getD false = true := rs_mem hr (by decide) hs (by simp [Region.binds, e13])
    have e15 : L[15]?.getD false = true := rs_mem hr (by decide) hs (by simp [Region.binds, e4, e14])
    have e16 : L[16]?.getD false = true := rs_mem hr (by decide) hs (by simp [Region.binds, e0, e1, e2, e3, e4, e5, e6, e7, e8, e9, e10, e11, e12, e13, e14, e15])
    have e17 : L[17]?.getD false = true := rs_mem hr (by decide) hs (by simp [Region.binds, e0, e1, e2, e3, e4, e5, e6, e7, e8, e9, e10, e11, e12, e13, e14, e15, e16])
    have e18 : L[18]?.getD false = true := rs_mem hr (by decide) hs (by simp [Region.binds, e0, e1, e2, e3, e4, e5, e6, e7, e8, e9, e10, e11, e12, e13, e14, e15, e17])
    obtain rfl := f0 e0
    obtain rfl := f1 e1
    obtain rfl := f2 e2
    obtain rfl := f3 e3
    obtain rfl := f4 e4
    obtain rfl := f5 e5
    obtain rfl := f6 e6
    obtain rfl := f7 e7
    obtain rfl := f8 e8
    obtain rfl := f9 e9
    obtain rfl := f10 e10
    obtain rfl := f11 e11
    obtain rfl := f12 e12
    obtain rfl := f13 e13
    obtain rfl := f14 e14
    obtain rfl := f16 e16
    obtain rfl := f17 e17
    rw [e14, e15, e18] at hW
    obtain ⟨W7, hA, rfl⟩ := hW
    exact hQ _ _ hA
  case step =>
    rintro L A W ⟨hs, hc15, hc14, hc13, t33, t34, t35, t36, t37, t38, t39, t40, t41, t42, t43, t44, t45, t46, t47, t48, t49, t50, rfl, hW, f0, f1, f2, f3, f4, f5, f6, f7, f8, f9, f10, f11, f12, f13, f14, f16, f17⟩ i hi'
    obtain ⟨h1, h2, h3⟩ := ready_mem hi'
    have h1' : i < 19 := h1
    clear hi' h1
    generalize hW0 : V.drew = W0 at *
    rcases (show i = 0 ∨ i = 1 ∨ i = 2 ∨ i = 3 ∨ i = 4 ∨ i = 5 ∨ i = 6 ∨ i = 7 ∨ i = 8 ∨ i = 9 ∨ i = 10 ∨ i = 11 ∨ i = 12 ∨ i = 13 ∨ i = 14 ∨ i = 15 ∨ i = 16 ∨ i = 17 ∨ i = 18 by omega) with rfl | rfl | rfl | rfl | rfl | rfl | rfl | rfl | rfl | rfl | rfl | rfl | rfl | rfl | rfl | rfl | rfl | rfl | rfl
    · -- operation 0
      have g0 := rs_gd L 0 h2
      refine wpOp_step rfl (fun K' hK' => ?_)
      go_simp
      exact hK' _ _ ⟨by simpa using hs, fun h => by rw [rs_gs L 0 4 (by decide)]; exact hc15 (by rw [rs_gs L 0 15 (by decide)] at h; exact h), fun h => by rw [rs_gs L 0 8 (by decide), rs_gs L 0 9 (by decide), rs_gs L 0 10 (by decide), rs_gs L 0 11 (by decide)]; exact hc14 (by rw [rs_gs L 0 14 (by decide)] at h; exact h), fun h => by rw [rs_gs L 0 8 (by decide), rs_gs L 0 9 (by decide), rs_gs L 0 10 (by decide), rs_gs L 0 11 (by decide)]; exact hc13 (by rw [rs_gs L 0 13 (by decide)] at h; exact h), _, _, _, _, _, _, _, _, _, _, _, _, _, _, _, _, _, _, rfl, by rw [rs_gs L 0 14 (by decide), rs_gs L 0 15 (by decide), rs_gs L 0 18 (by decide)]; exact hW, fun _ => rfl, fun h => f1 (by rw [rs_gs L 0 1 (by decide)] at h; exact h), fun h => f2 (by rw [rs_gs L 0 2 (by decide)] at h; exact h), fun h => f3 (by rw [rs_gs L 0 3 (by decide)] at h; exact h), fun h => f4 (by rw [rs_gs L 0 4 (by decide)] at h; exact h), fun h => f5 (by rw [rs_gs L 0 5 (by decide)] at h; exact h), fun h => f6 (by rw [rs_gs L 0 6 (by decide)] at h; exact h), fun h => f7 (by rw [rs_gs L 0 7 (by decide)] at h; exact h), fun h => f8 (by rw [rs_gs L 0 8 (by decide)] at h; exact h), fun h => f9 (by rw [rs_gs L 0 9 (by decide)] at h; exact h), fun h => f10 (by rw [rs_gs L 0 10 (by decide)] at h; exact h), fun h => f11 (by rw [rs_gs L 0 11 (by decide)] at h; exact h), fun h => f12 (by rw [rs_gs L 0 12 (by decide)] at h; exact h), fun h => f13 (by rw [rs_gs L 0 13 (by decide)] at h; exact h), fun h => f14 (by rw [rs_gs L 0 14 (by decide)] at h; exact h), fun h => f16 (by rw [rs_gs L 0 16 (by decide)] at h; exact h), fun h => f17 (by rw [rs_gs L 0 17 (by decide)] at h; exact h)⟩
    · -- operation 1
      have g1 := rs_gd L 1 h2
      refine wpOp_step rfl (fun K' hK' => ?_)
      go_simp
      exact hK' _ _ ⟨by simpa using hs, fun h => by rw [rs_gs L 1 4 (by decide)]; exact hc15 (by rw [rs_gs L 1 15 (by decide)] at h; exact h), fun h => by rw [rs_gs L 1 8 (by decide), rs_gs L 1 9 (by decide), rs_gs L 1 10 (by decide), rs_gs L 1 11 (by decide)]; exact hc14 (by rw [rs_gs L 1 14 (by decide)] at h; exact h), fun h => by rw [rs_gs L 1 8 (by decide), rs_gs L 1 9 (by decide), rs_gs L 1 10 (by decide), rs_gs L 1 11 (by decide)]; exact hc13 (by rw [rs_gs L 1 13 (by decide)] at h; exact h), _, _, _, _, _, _, _, _, _, _, _, _, _, _, _, _, _, _, rfl, by rw [rs_gs L 1 14 (by decide), rs_gs L 1 15 (by decide), rs_gs L 1 18 (by decide)]; exact hW, fun h => f0 (by rw [rs_gs L 1 0 (by decide)] at h; exact h), fun _ => rfl, fun h => f2 (by rw [rs_gs L 1 2 (by decide)] at h; exact h), fun h => f3 (by rw [rs_gs L 1 3 (by decide)] at h; exact h), fun h => f4 (by rw [rs_gs L 1 4 (by decide)] at h; exact h), fun h => f5 (by rw [rs_gs L 1 5 (by decide)] at h; exact h), fun h => f6 (by rw [rs_gs L 1 6 (by decide)] at h; exact h), fun h => f7 (by rw [rs_gs L 1 7 (by decide)] at h; exact h), fun h => f8 (by rw [rs_gs L 1 8 (by decide)] at h; exact h), fun h => f9 (by rw [rs_gs L 1 9 (by decide)] at h; exact h), fun h => f10 (by rw [rs_gs L 1 10 (by decide)] at h; exact h), fun h => f11 (by rw [rs_gs L 1 11 (by decide)] at h; exact h), fun h => f12 (by rw [rs_gs L 1 12 (by decide)] at h; exact h), fun h => f13 (by rw [rs_gs L 1 13 (by decide)] at h; exact h), fun h => f14 (by rw [rs_gs L 1 14 (by decide)] at h; exact h), fun h => f16 (by rw [rs_gs L 1 16 (by decide)] at h; exact h), fun h => f17 (by rw [rs_gs L 1 17 (by decide)] at h; exact h)⟩
    · -- operation 2
      simp [Region.binds] at h3
      obtain rfl := f1 h3
      have g2 := rs_gd L 2 h2
      refine wpOp_step rfl (fun K' hK' => ?_)
      go_simp
      exact hK' _ _ ⟨by simpa using hs, fun h => by rw [rs_gs L 2 4 (by decide)]; exact hc15 (by rw [rs_gs L 2 15 (by decide)] at h; exact h), fun h => by rw [rs_gs L 2 8 (by decide), rs_gs L 2 9 (by decide), rs_gs L 2 10 (by decide), rs_gs L 2 11 (by decide)]; exact hc14 (by rw [rs_gs L 2 14 (by decide)] at h; exact h), fun h => by rw [rs_gs L 2 8 (by decide), rs_gs L 2 9 (by decide), rs_gs L 2 10 (by decide), rs_gs L 2 11 (by decide)]; exact hc13 (by rw [rs_gs L 2 13 (by decide)] at h; exact h), _, _, _, _, _, _, _, _, _, _, _, _, _, _, _, _, _, _, rfl, by rw [rs_gs L 2 14 (by decide), rs_gs L 2 15 (by decide), rs_gs L 2 18 (by decide)]; exact hW, fun h => f0 (by rw [rs_gs L 2 0 (by decide)] at h; exact h), fun h => f1 (by rw [rs_gs L 2 1 (by decide)] at h; exact h), fun _ => rfl, fun h => f3 (by rw [rs_gs L 2 3 (by decide)] at h; exact h), fun h => f4 (by rw [rs_gs L 2 4 (by decide)] at h; exact h), fun h => f5 (by rw [rs_gs L 2 5 (by decide)] at h; exact h), fun h => f6 (by rw [rs_gs L 2 6 (by decide)] at h; exact h), fun h => f7 (by rw [rs_gs L 2 7 (by decide)] at h; exact h), fun h => f8 (by rw [rs_gs L 2 8 (by decide)] at h; exact h), fun h => f9 (by rw [rs_gs L 2 9 (by decide)] at h; exact h), fun h => f10 (by rw [rs_gs L 2 10 (by decide)] at h; exact h), fun h => f11 (by rw [rs_gs L 2 11 (by decide)] at h; exact h), fun h => f12 (by rw [rs_gs L 2 12 (by decide)] at h; exact h), fun h => f13 (by rw [rs_gs L 2 13 (by decide)] at h; exact h), fun h => f14 (by rw [rs_gs L 2 14 (by decide)] at h; exact h), fun h => f16 (by rw [rs_gs L 2 16 (by decide)] at h; exact h), fun h => f17 (by rw [rs_gs L 2 17 (by decide)] at h; exact h)⟩
    · -- operation 3
      simp [Region.binds] at h3
      obtain rfl := f2 h3
      have g3 := rs_gd L 3 h2
      refine wpOp_step rfl (fun K' hK' => ?_)
      go_simp
      exact hK' _ _ ⟨by simpa using hs, fun h => by rw [rs_gs L 3 4 (by decide)]; exact hc15 (by rw [rs_gs L 3 15 (by decide)] at h; exact h), fun h => by rw [rs_gs L 3 8 (by decide), rs_gs L 3 9 (by decide), rs_gs L 3 10 (by decide), rs_gs L 3 11 (by decide)]; exact hc14 (by rw [rs_gs L 3 14 (by decide)] at h; exact h), fun h => by rw [rs_gs L 3 8 (by decide), rs_gs L 3 9 (by decide), rs_gs L 3 10 (by decide), rs_gs L 3 11 (by decide)]; exact hc13 (by rw [rs_gs L 3 13 (by decide)] at h; exact h), _, _, _, _, _, _, _, _, _, _, _, _, _, _, _, _, _, _, rfl, by rw [rs_gs L 3 14 (by decide), rs_gs L 3 15 (by decide), rs_gs L 3 18 (by decide)]; exact hW, fun h => f0 (by rw [rs_gs L 3 0 (by decide)] at h; exact h), fun h => f1 (by rw [rs_gs L 3 1 (by decide)] at h; exact h), fun h => f2 (by rw [rs_gs L 3 2 (by decide)] at h; exact h), fun _ => rfl, fun h => f4 (by rw [rs_gs L 3 4 (by decide)] at h; exact h), fun h => f5 (by rw [rs_gs L 3 5 (by decide)] at h; exact h), fun h => f6 (by rw [rs_gs L 3 6 (by decide)] at h; exact h), fun h => f7 (by rw [rs_gs L 3 7 (by decide)] at h; exact h), fun h => f8 (by rw [rs_gs L 3 8 (by decide)] at h; exact h), fun h => f9 (by rw [rs_gs L 3 9 (by decide)] at h; exact h), fun h => f10 (by rw [rs_gs L 3 10 (by decide)] at h; exact h), fun h => f11 (by rw [rs_gs L 3 11 (by decide)] at h; exact h), fun h => f12 (by rw [rs_gs L 3 12 (by decide)] at h; exact h), fun h => f13 (by rw [rs_gs L 3 13 (by decide)] at h; exact h), fun h => f14 (by rw [rs_gs L 3 14 (by decide)] at h; exact h), fun h => f16 (by rw [rs_gs L 3 16 (by decide)] at h; exact h), fun h => f17 (by rw [rs_gs L 3 17 (by decide)] at h; exact h)⟩
    · -- operation 4
      simp [Region.binds] at h3
      obtain rfl := f3 h3
      have g4 := rs_gd L 4 h2
      have hS : (fun w' : World => w'.cell? ⟨q, 0, none⟩ = some (.slice na X nc) ∧ w'.cell? ⟨q, 1, none⟩ = some (.int .i64 vo) ∧ w'.cell? ⟨y + 1, 0, none⟩ = some (.int .i64 su) ∧ w'.cell? ⟨y + 1, 1, none⟩ = some (.int .i64 sd) ∧ w'.cell? ⟨y + 1 + 1, 0, none⟩ = some (.int .i64 lu) ∧ w'.cell? ⟨y + 1 + 1, 1, none⟩ = some (.int .i64 ld) ∧ w'.cell? ⟨z, 0, none⟩ = some (.int .i64 ra) ∧ w'.cell? ⟨z, 1, none⟩ = some (.int .i64 rb) ∧ w'.cell? ⟨z, 2, none⟩ = some (.int .i64 rc)) W := hld W (by
        revert hW
        cases h15 : L[15]?.getD false with | true => rw [hc15 h15] at g4; cases g4 | false =>
        cases L[14]?.getD false <;> cases L[18]?.getD false <;> intro hW <;> first | exact False.elim hW | exact .inl hW | exact .inr hW)
      obtain ⟨k0, k1, k2, k3, k4, k5, k6, k7, k8⟩ := hS
      refine wpOp_step rfl (fun K' hK' => ?_)
      go_simp
      exact hK' _ _ ⟨by simpa using hs, fun h => rs_at L 4 (by omega), fun h => by rw [rs_gs L 4 8 (by decide), rs_gs L 4 9 (by decide), rs_gs L 4 10 (by decide), rs_gs L 4 11 (by decide)]; exact hc14 (by rw [rs_gs L 4 14 (by decide)] at h; exact h), fun h => by rw [rs_gs L 4 8 (by decide), rs_gs L 4 9 (by decide), rs_gs L 4 10 (by decide), rs_gs L 4 11 (by decide)]; exact hc13 (by rw [rs_gs L 4 13 (by decide)] at h; exact h), _, _, _, _, _, _, _, _, _, _, _, _, _, _, _, _, _, _, rfl, by rw [rs_gs L 4 14 (by decide), rs_gs L 4 15 (by decide), rs_gs L 4 18 (by decide)]; exact hW, fun h => f0 (by rw [rs_gs L 4 0 (by decide)] at h; exact h), fun h => f1 (by rw [rs_gs L 4 1 (by decide)] at h; exact h), fun h => f2 (by rw [rs_gs L 4 2 (by decide)] at h; exact h), fun h => f3 (by rw [rs_gs L 4 3 (by decide)] at h; exact h), fun _ => rfl, fun h => f5 (by rw [rs_gs L 4 5 (by decide)] at h; exact h), fun h => f6 (by rw [rs_gs L 4 6 (by decide)] at h; exact h), fun h => f7 (by rw [rs_gs L 4 7 (by decide)] at h; exact h), fun h => f8 (by rw [rs_gs L 4 8 (by decide)] at h; exact h), fun h => f9 (by rw [rs_gs L 4 9 (by decide)] at h; exact h), fun h => f10 (by rw [rs_gs L 4 10 (by decide)] at h; exact h), fun h => f11 (by rw [rs_gs L 4 11 (by decide)] at h; exact h), fun h => f12 (by rw [rs_gs L 4 12 (by decide)] at h; exact h), fun h => f13 (by rw [rs_gs L 4 13 (by decide)] at h; exact h), fun h => f14 (by rw [rs_gs L 4 14 (by decide)] at h; exact h), fun h => f16 (by rw [rs_gs L 4 16 (by decide)] at h; exact h), fun h => f17 (by rw [rs_gs L 4 17 (by decide)] at h; exact h)⟩
    · -- operation 5
      have g5 := rs_gd L 5 h2
      refine wpOp_step rfl (fun K' hK' => ?_)
      go_simp
      exact hK' _ _ ⟨by simpa using hs, fun h => by rw [rs_gs L 5 4 (by decide)]; exact hc15 (by rw [rs_gs L 5 15 (by decide)] at h; exact h), fun h => by rw [rs_gs L 5 8 (by decide), rs_gs L 5 9 (by decide), rs_gs L 5 10 (by decide), rs_gs L 5 11 (by decide)]; exact hc14 (by rw [rs_gs L 5 14 (by decide)] at h; exact h), fun h => by rw [rs_gs L 5 8 (by decide), rs_gs L 5 9 (by decide), rs_gs L 5 10 (by decide), rs_gs L 5 11 (by decide)]; exact hc13 (by rw [rs_gs L 5 13 (by decide)] at h; exact h), _, _, _, _, _, _, _, _, _, _, _, _, _, _, _, _, _, _, rfl, by rw [rs_gs L 5 14 (by decide), rs_gs L 5 15 (by decide), rs_gs L 5 18 (by decide)]; exact hW, fun h => f0 (by rw [rs_gs L 5 0 (by decide)] at h; exact h), fun h => f1 (by rw [rs_gs L 5 1 (by decide)] at h; exact h), fun h => f2 (by rw [rs_gs L 5 2 (by decide)] at h; exact h), fun h => f3 (by rw [rs_gs L 5 3 (by decide)] at h; exact h), fun h => f4 (by rw [rs_gs L 5 4 (by decide)] at h; exact h), fun _ => rfl, fun h => f6 (by rw [rs_gs L 5 6 (by decide)] at h; exact h), fun h => f7 (by rw [rs_gs L 5 7 (by decide)] at h; exact h), fun h => f8 (by rw [rs_gs L 5 8 (by decide)] at h; exact h), fun h => f9 (by rw [rs_gs L 5 9 (by decide)] at h; exact h), fun h => f10 (by rw [rs_gs L 5 10 (by decide)] at h; exact h), fun h => f11 (by rw [rs_gs L 5 11 (by decide)] at h; exact h), fun h => f12 (by rw [rs_gs L 5 12 (by decide)] at h; exact h), fun h => f13 (by rw [rs_gs L 5 13 (by decide)] at h; exact h), fun h => f14 (by rw [rs_gs L 5 14 (by decide)] at h; exact h), fun h => f16 (by rw [rs_gs L 5 16 (by decide)] at h; exact h), fun h => f17 (by rw [rs_gs L 5 17 (by decide)] at h; exact h)⟩
    · -- operation 6
      simp [Region.binds] at h3
      obtain rfl := f5 h3
      have g6 := rs_gd L 6 h2
      refine wpOp_step rfl (fun K' hK' => ?_)
      go_simp
      exact hK' _ _ ⟨by simpa using hs, fun h => by rw [rs_gs L 6 4 (by decide)]; exact hc15 (by rw [rs_gs L 6 15 (by decide)] at h; exact h), fun h => by rw [rs_gs L 6 8 (by decide), rs_gs L 6 9 (by decide), rs_gs L 6 10 (by decide), rs_gs L 6 11 (by decide)]; exact hc14 (by rw [rs_gs L 6 14 (by decide)] at h; exact h), fun h => by rw [rs_gs L 6 8 (by decide), rs_gs L 6 9 (by decide), rs_gs L 6 10 (by decide), rs_gs L 6 11 (by decide)]; exact hc13 (by rw [rs_gs L 6 13 (by decide)] at h; exact h), _, _, _, _, _, _, _, _, _, _, _, _, _, _, _, _, _, _, rfl, by rw [rs_gs L 6 14 (by decide), rs_gs L 6 15 (by decide), rs_gs L 6 18 (by decide)]; exact hW, fun h => f0 (by rw [rs_gs L 6 0 (by decide)] at h; exact h), fun h => f1 (by rw [rs_gs L 6 1 (by decide)] at h; exact h), fun h => f2 (by rw [rs_gs L 6 2 (by decide)] at h; exact h), fun h => f3 (by rw [rs_gs L 6 3 (by decide)] at h; exact h), fun h => f4 (by rw [rs_gs L 6 4 (by decide)] at h; exact h), fun h => f5 (by rw [rs_gs L 6 5 (by decide)] at h; exact h), fun _ => rfl, fun h => f7 (by rw [rs_gs L 6 7 (by decide)] at h; exact h), fun h => f8 (by rw [rs_gs L 6 8 (by decide)] at h; exact h), fun h => f9 (by rw [rs_gs L 6 9 (by decide)] at h; exact h), fun h => f10 (by rw [rs_gs L 6 10 (by decide)] at h; exact h), fun h => f11 (by rw [rs_gs L 6 11 (by decide)] at h; exact h), fun h => f12 (by rw [rs_gs L 6 12 (by decide)] at h; exact h), fun h => f13 (by rw [rs_gs L 6 13 (by decide)] at h; exact h), fun h => f14 (by rw [rs_gs L 6 14 (by decide)] at h; exact h), fun h => f16 (by rw [rs_gs L 6 16 (by decide)] at h; exact h), fun h => f17 (by rw [rs_gs L 6 17 (by decide)] at h; exact h)⟩
    · -- operation 7
      simp [Region.binds] at h3
      obtain rfl := f6 h3
      have g7 := rs_gd L 7 h2
      refine wpOp_step rfl (fun K' hK' => ?_)
      go_simp
      exact hK' _ _ ⟨by simpa using hs, fun h => by rw [rs_gs L 7 4 (by decide)]; exact hc15 (by rw [rs_gs L 7 15 (by decide)] at h; exact h), fun h => by rw [rs_gs L 7 8 (by decide), rs_gs L 7 9 (by decide), rs_gs L 7 10 (by decide), rs_gs L 7 11 (by decide)]; exact hc14 (by rw [rs_gs L 7 14 (by decide)] at h; exact h), fun h => by rw [rs_gs L 7 8 (by decide), rs_gs L 7 9 (by decide), rs_gs L 7 10 (by decide), rs_gs L 7 11 (by decide)]; exact hc13 (by rw [rs_gs L 7 13 (by decide)] at h; exact h), _, _, _, _, _, _, _, _, _, _, _, _, _, _, _, _, _, _, rfl, by rw [rs_gs L 7 14 (by decide), rs_gs L 7 15 (by decide), rs_gs L 7 18 (by decide)]; exact hW, fun h => f0 (by rw [rs_gs L 7 0 (by decide)] at h; exact h), fun h => f1 (by rw [rs_gs L 7 1 (by decide)] at h; exact h), fun h => f2 (by rw [rs_gs L 7 2 (by decide)] at h; exact h), fun h => f3 (by rw [rs_gs L 7 3 (by decide)] at h; exact h), fun h => f4 (by rw [rs_gs L 7 4 (by decide)] at h; exact h), fun h => f5 (by rw [rs_gs L 7 5 (by decide)] at h; exact h), fun h => f6 (by rw [rs_gs L 7 6 (by decide)] at h; exact h), fun _ => rfl, fun h => f8 (by rw [rs_gs L 7 8 (by decide)] at h; exact h), fun h => f9 (by rw [rs_gs L 7 9 (by decide)] at h; exact h), fun h => f10 (by rw [rs_gs L 7 10 (by decide)] at h; exact h), fun h => f11 (by rw [rs_gs L 7 11 (by decide)] at h; exact h), fun h => f12 (by rw [rs_gs L 7 12 (by decide)] at h; exact h), fun h => f13 (by rw [rs_gs L 7 13 (by decide)] at h; exact h), fun h => f14 (by rw [rs_gs L 7 14 (by decide)] at h; exact h), fun h => f16 (by rw [rs_gs L 7 16 (by decide)] at h; exact h), fun h => f17 (by rw [rs_gs L 7 17 (by decide)] at h; exact h)⟩
    · -- operation 8
      simp [Region.binds] at h3
      obtain rfl := f7 h3
      have g8 := rs_gd L 8 h2
      have hS : (fun w' : World => w'.cell? ⟨q, 0, none⟩ = some (.slice na X nc) ∧ w'.cell? ⟨q, 1, none⟩ = some (.int .i64 vo) ∧ w'.cell? ⟨y + 1, 0, none⟩ = some (.int .i64 su) ∧ w'.cell? ⟨y + 1, 1, none⟩ = some (.int .i64 sd) ∧ w'.cell? ⟨y + 1 + 1, 0, none⟩ = some (.int .i64 lu) ∧ w'.cell? ⟨y + 1 + 1, 1, none⟩ = some (.int .i64 ld) ∧ w'.cell? ⟨z, 0, none⟩ = some (.int .i64 ra) ∧ w'.cell? ⟨z, 1, none⟩ = some (.int .i64 rb) ∧ w'.cell? ⟨z, 2, none⟩ = some (.int .i64 rc)) W := hld W (by
        revert hW
        cases h14 : L[14]?.getD false with | true => rw [(hc14 h14).1] at g8; cases g8 | false =>
        cases L[15]?.getD false <;> cases L[18]?.getD false <;> intro hW <;> first | exact False.elim hW | exact .inl hW)
      obtain ⟨k0, k1, k2, k3, k4, k5, k6, k7, k8⟩ := hS
      refine wpOp_step rfl (fun K' hK' => ?_)
      go_simp
      exact hK' _ _ ⟨by simpa using hs, fun h => by rw [rs_gs L 8 4 (by decide)]; exact hc15 (by rw [rs_gs L 8 15 (by decide)] at h; exact h), fun h => by have := hc14 (by rw [rs_gs L 8 14 (by decide)] at h; exact h); exact ⟨rs_at L 8 (by omega), by rw [rs_gs L 8 9 (by decide)]; exact this.2.1, by rw [rs_gs L 8 10 (by decide)]; exact this.2.2.1, by rw [rs_gs L 8 11 (by decide)]; exact this.2.2.2⟩, fun h => by have := hc13 (by rw [rs_gs L 8 13 (by decide)] at h; exact h); exact ⟨rs_at L 8 (by omega), by rw [rs_gs L 8 9 (by decide)]; exact this.2.1, by rw [rs_gs L 8 10 (by decide)]; exact this.2.2.1, by rw [rs_gs L 8 11 (by decide)]; exact this.2.2.2⟩, _, _, _, _, _, _, _, _, _, _, _, _, _, _, _, _, _, _, rfl, by rw [rs_gs L 8 14 (by decide), rs_gs L 8 15 (by decide), rs_gs L 8 18 (by decide)]; exact hW, fun h => f0 (by rw [rs_gs L 8 0 (by decide)] at h; exact h), fun h => f1 (by rw [rs_gs L 8 1 (by decide)] at h; exact h), fun h => f2 (by rw [rs_gs L 8 2 (by decide)] at h; exact h), fun h => f3 (by rw [rs_gs L 8 3 (by decide)] at h; exact h), fun h => f4 (by rw [rs_gs L 8 4 (by decide)] at h; exact h), fun h => f5 (by rw [rs_gs L 8 5 (by decide)] at h; exact h), fun h => f6 (by rw [rs_gs L 8 6 (by decide)] at h; exact h), fun h => f7 (by rw [rs_gs L 8 7 (by decide)] at h; exact h), fun _ => rfl, fun h => f9 (by rw [rs_gs L 8 9 (by decide)] at h; exact h), fun h => f10 (by rw [rs_gs L 8 10 (by decide)] at h; exact h), fun h => f11 (by rw [rs_gs L 8 11 (by decide)] at h; exact h), fun h => f12 (by rw [rs_gs L 8 12 (by decide)] at h; exact h), fun h => f13 (by rw [rs_gs L 8 13 (by decide)] at h; exact h), fun h => f14 (by rw [rs_gs L 8 14 (by decide)] at h; exact h), fun h => f16 (by rw [rs_gs L 8 16 (by decide)] at h; exact h), fun h => f17 (by rw [rs_gs L 8 17 (by decide)] at h; exact h)⟩
    · -- operation 9
      have g9 := rs_gd L 9 h2
      have hS : (fun w' : World => w'.cell? ⟨q, 0, none⟩ = some (.slice na X nc) ∧ w'.cell? ⟨q, 1, none⟩ = some (.int .i64 vo) ∧ w'.cell? ⟨y + 1, 0, none⟩ = some (.int .i64 su) ∧ w'.cell? ⟨y + 1, 1, none⟩ = some (.int .i64 sd) ∧ w'.cell? ⟨y + 1 + 1, 0, none⟩ = some (.int .i64 lu) ∧ w'.cell? ⟨y + 1 + 1, 1, none⟩ = some (.int .i64 ld) ∧ w'.cell? ⟨z, 0, none⟩ = some (.int .i64 ra) ∧ w'.cell? ⟨z, 1, none⟩ = some (.int .i64 rb) ∧ w'.cell? ⟨z, 2, none⟩ = some (.int .i64 rc)) W := hld W (by
        revert hW
        cases h14 : L[14]?.getD false with | true => rw [(hc14 h14).2.1] at g9; cases g9 | false =>
        cases L[15]?.getD false <;> cases L[18]?.getD false <;> intro hW <;> first | exact False.elim hW | exact .inl hW)
      obtain ⟨k0, k1, k2, k3, k4, k5, k6, k7, k8⟩ := hS
      refine wpOp_step rfl (fun K' hK' => ?_)
      go_simp
      exact hK' _ _ ⟨by simpa using hs, fun h => by rw [rs_gs L 9 4 (by decide)]; exact hc15 (by rw [rs_gs L 9 15 (by decide)] at h; exact h), fun h => by have := hc14 (by rw [rs_gs L 9 14 (by decide)] at h; exact h); exact ⟨by rw [rs_gs L 9 8 (by decide)]; exact this.1, rs_at L 9 (by omega), by rw [rs_gs L 9 10 (by decide)]; exact this.2.2.1, by rw [rs_gs L 9 11 (by decide)]; exact this.2.2.2⟩, fun h => by have := hc13 (by rw [rs_gs L 9 13 (by decide)] at h; exact h); exact ⟨by rw [rs_gs L 9 8 (by decide)]; exact this.1, rs_at L 9 (by omega), by rw [rs_gs L 9 10 (by decide)]; exact this.2.2.1, by rw [rs_gs L 9 11 (by decide)]; exact this.2.2.2⟩, _, _, _, _, _, _, _, _, _, _, _, _, _, _, _, _, _, _, rfl, by rw [rs_gs L 9 14 (by decide), rs_gs L 9 15 (by decide), rs_gs L 9 18 (by decide)]; exact hW, fun h => f0 (by rw [rs_gs L 9 0 (by decide)] at h; exact h), fun h => f1 (by rw [rs_gs L 9 1 (by decide)] at h; exact h), fun h => f2 (by rw [rs_gs L 9 2 (by decide)] at h; exact h), fun h => f3 (by rw [rs_gs L 9 3 (by decide)] at h; exact h), fun h => f4 (by rw [rs_gs L 9 4 (by decide)] at h; exact h), fun h => f5 (by rw [rs_gs L 9 5 (by decide)] at h; exact h), fun h => f6 (by rw [rs_gs L 9 6 (by decide)] at h; exact h), fun h => f7 (by rw [rs_gs L 9 7 (by decide)] at h; exact h), fun h => f8 (by rw [rs_gs L 9 8 (by decide)] at h; exact h), fun _ => rfl, fun h => f10 (by rw [rs_gs L 9 10 (by decide)] at h; exact h), fun h => f11 (by rw [rs_gs L 9 11 (by decide)] at h; exact h), fun h => f12 (by rw [rs_gs L 9 12 (by decide)] at h; exact h), fun h => f13 (by rw [rs_gs L 9 13 (by decide)] at h; exact h), fun h => f14 (by rw [rs_gs L 9 14 (by decide)] at h; exact h), fun h => f16 (by rw [rs_gs L 9 16 (by decide)] at h; exact h), fun h => f17 (by rw [rs_gs L 9 17 (by decide)] at h; exact h)⟩
    · -- operation 10
      have g10 := rs_gd L 10 h2
      have hS : (fun w' : World => w'.cell? ⟨q, 0, none⟩ = some (.slice na X nc) ∧ w'.cell? ⟨q, 1, none⟩ = some (.int .i64 vo) ∧ w'.cell? ⟨y + 1, 0, none⟩ = some (.int .i64 su) ∧ w'.cell? ⟨y + 1, 1, none⟩ = some (.int .i64 sd) ∧ w'.cell? ⟨y + 1 + 1, 0, none⟩ = some (.int .i64 lu) ∧ w'.cell? ⟨y + 1 + 1, 1, none⟩ = some (.int .i64 ld) ∧ w'.cell? ⟨z, 0, none⟩ = some (.int .i64 ra) ∧ w'.cell? ⟨z, 1, none⟩ = some (.int .i64 rb) ∧ w'.cell? ⟨z, 2, none⟩ = some (.int .i64 rc)) W := hld W (by
        revert hW
        cases h14 : L[14]?.getD false with | true => rw [(hc14 h14).2.2.1] at g10; cases g10 | false =>
        cases L[15]?.getD false <;> cases L[18]?.getD false <;> intro hW <;> first | exact False.elim hW | exact .inl hW)
      obtain ⟨k0, k1, k2, k3, k4, k5, k6, k7, k8⟩ := hS
      refine wpOp_step rfl (fun K' hK' => ?_)
      go_simp
      exact hK' _ _ ⟨by simpa using hs, fun h => by rw [rs_gs L 10 4 (by decide)]; exact hc15 (by rw [rs_gs L 10 15 (by decide)] at h; exact h), fun h => by have := hc14 (by rw [rs_gs L 10 14 (by decide)] at h; exact h); exact ⟨by rw [rs_gs L 10 8 (by decide)]; exact this.1, by rw [rs_gs L 10 9 (by decide)]; exact this.2.1, rs_at L 10 (by omega), by rw [rs_gs L 10 11 (by decide)]; exact this.2.2.2⟩, fun h => by have := hc13 (by rw [rs_gs L 10 13 (by decide)] at h; exact h); exact ⟨by rw [rs_gs L 10 8 (by decide)]; exact this.1, by rw [rs_gs L 10 9 (by decide)]; exact this.2.1, rs_at L 10 (by omega), by rw [rs_gs L 10 11 (by decide)]; exact this.2.2.2⟩, _, _, _, _, _, _, _, _, _, _, _, _, _, _, _, _, _, _, rfl, by rw [rs_gs L 10 14 (by decide), rs_gs L 10 15 (by decide), rs_gs L 10 18 (by decide)]; exact hW, fun h => f0 (by rw [rs_gs L 10 0 (by decide)] at h; exact h), fun h => f1 (by rw [rs_gs L 10 1 (by decide)] at h; exact h), fun h => f2 (by rw [rs_gs L 10 2 (by decide)] at h; exact h), fun h => f3 (by rw [rs_gs L 10 3 (by decide)] at h; exact h), fun h => f4 (by rw [rs_gs L 10 4 (by decide)] at h; exact h), fun h => f5 (by rw [rs_gs L 10 5 (by decide)] at h; exact h), fun h => f6 (by rw [rs_gs L 10 6 (by decide)] at h; exact h), fun h => f7 (by rw [rs_gs L 10 7 (by decide)] at h; exact h), fun h => f8 (by rw [rs_gs L 10 8 (by decide)] at h; exact h), fun h => f9 (by rw [rs_gs L 10 9 (by decide)] at h; exact h), fun _ => rfl, fun h => f11 (by rw [rs_gs L 10 11 (by decide)] at h; exact h), fun h => f12 (by rw [rs_gs L 10 12 (by decide)] at h; exact h), fun h => f13 (by rw [rs_gs L 10 13 (by decide)] at h; exact h), fun h => f14 (by rw [rs_gs L 10 14 (by decide)] at h; exact h), fun h => f16 (by rw [rs_gs L 10 16 (by decide)] at h; exact h), fun h => f17 (by rw [rs_gs L 10 17 (by decide)] at h; exact h)⟩
    · -- operation 11
      have g11 := rs_gd L 11 h2
      have hS : (fun w' : World => w'.cell? ⟨q, 0, none⟩ = some (.slice na X nc) ∧ w'.cell? ⟨q, 1, none⟩ = some (.int .i64 vo) ∧ w'.cell? ⟨y + 1, 0, none⟩ = some (.int .i64 su) ∧ w'.cell? ⟨y + 1, 1, none⟩ = some (.int .i64 sd) ∧ w'.cell? ⟨y + 1 + 1, 0, none⟩ = some (.int .i64 lu) ∧ w'.cell? ⟨y + 1 + 1, 1, none⟩ = some (.int .i64 ld) ∧ w'.cell? ⟨z, 0, none⟩ = some (.int .i64 ra) ∧ w'.cell? ⟨z, 1, none⟩ = some (.int .i64 rb) ∧ w'.cell? ⟨z, 2, none⟩ = some (.int .i64 rc)) W := hld W (by
        revert hW
        cases h14 : L[14]?.getD false with | true => rw [(hc14 h14).2.2.2] at g11; cases g11 | false =>
        cases L[15]?.getD false <;> cases L[18]?.getD false <;> intro hW <;> first | exact False.elim hW | exact .inl hW)
      obtain ⟨k0, k1, k2, k3, k4, k5, k6, k7, k8⟩ := hS
      refine wpOp_step rfl (fun K' hK' => ?_)
      go_simp
      exact hK' _ _ ⟨by simpa using hs, fun h => by rw [rs_gs L 11 4 (by decide)]; exact hc15 (by rw [rs_gs L 11 15 (by decide)] at h; exact h), fun h => by have := hc14 (by rw [rs_gs L 11 14 (by decide)] at h; exact h); exact ⟨by rw [rs_gs L 11 8 (by decide)]; exact this.1, by rw [rs_gs L 11 9 (by decide)]; exact this.2.1, by rw [rs_gs L 11 10 (by decide)]; exact this.2.2.1, rs_at L 11 (by omega)⟩, fun h => by have := hc13 (by rw [rs_gs L 11 13 (by decide)] at h; exact h); exact ⟨by rw [rs_gs L 11 8 (by decide)]; exact this.1, by rw [rs_gs L 11 9 (by decide)]; exact this.2.1, by rw [rs_gs L 11 10 (by decide)]; exact this.2.2.1, rs_at L 11 (by omega)⟩, _, _, _, _, _, _, _, _, _, _, _, _, _, _, _, _, _, _, rfl, by rw [rs_gs L 11 14 (by decide), rs_gs L 11 15 (by decide), rs_gs L 11 18 (by decide)]; exact hW, fun h => f0 (by rw [rs_gs L 11 0 (by decide)] at h; exact h), fun h => f1 (by rw [rs_gs L 11 1 (by decide)] at h; exact h), fun h => f2 (by rw [rs_gs L 11 2 (by decide)] at h; exact h), fun h => f3 (by rw [rs_gs L 11 3 (by decide)] at h; exact h), fun h => f4 (by rw [rs_gs L 11 4 (by decide)] at h; exact h), fun h => f5 (by rw [rs_gs L 11 5 (by decide)] at h; exact h), fun h => f6 (by rw [rs_gs L 11 6 (by decide)] at h; exact h), fun h => f7 (by rw [rs_gs L 11 7 (by decide)] at h; exact h), fun h => f8 (by rw [rs_gs L 11 8 (by decide)] at h; exact h), fun h => f9 (by rw [rs_gs L 11 9 (by decide)] at h; exact h), fun h => f10 (by rw [rs_gs L 11 10 (by decide)] at h; exact h), fun _ => rfl, fun h => f12 (by rw [rs_gs L 11 12 (by decide)] at h; exact h), fun h => f13 (by rw [rs_gs L 11 13 (by decide)] at h; exact h), fun h => f14 (by rw [rs_gs L 11 14 (by decide)] at h; exact h), fun h => f16 (by rw [rs_gs L 11 16 (by decide)] at h; exact h), fun h => f17 (by rw [rs_gs L 11 17 (by decide)] at h; exact h)⟩
    · -- operation 12
      have g12 := rs_gd L 12 h2
      refine wpOp_step rfl (fun K' hK' => ?_)
      go_simp
      exact hK' _ _ ⟨by simpa using hs, fun h => by rw [rs_gs L 12 4 (by decide)]; exact hc15 (by rw [rs_gs L 12 15 (by decide)] at h; exact h), fun h => by rw [rs_gs L 12 8 (by decide), rs_gs L 12 9 (by decide), rs_gs L 12 10 (by decide), rs_gs L 12 11 (by decide)]; exact hc14 (by rw [rs_gs L 12 14 (by decide)] at h; exact h), fun h => by rw [rs_gs L 12 8 (by decide), rs_gs L 12 9 (by decide), rs_gs L 12 10 (by decide), rs_gs L 12 11 (by decide)]; exact hc13 (by rw [rs_gs L 12 13 (by decide)] at h; exact h), _, _, _, _, _, _, _, _, _, _, _, _, _, _, _, _, _, _, rfl, by rw [rs_gs L 12 14 (by decide), rs_gs L 12 15 (by decide), rs_gs L 12 18 (by decide)]; exact hW, fun h => f0 (by rw [rs_gs L 12 0 (by decide)] at h; exact h), fun h => f1 (by rw [rs_gs L 12 1 (by decide)] at h; exact h), fun h => f2 (by rw [rs_gs L 12 2 (by decide)] at h; exact h), fun h => f3 (by rw [rs_gs L 12 3 (by decide)] at h; exact h), fun h => f4 (by rw [rs_gs L 12 4 (by decide)] at h; exact h), fun h => f5 (by rw [rs_gs L 12 5 (by decide)] at h; exact h), fun h => f6 (by rw [rs_gs L 12 6 (by decide)] at h; exact h), fun h => f7 (by rw [rs_gs L 12 7 (by decide)] at h; exact h), fun h => f8 (by rw [rs_gs L 12 8 (by decide)] at h; exact h), fun h => f9 (by rw [rs_gs L 12 9 (by decide)] at h; exact h), fun h => f10 (by rw [rs_gs L 12 10 (by decide)] at h; exact h), fun h => f11 (by rw [rs_gs L 12 11 (by decide)] at h; exact h), fun _ => rfl, fun h => f13 (by rw [rs_gs L 12 13 (by decide)] at h; exact h), fun h => f14 (by rw [rs_gs L 12 14 (by decide)] at h; exact h), fun h => f16 (by rw [rs_gs L 12 16 (by decide)] at h; exact h), fun h => f17 (by rw [rs_gs L 12 17 (by decide)] at h; exact h)⟩
    · -- operation 13
      simp [Region.binds] at h3
      obtain rfl := f8 h3.1
      obtain rfl := f9 h3.2.1
      obtain rfl := f10 h3.2.2.1
      obtain rfl := f11 h3.2.2.2.1
      obtain rfl := f12 h3.2.2.2.2
      have g13 := rs_gd L 13 h2
      refine wpOp_step rfl (fun K' hK' => ?_)
      go_simp
      exact hK' _ _ ⟨by simpa using hs, fun h => by rw [rs_gs L 13 4 (by decide)]; exact hc15 (by rw [rs_gs L 13 15 (by decide)] at h; exact h), fun h => by rw [rs_gs L 13 8 (by decide), rs_gs L 13 9 (by decide), rs_gs L 13 10 (by decide), rs_gs L 13 11 (by decide)]; exact hc14 (by rw [rs_gs L 13 14 (by decide)] at h; exact h), fun h => by rw [rs_gs L 13 8 (by decide), rs_gs L 13 9 (by decide), rs_gs L 13 10 (by decide), rs_gs L 13 11 (by decide)]; exact ⟨h3.1, h3.2.1, h3.2.2.1, h3.2.2.2.1⟩, _, _, _, _, _, _, _, _, _, _, _, _, _, _, _, _, _, _, rfl, by rw [rs_gs L 13 14 (by decide), rs_gs L 13 15 (by decide), rs_gs L 13 18 (by decide)]; exact hW, fun h => f0 (by rw [rs_gs L 13 0 (by decide)] at h; exact h), fun h => f1 (by rw [rs_gs L 13 1 (by decide)] at h; exact h), fun h => f2 (by rw [rs_gs L 13 2 (by decide)] at h; exact h), fun h => f3 (by rw [rs_gs L 13 3 (by decide)] at h; exact h), fun h => f4 (by rw [rs_gs L 13 4 (by decide)] at h; exact h), fun h => f5 (by rw [rs_gs L 13 5 (by decide)] at h; exact h), fun h => f6 (by rw [rs_gs L 13 6 (by decide)] at h; exact h), fun h => f7 (by rw [rs_gs L 13 7 (by decide)] at h; exact h), fun h => f8 (by rw [rs_gs L 13 8 (by decide)] at h; exact h), fun h => f9 (by rw [rs_gs L 13 9 (by decide)] at h; exact h), fun h => f10 (by rw [rs_gs L 13 10 (by decide)] at h; exact h), fun h => f11 (by rw [rs_gs L 13 11 (by decide)] at h; exact h), fun h => f12 (by rw [rs_gs L 13 12 (by decide)] at h; exact h), fun _ => rfl, fun h => f14 (by rw [rs_gs L 13 14 (by decide)] at h; exact h), fun h => f16 (by rw [rs_gs L 13 16 (by decide)] at h; exact h), fun h => f17 (by rw [rs_gs L 13 17 (by decide)] at h; exact h)⟩
    · -- operation 14
      simp [Region.binds] at h3
      obtain rfl := f13 h3
      have g14 := rs_gd L 14 h2
      have hWe : W = W0 := by
        revert hW; rw [g14]
        cases L[15]?.getD false <;> cases L[18]?.getD false <;> intro hW <;> first | exact False.elim hW | exact hW
      have b15 : L[15]?.getD false = false ∧ L[18]?.getD false = false := by
        revert hW; rw [g14]
        cases L[15]?.getD false <;> cases L[18]?.getD false <;> intro hW <;> first | exact False.elim hW | exact ⟨rfl, rfl⟩
      subst hWe
      refine wpOp_step rfl (fun K' hK' => ?_)
      go_simp
      exact hK' _ _ ⟨by simpa using hs, fun h => by rw [rs_gs L 14 4 (by decide)]; exact hc15 (by rw [rs_gs L 14 15 (by decide)] at h; exact h), fun h => by rw [rs_gs L 14 8 (by decide), rs_gs L 14 9 (by decide), rs_gs L 14 10 (by decide), rs_gs L 14 11 (by decide)]; exact hc13 h3, fun h => by rw [rs_gs L 14 8 (by decide), rs_gs L 14 9 (by decide), rs_gs L 14 10 (by decide), rs_gs L 14 11 (by decide)]; exact hc13 (by rw [rs_gs L 14 13 (by decide)] at h; exact h), _, _, _, _, _, _, _, _, _, _, _, _, _, _, _, _, _, _, rfl, by rw [rs_at L 14 (by omega), rs_gs L 14 15 (by decide), rs_gs L 14 18 (by decide), b15.1, b15.2]; rfl, fun h => f0 (by rw [rs_gs L 14 0 (by decide)] at h; exact h), fun h => f1 (by rw [rs_gs L 14 1 (by decide)] at h; exact h), fun h => f2 (by rw [rs_gs L 14 2 (by decide)] at h; exact h), fun h => f3 (by rw [rs_gs L 14 3 (by decide)] at h; exact h), fun h => f4 (by rw [rs_gs L 14 4 (by decide)] at h; exact h), fun h => f5 (by rw [rs_gs L 14 5 (by decide)] at h; exact h), fun h => f6 (by rw [rs_gs L 14 6 (by decide)] at h; exact h), fun h => f7 (by rw [rs_gs L 14 7 (by decide)] at h; exact h), fun h => f8 (by rw [rs_gs L 14 8 (by decide)] at h; exact h), fun h => f9 (by rw [rs_gs L 14 9 (by decide)] at h; exact h), fun h => f10 (by rw [rs_gs L 14 10 (by decide)] at h; exact h), fun h => f11 (by rw [rs_gs L 14 11 (by decide)] at h; exact h), fun h => f12 (by rw [rs_gs L 14 12 (by decide)] at h; exact h), fun h => f13 (by rw [rs_gs L 14 13 (by decide)] at h; exact h), fun _ => rfl, fun h => f16 (by rw [rs_gs L 14 16 (by decide)] at h; exact h), fun h => f17 (by rw [rs_gs L 14 17 (by decide)] at h; exact h)⟩
    · -- operation 15
      simp [Region.binds] at h3
      obtain rfl := f4 h3.1
      obtain rfl := f14 h3.2
      have g15 := rs_gd L 15 h2
      have hWe : W = W0.alloc (Obj.cells #[.int .i64 vo, .int .i64 su, .int .i64 sd, .int .i64 lu, .int .i64 ld, .int .i64 ra, .int .i64 rb, .int .i64 rc, .string ly] 43) ∧ L[18]?.getD false = false := by
        revert hW; rw [g15, h3.2]
        cases L[18]?.getD false <;> intro hW <;> first | exact False.elim hW | exact ⟨hW, rfl⟩
      obtain ⟨hWe, b18⟩ := hWe
      subst hWe
      refine wpOp_step rfl (fun K' hK' => ?_)
      refine step_append_lies _ (by rfl) _ _ _ (by rfl) (q + 1) 43 i0 _ 9 80 Tryz.underlying26 hi hz0 hz1 hz2 rfl (by omega) (.slice na X nc) X xs (by rfl) how ⟨z + 1, 0, none⟩ 1 1 [.int .i64 vo, .int .i64 su, .int .i64 sd, .int .i64 lu, .int .i64 ld, .int .i64 ra, .int .i64 rb, .int .i64 rc, .string ly] (by rfl) (by rfl) hnew (by simp [Value.oneCell']) (by omega) (by unfold maxLen; omega) (by omega) (by omega) (z + 2) (by omega) ?_
      intro gg cap w7 hown7 hgrow hat hlt7
      exact hK' _ _ ⟨by simpa using hs, fun h => by rw [rs_gs L 15 4 (by decide)]; exact h3.1, fun h => by rw [rs_gs L 15 8 (by decide), rs_gs L 15 9 (by decide), rs_gs L 15 10 (by decide), rs_gs L 15 11 (by decide)]; exact hc14 (by rw [rs_gs L 15 14 (by decide)] at h; exact h), fun h => by rw [rs_gs L 15 8 (by decide), rs_gs L 15 9 (by decide), rs_gs L 15 10 (by decide), rs_gs L 15 11 (by decide)]; exact hc13 (by rw [rs_gs L 15 13 (by decide)] at h; exact h), _, _, _, _, _, _, _, _, _, _, _, _, _, _, _, _, _, _, rfl, by rw [rs_at L 15 (by omega), rs_gs L 15 14 (by decide), rs_gs L 15 18 (by decide), h3.2, b18]; exact ⟨gg, cap, rfl, hown7, hgrow, hat⟩, fun h => f0 (by rw [rs_gs L 15 0 (by decide)] at h; exact h), fun h => f1 (by rw [rs_gs L 15 1 (by decide)] at h; exact h), fun h => f2 (by rw [rs_gs L 15 2 (by decide)] at h; exact h), fun h => f3 (by rw [rs_gs L 15 3 (by decide)] at h; exact h), fun h => f4 (by rw [rs_gs L 15 4 (by decide)] at h; exact h), fun h => f5 (by rw [rs_gs L 15 5 (by decide)] at h; exact h), fun h => f6 (by rw [rs_gs L 15 6 (by decide)] at h; exact h), fun h => f7 (by rw [rs_gs L 15 7 (by decide)] at h; exact h), fun h => f8 (by rw [rs_gs L 15 8 (by decide)] at h; exact h), fun h => f9 (by rw [rs_gs L 15 9 (by decide)] at h; exact h), fun h => f10 (by rw [rs_gs L 15 10 (by decide)] at h; exact h), fun h => f11 (by rw [rs_gs L 15 11 (by decide)] at h; exact h), fun h => f12 (by rw [rs_gs L 15 12 (by decide)] at h; exact h), fun h => f13 (by rw [rs_gs L 15 13 (by decide)] at h; exact h), fun h => f14 (by rw [rs_gs L 15 14 (by decide)] at h; exact h), fun h => f16 (by rw [rs_gs L 15 16 (by decide)] at h; exact h), fun h => f17 (by rw [rs_gs L 15 17 (by decide)] at h; exact h)⟩
    · -- operation 16
      simp [Region.binds] at h3
      obtain rfl := f0 (by first | exact h3.1 | exact h3)
      have g16 := rs_gd L 16 h2
      refine wpOp_step rfl (fun K' hK' => ?_)
      go_simp
      exact hK' _ _ ⟨by simpa using hs, fun h => by rw [rs_gs L 16 4 (by decide)]; exact hc15 (by rw [rs_gs L 16 15 (by decide)] at h; exact h), fun h => by rw [rs_gs L 16 8 (by decide), rs_gs L 16 9 (by decide), rs_gs L 16 10 (by decide), rs_gs L 16 11 (by decide)]; exact hc14 (by rw [rs_gs L 16 14 (by decide)] at h; exact h), fun h => by rw [rs_gs L 16 8 (by decide), rs_gs L 16 9 (by decide), rs_gs L 16 10 (by decide), rs_gs L 16 11 (by decide)]; exact hc13 (by rw [rs_gs L 16 13 (by decide)] at h; exact h), _, _, _, _, _, _, _, _, _, _, _, _, _, _, _, _, _, _, rfl, by rw [rs_gs L 16 14 (by decide), rs_gs L 16 15 (by decide), rs_gs L 16 18 (by decide)]; exact hW, fun h => f0 (by rw [rs_gs L 16 0 (by decide)] at h; exact h), fun h => f1 (by rw [rs_gs L 16 1 (by decide)] at h; exact h), fun h => f2 (by rw [rs_gs L 16 2 (by decide)] at h; exact h), fun h => f3 (by rw [rs_gs L 16 3 (by decide)] at h; exact h), fun h => f4 (by rw [rs_gs L 16 4 (by decide)] at h; exact h), fun h => f5 (by rw [rs_gs L 16 5 (by decide)] at h; exact h), fun h => f6 (by rw [rs_gs L 16 6 (by decide)] at h; exact h), fun h => f7 (by rw [rs_gs L 16 7 (by decide)] at h; exact h), fun h => f8 (by rw [rs_gs L 16 8 (by decide)] at h; exact h), fun h => f9 (by rw [rs_gs L 16 9 (by decide)] at h; exact h), fun h => f10 (by rw [rs_gs L 16 10 (by decide)] at h; exact h), fun h => f11 (by rw [rs_gs L 16 11 (by decide)] at h; exact h), fun h => f12 (by rw [rs_gs L 16 12 (by decide)] at h; exact h), fun h => f13 (by rw [rs_gs L 16 13 (by decide)] at h; exact h), fun h => f14 (by rw [rs_gs L 16 14 (by decide)] at h; exact h), fun _ => rfl, fun h => f17 (by rw [rs_gs L 16 17 (by decide)] at h; exact h)⟩
    · -- operation 17
      simp [Region.binds] at h3
      obtain rfl := f16 (by first | exact h3.1 | exact h3)
      have g17 := rs_gd L 17 h2
      refine wpOp_step rfl (fun K' hK' => ?_)
      go_simp
      exact hK' _ _ ⟨by simpa using hs, fun h => by rw [rs_gs L 17 4 (by decide)]; exact hc15 (by rw [rs_gs L 17 15 (by decide)] at h; exact h), fun h => by rw [rs_gs L 17 8 (by decide), rs_gs L 17 9 (by decide), rs_gs L 17 10 (by decide), rs_gs L 17 11 (by decide)]; exact hc14 (by rw [rs_gs L 17 14 (by decide)] at h; exact h), fun h => by rw [rs_gs L 17 8 (by decide), rs_gs L 17 9 (by decide), rs_gs L 17 10 (by decide), rs_gs L 17 11 (by decide)]; exact hc13 (by rw [rs_gs L 17 13 (by decide)] at h; exact h), _, _, _, _, _, _, _, _, _, _, _, _, _, _, _, _, _, _, rfl, by rw [rs_gs L 17 14 (by decide), rs_gs L 17 15 (by decide), rs_gs L 17 18 (by decide)]; exact hW, fun h => f0 (by rw [rs_gs L 17 0 (by decide)] at h; exact h), fun h => f1 (by rw [rs_gs L 17 1 (by decide)] at h; exact h), fun h => f2 (by rw [rs_gs L 17 2 (by decide)] at h; exact h), fun h => f3 (by rw [rs_gs L 17 3 (by decide)] at h; exact h), fun h => f4 (by rw [rs_gs L 17 4 (by decide)] at h; exact h), fun h => f5 (by rw [rs_gs L 17 5 (by decide)] at h; exact h), fun h => f6 (by rw [rs_gs L 17 6 (by decide)] at h; exact h), fun h => f7 (by rw [rs_gs L 17 7 (by decide)] at h; exact h), fun h => f8 (by rw [rs_gs L 17 8 (by decide)] at h; exact h), fun h => f9 (by rw [rs_gs L 17 9 (by decide)] at h; exact h), fun h => f10 (by rw [rs_gs L 17 10 (by decide)] at h; exact h), fun h => f11 (by rw [rs_gs L 17 11 (by decide)] at h; exact h), fun h => f12 (by rw [rs_gs L 17 12 (by decide)] at h; exact h), fun h => f13 (by rw [rs_gs L 17 13 (by decide)] at h; exact h), fun h => f14 (by rw [rs_gs L 17 14 (by decide)] at h; exact h), fun h => f16 (by rw [rs_gs L 17 16 (by decide)] at h; exact h), fun _ => rfl⟩
    · -- operation 18
      simp [Region.binds] at h3
      obtain rfl := f17 (by first | exact h3.1 | exact h3)
      have g18 := rs_gd L 18 h2
      have e15 : L[15]?.getD false = true := by first | exact h3.2.1 | simp_all
      have e14 : L[14]?.getD false = true := by revert hW; rw [e15]; cases L[14]?.getD false <;> cases L[18]?.getD false <;> intro hW <;> first | exact False.elim hW | rfl
      rw [e14, e15, g18] at hW
      have hW2 := hW
      obtain ⟨gg, cap, rfl, o1, o2, o3⟩ := hW
      obtain ⟨x1, x2, x3⟩ := hst W o2
      refine wpOp_step rfl (fun K' hK' => ?_)
      go_simp
      exact hK' _ _ ⟨by simpa using hs, fun h => by rw [rs_gs L 18 4 (by decide)]; exact hc15 (by rw [rs_gs L 18 15 (by decide)] at h; exact h), fun h => by rw [rs_gs L 18 8 (by decide), rs_gs L 18 9 (by decide), rs_gs L 18 10 (by decide), rs_gs L 18 11 (by decide)]; exact hc14 (by rw [rs_gs L 18 14 (by decide)] at h; exact h), fun h => by rw [rs_gs L 18 8 (by decide), rs_gs L 18 9 (by decide), rs_gs L 18 10 (by decide), rs_gs L 18 11 (by decide)]; exact hc13 (by rw [rs_gs L 18 13 (by decide)] at h; exact h), _, _, _, _, _, _, _, _, _, _, _, _, _, _, _, _, _, _, rfl, by rw [rs_at L 18 (by omega), rs_gs L 18 14 (by decide), rs_gs L 18 15 (by decide), e14, e15]; exact ⟨W, hW2, rfl⟩, fun h => f0 (by rw [rs_gs L 18 0 (by decide)] at h; exact h), fun h => f1 (by rw [rs_gs L 18 1 (by decide)] at h; exact h), fun h => f2 (by rw [rs_gs L 18 2 (by decide)] at h; exact h), fun h => f3 (by rw [rs_gs L 18 3 (by decide)] at h; exact h), fun h => f4 (by rw [rs_gs L 18 4 (by decide)] at h; exact h), fun h => f5 (by rw [rs_gs L 18 5 (by decide)] at h; exact h), fun h => f6 (by rw [rs_gs L 18 6 (by decide)] at h; exact h), fun h => f7 (by rw [rs_gs L 18 7 (by decide)] at h; exact h), fun h => f8 (by rw [rs_gs L 18 8 (by decide)] at h; exact h), fun h => f9 (by rw [rs_gs L 18 9 (by decide)] at h; exact h), fun h => f10 (by rw [rs_gs L 18 10 (by decide)] at h; exact h), fun h => f11 (by rw [rs_gs L 18 11 (by decide)] at h; exact h), fun h => f12 (by rw [rs_gs L 18 12 (by decide)] at h; exact h), fun h => f13 (by rw [rs_gs L 18 13 (by decide)] at h; exact h), fun h => f14 (by rw [rs_gs L 18 14 (by decide)] at h; exact h), fun h => f16 (by rw [rs_gs L 18 16 (by decide)] at h; exact h), fun h => f17 (by rw [rs_gs L 18 17 (by decide)] at h; exact h)⟩

end Go.Proofs.YtaohahahhjkcdaeGreatDoor.G

/- What a singer does, item by item, as a plain function of its state. -/
namespace Go.Proofs.YtaohahahhjkcdaeGreatDoor.G.M
set_option linter.unusedVariables false
set_option linter.unusedSimpArgs false

/-- A singer's state: its notes, how many of the last ones a tie makes longer, the spans that are left. -/
structure Zs where
  ns : List Nt
  hd : Nat
  tm : List F.M.Sp
/-- The notes of a leaf that is a note. -/
def cdn (vo : Int) (st lg : Int × Int) (mv : List (Int × Int)) (t : It) : List Nt × Int := cdl (fun j => mvp mv (t.pl j, t.pa j, t.po j)) (fun p => ⟨vo, st, lg, p.1, p.2.1, p.2.2, t.ly⟩) t.np
/-- A leaf. -/
def lf (vo : Int) (av : Int × Int) (mv : List (Int × Int)) (t : It) (z : Zs) : Zs × Int :=
  match z.tm with
  | [] => (z, 7)
  | sp :: tm =>
    match F.M.pl av sp.1 with
    | none => (z, 4)
    | some st =>
      if t.k = 1 then (⟨z.ns ++ (cdn vo st sp.2.1 mv t).1, t.np, tm⟩, (cdn vo st sp.2.1 mv t).2)
      else if t.k = 3 then (match tl sp.2.1 (z.ns.drop (z.ns.length - z.hd)) with | none => (z, 4) | some l => (⟨z.ns.take (z.ns.length - z.hd) ++ l, z.hd, tm⟩, 0))
      else (⟨z.ns, 0, tm⟩, 0)
def sk (f : Nat → Zs → Zs × Int) : Nat → Nat → Zs → Zs × Int
  | 0, _, z => (z, 0)
  | c + 1, i, z => if (f i z).2 ≠ 0 then f i z else sk f c (i + 1) (f i z).1
/-- All kids, one behind the other. -/
def sg (vo : Int) (av : Int × Int) : It → List (Int × Int) → Zs → Zs × Int
  | ⟨true, _, _, _, _, _, _, _, _, _, _, _⟩, _, z => (z, 7)
  | ⟨false, _, _, _, _, _, _, _, _, _, n, kid⟩, mv, z => sk (fun j z => if (kid j).k = 4 then sg vo av (kid j) mv z else if (kid j).k = 5 then sg vo av (kid j) (mv ++ [((kid j).b1, (kid j).b2)]) z else lf vo av mv (kid j) z) n 0 z
/-- One of them. -/
def s1 (vo : Int) (av : Int × Int) (mv : List (Int × Int)) (t : It) (z : Zs) : Zs × Int :=
  if t.k = 4 then sg vo av t mv z else if t.k = 5 then sg vo av t (mv ++ [(t.b1, t.b2)]) z else lf vo av mv t z
theorem sg_mk (vo : Int) (av : Int × Int) (k s : Int) (np : Nat) (pl pa po : Nat → Int) (b1 b2 : Int) (ly : ByteArray) (n : Nat) (kid : Nat → It) (mv : List (Int × Int)) (z : Zs) : sg vo av (.mk k s np pl pa po b1 b2 ly n kid) mv z = sk (fun j z => s1 vo av mv (kid j) z) n 0 z := by
  rw [sg]; rfl
/-- Where those up to i went well. -/
def SK (f : Nat → Zs → Zs × Int) (n i : Nat) (z0 z : Zs) : Prop := sk f n 0 z0 = sk f (n - i) i z
theorem SK.start (f : Nat → Zs → Zs × Int) (n : Nat) (z : Zs) : SK f n 0 z z := rfl
theorem SK.bad {f : Nat → Zs → Zs × Int} {n i : Nat} {z0 z : Zs} (h : SK f n i z0 z) (hi : i < n) (hb : (f i z).2 ≠ 0) : sk f n 0 z0 = f i z := by
  unfold SK at h
  rw [h]
  obtain ⟨c, hc⟩ : ∃ c, n - i = c + 1 := ⟨n - i - 1, by omega⟩
  rw [hc, sk, if_pos hb]
theorem SK.next {f : Nat → Zs → Zs × Int} {n i : Nat} {z0 z : Zs} (h : SK f n i z0 z) (hi : i < n) (hb : (f i z).2 = 0) : SK f n (i + 1) z0 (f i z).1 := by
  unfold SK at *
  rw [h]
  obtain ⟨c, hc⟩ : ∃ c, n - i = c + 1 := ⟨n - i - 1, by omega⟩
  rw [hc, sk, if_neg (by simp [hb]), show n - (i + 1) = c by omega]
theorem SK.fin {f : Nat → Zs → Zs × Int} {n : Nat} {z0 z : Zs} (h : SK f n n z0 z) : sk f n 0 z0 = (z, 0) := by
  unfold SK at h
  rw [h, Nat.sub_self]; rfl
/-- How many leaves the kids have. -/
def lc : It → Nat
  | ⟨true, _, _, _, _, _, _, _, _, _, _, _⟩ => 0
  | ⟨false, _, _, _, _, _, _, _, _, _, n, kid⟩ => ((List.range n).map fun j => if (kid j).k = 4 ∨ (kid j).k = 5 then lc (kid j) else 1).sum
def l1 (t : It) : Nat := if t.k = 4 ∨ t.k = 5 then lc t else 1
/-- The leaves of the kids from i on. -/
def lr (kid : Nat → It) (n i : Nat) : Nat := ((List.range' i (n - i)).map fun j => l1 (kid j)).sum
theorem lc_mk (k s : Int) (np : Nat) (pl pa po : Nat → Int) (b1 b2 : Int) (ly : ByteArray) (n : Nat) (kid : Nat → It) : lc (.mk k s np pl pa po b1 b2 ly n kid) = lr kid n 0 := by
  rw [lc]; unfold lr l1; rw [Nat.sub_zero, List.range_eq_range']
theorem lr_step {kid : Nat → It} {n i : Nat} (h : i < n) : lr kid n i = l1 (kid i) + lr kid n (i + 1) := by
  unfold lr
  obtain ⟨c, hc⟩ : ∃ c, n - i = c + 1 := ⟨n - i - 1, by omega⟩
  rw [hc, show n - (i + 1) = c by omega, List.range'_succ]; simp
theorem lr_end (kid : Nat → It) (n : Nat) : lr kid n n = 0 := by unfold lr; simp
/-- What holds of a state. -/
structure Zo (z : Zs) (N : Nat) : Prop where
  hd : z.hd ≤ z.ns.length
  ok : ∀ x ∈ z.ns, F.M.Ok x.lg
  tm : ∀ p ∈ z.tm, F.M.Ok p.1 ∧ F.M.Ok p.2.1
  len : z.ns.length + 16 * z.tm.length ≤ N
theorem cdl_lg {R : Nat → (Int × Int × Int) × Int} {f : Int × Int × Int → Nt} {lg : Int × Int} (hf : ∀ p, (f p).lg = lg) : ∀ {k : Nat}, ∀ x ∈ (cdl R f k).1, x.lg = lg
  | 0, x, h => by simp [cdl] at h
  | k + 1, x, h => by
    rw [cdl] at h
    split at h
    · exact cdl_lg hf x h
    · split at h
      · exact cdl_lg hf x h
      · simp only [List.mem_append, List.mem_singleton] at h
        rcases h with h | h
        · exact cdl_lg hf x h
        · subst h; exact hf _
theorem tl_ok {lg : Int × Int} (hlg : F.M.Ok lg) : ∀ {l l' : List Nt}, (∀ x ∈ l, F.M.Ok x.lg) → tl lg l = some l' → ∀ x ∈ l', F.M.Ok x.lg
  | [], l', _, h => by simp only [tl, Option.some.injEq] at h; subst h; intro x hx; simp at hx
  | x :: l, l', ho, h => by
    cases hp : F.M.pl x.lg lg with
    | none => rw [tl_none hp] at h; simp at h
    | some f =>
      rw [tl_some hp] at h
      cases ht : tl lg l with
      | none => rw [ht] at h; simp at h
      | some m =>
        rw [ht] at h
        simp only [Option.map_some, Option.some.injEq] at h
        subst h
        intro y hy
        simp only [List.mem_cons] at hy
        rcases hy with hy | hy
        · subst hy; exact F.M.tell_ok hp (F.M.mul_pos' _ _ (ho x (by simp)).low.1.1 hlg.low.1.1)
        · exact tl_ok hlg (fun z hz => ho z (by simp [hz])) ht y hy
/-- A leaf keeps it. -/
theorem lf_ok {vo : Int} {av : Int × Int} {mv : List (Int × Int)} {t : It} {z : Zs} {N : Nat} (hz : Zo z N) (hra : t.k = 1 → t.np ≤ 16) (hl : 0 < z.tm.length) (h : (lf vo av mv t z).2 = 0) : Zo (lf vo av mv t z).1 N ∧ (lf vo av mv t z).1.tm.length + 1 = z.tm.length := by
  obtain ⟨ns, hd, tm⟩ := z
  cases tm with
  | nil => simp at hl
  | cons sp tm =>
    unfold lf at h ⊢
    simp only at h ⊢
    cases hp : F.M.pl av sp.1 with
    | none => rw [hp] at h; simp at h
    | some st =>
      rw [hp] at h
      simp only at h ⊢
      have hsp := hz.tm sp (by simp)
      have hlen := hz.len
      simp only [List.length_cons] at hlen
      by_cases k1 : t.k = 1
      · rw [if_pos k1] at h ⊢
        have hcl : (cdn vo st sp.2.1 mv t).1.length = t.np := cdl_len h
        have := hra k1
        refine ⟨⟨by simp only [List.length_append, hcl]; omega, fun x hx => ?_, fun p hp => hz.tm p (by simp [hp]), by simp only [List.length_append, hcl]; omega⟩, by simp⟩
        simp only [List.mem_append] at hx
        rcases hx with hx | hx
        · exact hz.ok x hx
        · rw [cdl_lg (lg := sp.2.1) (fun p => rfl) x hx]; exact hsp.2
      · rw [if_neg k1] at h ⊢
        by_cases k3 : t.k = 3
        · rw [if_pos k3] at h ⊢
          cases ht : tl sp.2.1 (ns.drop (ns.length - hd)) with
          | none => rw [ht] at h; simp at h
          | some l =>
            simp only
            have hhd := hz.hd
            simp only at hhd
            have hll := tl_len ht
            rw [List.length_drop] at hll
            refine ⟨⟨by simp only [List.length_append, List.length_take]; omega, fun x hx => ?_, fun p hp => hz.tm p (by simp [hp]), by simp only [List.length_append, List.length_take]; omega⟩, by simp⟩
            simp only [List.mem_append] at hx
            rcases hx with hx | hx
            · exact hz.ok x (List.mem_of_mem_take hx)
            · exact tl_ok hsp.2 (fun y hy => hz.ok y (List.mem_of_mem_drop hy)) ht x hx
        · rw [if_neg k3] at h ⊢
          exact ⟨⟨by simp, hz.ok, fun p hp => hz.tm p (by simp [hp]), by simp only; omega⟩, by simp⟩
theorem ra_note {t : It} (h : raI t = true) (hk : t.k = 1) : t.np ≤ 16 := by
  unfold raI ra at h
  split at h
  · cases h
  · simp only [Bool.and_eq_true, decide_eq_true_eq] at h
    omega
theorem sk_ok {f : Nat → Zs → Zs × Int} {kid : Nat → It} {n N : Nat} (hf : ∀ j, j < n → ∀ z, Zo z N → l1 (kid j) ≤ z.tm.length → (f j z).2 = 0 → Zo (f j z).1 N ∧ (f j z).1.tm.length + l1 (kid j) = z.tm.length) :
    ∀ (c i : Nat), i + c = n → ∀ z, Zo z N → lr kid n i ≤ z.tm.length → (sk f c i z).2 = 0 → Zo (sk f c i z).1 N ∧ (sk f c i z).1.tm.length + lr kid n i = z.tm.length := by
  intro c
  induction c with
  | zero =>
    intro i hi z hz hl h
    obtain rfl : i = n := by omega
    rw [lr_end]
    exact ⟨hz, rfl⟩
  | succ c ih =>
    intro i hi z hz hl h
    rw [lr_step (by omega)] at hl ⊢
    rw [sk] at h ⊢
    by_cases hb : (f i z).2 ≠ 0
    · rw [if_pos hb] at h; exact absurd h hb
    · rw [if_neg hb] at h ⊢
      have hb' : (f i z).2 = 0 := by simpa using hb
      obtain ⟨g1, g2⟩ := hf i (by omega) z hz (by omega) hb'
      obtain ⟨g3, g4⟩ := ih (i + 1) (by omega) (f i z).1 g1 (by omega) h
      exact ⟨g3, by omega⟩
theorem sg_ok (vo : Int) (av : Int × Int) (t : It) : ∀ (mv : List (Int × Int)) (z : Zs) (N : Nat) (lev m : Int), 0 ≤ m → m ≤ 4095 → (ri t lev m).1 = true → Zo z N → lc t ≤ z.tm.length → (sg vo av t mv z).2 = 0 → Zo (sg vo av t mv z).1 N ∧ (sg vo av t mv z).1.tm.length + lc t = z.tm.length := by
  induction t using It.ind with
  | nil => intro mv z N lev m _ _ h; cases h
  | mk k s np pl pa po b1 b2 ly n kid ih =>
    intro mv z N lev m m1 m2 hr hz hl h
    obtain ⟨_, _, hk⟩ := ri_kids _ _ _ _ _ _ _ _ _ _ _ _ _ m1 m2 hr
    rw [lc_mk] at hl ⊢
    rw [sg_mk] at h ⊢
    refine sk_ok (fun j hj z hz hl h => ?_) n 0 (by omega) z hz hl h
    obtain ⟨h1, h2⟩ := hk j hj
    unfold s1 at h ⊢
    unfold l1 at hl ⊢
    by_cases k4 : (kid j).k = 4
    · rw [if_pos k4] at h ⊢
      rw [if_pos (.inl k4)] at hl ⊢
      obtain ⟨m', x1, x2, x3⟩ := h2 (.inl k4)
      exact ih j mv z N _ m' x1 x2 x3 hz hl h
    · rw [if_neg k4] at h ⊢
      by_cases k5 : (kid j).k = 5
      · rw [if_pos k5] at h ⊢
        rw [if_pos (.inr k5)] at hl ⊢
        obtain ⟨m', x1, x2, x3⟩ := h2 (.inr k5)
        exact ih j _ z N _ m' x1 x2 x3 hz hl h
      · rw [if_neg k5] at h ⊢
        rw [if_neg (by simp [k4, k5])] at hl ⊢
        obtain ⟨g1, g2⟩ := lf_ok hz (fun hk1 => ra_note h1 hk1) (by omega) h
        exact ⟨g1, g2⟩
theorem s1_ok {vo : Int} {av : Int × Int} {mv : List (Int × Int)} {t : It} {z : Zs} {N : Nat} {lev : Int} (hra : raI t = true) (hri : (t.k = 4 ∨ t.k = 5) → ∃ m', 0 ≤ m' ∧ m' ≤ 4095 ∧ (ri t lev m').1 = true) (hz : Zo z N) (hl : l1 t ≤ z.tm.length) (h : (s1 vo av mv t z).2 = 0) :
    Zo (s1 vo av mv t z).1 N ∧ (s1 vo av mv t z).1.tm.length + l1 t = z.tm.length := by
  unfold s1 at h ⊢
  unfold l1 at hl ⊢
  by_cases k4 : t.k = 4
  · rw [if_pos k4] at h ⊢
    rw [if_pos (.inl k4)] at hl ⊢
    obtain ⟨m', x1, x2, x3⟩ := hri (.inl k4)
    exact sg_ok vo av t mv z N _ m' x1 x2 x3 hz hl h
  · rw [if_neg k4] at h ⊢
    by_cases k5 : t.k = 5
    · rw [if_pos k5] at h ⊢
      rw [if_pos (.inr k5)] at hl ⊢
      obtain ⟨m', x1, x2, x3⟩ := hri (.inr k5)
      exact sg_ok vo av t _ z N _ m' x1 x2 x3 hz hl h
    · rw [if_neg k5] at h ⊢
      rw [if_neg (by simp [k4, k5])] at hl ⊢
      exact lf_ok hz (fun hk1 => ra_note hra hk1) (by omega) h
theorem ri_lev {t : It} {lev m : Int} (h : (ri t lev m).1 = true) : lev ≤ 31 := by
  obtain ⟨z, k, s, np, pl, pa, po, b1, b2, ly, n, sub⟩ := t
  cases z with
  | true => cases h
  | false =>
    rw [ri] at h
    by_cases hc : n = 0 ∨ 31 < lev
    · rw [if_pos hc] at h; cases h
    · omega
end Go.Proofs.YtaohahahhjkcdaeGreatDoor.G.M

/- A singer begins a voice. -/
namespace Go.Proofs.YtaohahahhjkcdaeGreatDoor.G
open Go.RowKit
set_option linter.unusedVariables false
set_option linter.unusedSimpArgs false

/-- The singer's own numbers are others now, nothing else. -/
theorem Sg.numbers {w w' : World} {q : Nat} {ns : List M.Nt} {vo au ad vo' au' ad' : Int} {tm : List F.M.Sp} {mv : List (Int × Int)} {hd hd' : Nat} {vN vM vT : Value} (h : Sg w q ns vo au ad tm mv hd vN vM vT)
    (hz : w.heap.size ≤ w'.heap.size) (hb : ∀ b, b < w.heap.size → b ≠ q → w'.heap[b]? = w.heap[b]?) (c0 : w'.cell? ⟨q, 0, none⟩ = some vN) (c1 : w'.cell? ⟨q, 1, none⟩ = some (.int .i64 vo')) (c2 : w'.cell? ⟨q, 2, none⟩ = some (.int .i64 au')) (c3 : w'.cell? ⟨q, 3, none⟩ = some (.int .i64 ad'))
    (c4 : w'.cell? ⟨q, 4, none⟩ = some vT) (c5 : w'.cell? ⟨q, 5, none⟩ = some vM) (c6 : w'.cell? ⟨q, 6, none⟩ = some (.int .i64 hd')) (hf : ∀ i, w'.frozen? ⟨q, i, none⟩ = false) : Sg w' q ns vo' au' ad' tm mv hd' vN vM vT ∧ Kp w q vN vM w' vN vM := by
  have l := h.lt
  have mlt := F.own_lt h.m
  have mge := F.own_block h.m
  have nlt := F.own_lt h.n
  have nge := F.own_block h.n
  refine ⟨⟨by omega, c0, c1, c2, c3, c4, c5, c6, hf, own_of h.n (fun b e => hb b (nlt b e) (by have := nge b e; omega)), own_of h.m (fun b e => hb b (mlt b e) (by have := mge b e; omega)), h.ap, h.t.of hz (fun b b1 b2 _ _ => hb b b1 b2) (fun k e => .inl e) (fun k e => .inl e)⟩, ⟨hz, fun b b1 b2 _ _ => hb b b1 b2, fun k e => .inl e, fun k e => .inl e⟩⟩

theorem begin_any (v : Int) (w : World) (q B : Nat) (ns : List M.Nt) (vo au ad : Int) (tm : List F.M.Sp) (mv : List (Int × Int)) (hd : Nat) (vN vM vT : Value) (hB : B ≤ q) (hS : Sg w q ns vo au ad tm mv hd vN vM vT) :
    Calls Tryz.prog 12 #[.pointer (some ⟨q, 0, none⟩), .int .i64 v] w fun e w' => e = .returned (.tuple #[]) ∧ Sg w' q ns v 0 1 tm mv 0 vN vM vT ∧ Kp w q vN vM w' vN vM ∧ Below B w w' := by
  have lt := hS.lt
  have c1 := hS.c1
  have c2 := hS.c2
  have c3 := hS.c3
  have c6 := hS.c6
  have f1 := hS.fz 1
  have f2 := hS.fz 2
  have f3 := hS.fz 3
  have f6 := hS.fz 6
  have HS : Hid (Sg w q ns vo au ad tm mv hd vN vM vT) := hS
  clear hS
  go_enter Tryz.func12, Tryz.ntmps12
  go_wp2_with fail
  have h := HS.out
  obtain ⟨x1, x2⟩ := h.numbers (w' := (((w.setCell ⟨q, 1, none⟩ (.int .i64 v)).setCell ⟨q, 2, none⟩ (.int .i64 0)).setCell ⟨q, 3, none⟩ (.int .i64 1)).setCell ⟨q, 6, none⟩ (.int .i64 0)) (vo' := v) (au' := 0) (ad' := 1) (hd' := 0) (by simp) (fun b _ b2 => by
    rw [heap_setCell_other _ _ _ _ (by show b ≠ q; exact b2), heap_setCell_other _ _ _ _ (by show b ≠ q; exact b2), heap_setCell_other _ _ _ _ (by show b ≠ q; exact b2), heap_setCell_other _ _ _ _ (by show b ≠ q; exact b2)]) (by simp [go_sem, h.c0]) (by simp [go_sem, h.c1]) (by simp [go_sem, h.c2]) (by simp [go_sem, h.c3]) (by simp [go_sem, h.c4]) (by simp [go_sem, h.c5]) (by simp [go_sem, h.c6]) (fun i => by simp [go_sem, h.fz i])
  go_end0
  exact ⟨rfl, x1, x2, ((((Below.refl _ _).setCell (p := ⟨q, 1, none⟩) hB _).setCell (p := ⟨q, 2, none⟩) hB _).setCell (p := ⟨q, 3, none⟩) hB _).setCell (p := ⟨q, 6, none⟩) hB _⟩

end Go.Proofs.YtaohahahhjkcdaeGreatDoor.G
