/- What the document's Print comes to, where the pitch is right. -/
import Derived.Test.YtmccbokjigjpnaaDoorQD9t
import Derived.Deep.DeepCutAuto
namespace Go.Proofs.YtmccbokjigjpnaaDoor
open Go.RowKit
set_option linter.unusedVariables false
set_option linter.unusedSimpArgs false

theorem gs (L : Array Bool) (i j : Nat) (h : i ≠ j) : (L.setIfInBounds i true)[j]?.getD false = L[j]?.getD false := by
  simp only [Array.getElem?_setIfInBounds, h, if_false]
theorem gd (L : Array Bool) (i : Nat) (h : L.getD i true = false) : L[i]?.getD false = false := by
  simp only [Array.getD_eq_getD_getElem?] at *
  cases hq : L[i]? with
  | none => rfl
  | some x => rw [hq] at h; exact h
theorem mem_ready {md : Region.Mode} {ops : Array Oper} {L : Array Bool} {i : Nat} (h0 : Region.ready md ops L = []) (h1 : i < ops.size) (hs : L.size = ops.size) (h3 : ((ops[i]?).map (·.after.all fun e => !Region.binds md e || L.getD e.on false)).getD false = true) : L[i]?.getD false = true := by
  cases hq : L[i]?.getD false with
  | true => rfl
  | false =>
    have h2 : L.getD i true = false := by
      simp only [Array.getD_eq_getD_getElem?] at *
      rw [Array.getElem?_eq_getElem (by omega)] at *
      exact hq
    have : i ∈ Region.ready md ops L := by
      unfold Region.ready
      rw [List.mem_filter]
      refine ⟨List.mem_range.2 h1, ?_⟩
      rw [h2, h3]; rfl
    rw [h0] at this
    cases this

/-- What holds between the operations of Print's one statement. -/
def PrI (w1 : World) (z : Nat) (l a o : Int) (K : Nat) (LT SG DG : ByteArray) (L : Array Bool) (A : Act) (W : World) : Prop :=
  L.size = 16 ∧ Below w1.heap.size w1 W ∧ (L[7]?.getD false = true → L[3]?.getD false = true) ∧ ∃ (t2 t3 t7 t8 t9 t10 t11 t12 t13 t14 t15 t16 t17 t18 t19 t20 : Value) (g : Nat), A = { tmps := #[.agg #[.int .i64 l, .int .i64 a, .int .i64 o], .pointer (some ⟨z, 0, none⟩), t2, t3, .agg #[.int .i64 l, .int .i64 a, .int .i64 o], .bool true, .bool false, t7, t8, t9, t10, t11, t12, t13, t14, t15, t16, t17, t18, t19, t20], defers := [] } ∧
  (L[0]?.getD false = true → t7 = .pointer (some ⟨z, 0, none⟩)) ∧
  (L[1]?.getD false = true → t8 = .int .i64 l) ∧
  (L[2]?.getD false = true → t9 = .string LT) ∧
  (L[3]?.getD false = true → t10 = .slice (some ⟨g, 0, none⟩) 7 7 ∧ W.cell? ⟨g, K, none⟩ = some (.string SG) ∧ g < W.heap.size) ∧
  (L[4]?.getD false = true → t11 = .pointer (some ⟨z, 1, none⟩)) ∧
  (L[5]?.getD false = true → t12 = .int .i64 a) ∧
  (L[6]?.getD false = true → t13 = .int .i64 K) ∧
  (L[7]?.getD false = true → t14 = .pointer (some ⟨g, K, none⟩)) ∧
  (L[8]?.getD false = true → t15 = .string SG) ∧
  (L[9]?.getD false = true → t16 = .string (LT ++ SG)) ∧
  (L[10]?.getD false = true → t17 = .pointer (some ⟨z, 2, none⟩)) ∧
  (L[11]?.getD false = true → t18 = .int .i64 o) ∧
  (L[12]?.getD false = true → t19 = .string DG) ∧
  (L[13]?.getD false = true → t20 = .string (LT ++ SG ++ DG)) ∧
  (L[14]?.getD false = true → t2 = .string (LT ++ SG ++ DG)) ∧
  (L[15]?.getD false = true → t3 = .int .i64 0)

set_option maxRecDepth 20000 in
set_option maxHeartbeats 4000000 in
theorem refPrint_K (l o a : Int) (K : Nat) (k0 : IntKind.i64.wrap (a + 3) = (K : Int)) (k2 : (K : Int) < 7) (LT SG DG : ByteArray) (w : World) (hRt : ∀ X, Calls Tryd.prog 8 #[.agg #[.int .i64 l, .int .i64 a, .int .i64 o]] X fun e w' => e = .returned (.bool true) ∧ Below X.heap.size X w') (hLT : ∀ X, Calls Tryd.prog 36 #[.int .i64 l] X fun e w' => e = .returned (.string LT) ∧ Below X.heap.size X w') (hLs : LT.size ≤ 1)
    (hDG : ∀ X, Calls Tryd.prog 37 #[.int .i64 o] X fun e w' => e = .returned (.string DG) ∧ Below X.heap.size X w') (hDs : DG.size ≤ 100) (hSs : SG.size ≤ 7)
    (hKa : (#[.string ⟨#[240, 157, 132, 171, 226, 153, 173]⟩, .string ⟨#[240, 157, 132, 171]⟩, .string ⟨#[226, 153, 173]⟩, .string ⟨#[]⟩, .string ⟨#[226, 153, 175]⟩, .string ⟨#[240, 157, 132, 170]⟩, .string ⟨#[240, 157, 132, 170, 226, 153, 175]⟩] : Array Value)[K]? = some (.string SG)) :
    Calls Tryd.prog 18 #[.agg #[.int .i64 l, .int .i64 a, .int .i64 o]] w fun e w' => e = .returned (.tuple #[.string (LT ++ SG ++ DG), .int .i64 0]) ∧ Below w.heap.size w w' := by
  have hKl : ([.string ⟨#[240, 157, 132, 171, 226, 153, 173]⟩, .string ⟨#[240, 157, 132, 171]⟩, .string ⟨#[226, 153, 173]⟩, .string ⟨#[]⟩, .string ⟨#[226, 153, 175]⟩, .string ⟨#[240, 157, 132, 170]⟩, .string ⟨#[240, 157, 132, 170, 226, 153, 175]⟩] : List Value)[K]? = some (.string SG) := by rw [← List.getElem?_toArray]; exact hKa
  have k1 : (0 : Int) ≤ K := by omega
  have k3 : K < 7 := by omega
  go_enter Tryd.func18, Tryd.ntmps18
  go_wp2_with fail
  refine (hRt _).mono ?_
  rintro e w1 ⟨rfl, hb1⟩
  have A0 : w1.cell? ⟨w.heap.size, 0, none⟩ = some (.int .i64 l) := keepC hb1 (by simp) (by simp [go_sem])
  have A1 : w1.cell? ⟨w.heap.size, 1, none⟩ = some (.int .i64 a) := keepC hb1 (by simp) (by simp [go_sem])
  have A2 : w1.cell? ⟨w.heap.size, 2, none⟩ = some (.int .i64 o) := keepC hb1 (by simp) (by simp [go_sem])
  have h01 : Below w.heap.size w w1 := Below.trans (by go_grown) (hb1.mono (by simp))
  have z1 := hb1.size
  simp at z1
  have s1 : w.heap.size < w1.heap.size := by omega
  clear hb1 hRt z1
  have n1 : ¬ 9223372036854775807 < LT.size + SG.size := by omega
  have n2 : ¬ 9223372036854775807 < LT.size + SG.size + DG.size := by omega
  go_wp2_with fail
  go_cut [2, 3] (fun c q wx => c = .string (LT ++ SG ++ DG) ∧ q = .int .i64 0 ∧ Below w1.heap.size w1 wx)
  case first =>
    refine wp_region_any (by kernel_rfl) ?_
    refine wpAny_inv (PrI w1 w.heap.size l a o K LT SG DG) (fun L A W h => h.1.trans rfl) ?done ?step _ _ _ _ ?init ?fuel
    case fuel => decide
    case init =>
      refine ⟨rfl, ⟨rfl, rfl, rfl, Nat.le_refl _, fun _ _ => rfl⟩, fun h => (by cases h), .string ⟨#[]⟩, .int .i64 0, undef, undef, undef, undef, undef, undef, undef, undef, undef, undef, undef, undef, undef, undef, 0, rfl, fun h => (by cases h), fun h => (by cases h), fun h => (by cases h), fun h => (by cases h), fun h => (by cases h), fun h => (by cases h), fun h => (by cases h), fun h => (by cases h), fun h => (by cases h), fun h => (by cases h), fun h => (by cases h), fun h => (by cases h), fun h => (by cases h), fun h => (by cases h), fun h => (by cases h), fun h => (by cases h)⟩
    case done =>
      rintro L A W ⟨hs, hb, h73, t2, t3, t7, t8, t9, t10, t11, t12, t13, t14, t15, t16, t17, t18, t19, t20, g, rfl, f0, f1, f2, f3, f4, f5, f6, f7, f8, f9, f10, f11, f12, f13, f14, f15⟩ hr
      have e0 : L[0]?.getD false = true := mem_ready hr (by decide) hs (by simp [Region.binds])
      have e1 : L[1]?.getD false = true := mem_ready hr (by decide) hs (by simp [Region.binds, e0])
      have e2 : L[2]?.getD false = true := mem_ready hr (by decide) hs (by simp [Region.binds, e1])
      have e3 : L[3]?.getD false = true := mem_ready hr (by decide) hs (by simp [Region.binds])
      have e4 : L[4]?.getD false = true := mem_ready hr (by decide) hs (by simp [Region.binds])
      have e5 : L[5]?.getD false = true := mem_ready hr (by decide) hs (by simp [Region.binds, e4])
      have e6 : L[6]?.getD false = true := mem_ready hr (by decide) hs (by simp [Region.binds, e5])
      have e7 : L[7]?.getD false = true := mem_ready hr (by decide) hs (by simp [Region.binds, e3, e6])
      have e8 : L[8]?.getD false = true := mem_ready hr (by decide) hs (by simp [Region.binds, e7])
      have e9 : L[9]?.getD false = true := mem_ready hr (by decide) hs (by simp [Region.binds, e2, e8])
      have e10 : L[10]?.getD false = true := mem_ready hr (by decide) hs (by simp [Region.binds])
      have e11 : L[11]?.getD false = true := mem_ready hr (by decide) hs (by simp [Region.binds, e10])
      have e12 : L[12]?.getD false = true := mem_ready hr (by decide) hs (by simp [Region.binds, e11, e2])
      have e13 : L[13]?.getD false = true := mem_ready hr (by decide) hs (by simp [Region.binds, e9, e12])
      have e14 : L[14]?.getD false = true := mem_ready hr (by decide) hs (by simp [Region.binds, e0, e1, e2, e3, e4, e5, e6, e7, e8, e9, e10, e11, e12, e13])
      have e15 : L[15]?.getD false = true := mem_ready hr (by decide) hs (by simp [Region.binds, e0, e1, e2, e3, e4, e5, e6, e7, e8, e9, e10, e11, e12, e13, e14])
      obtain rfl := f14 e14
      obtain rfl := f15 e15
      obtain ⟨rfl, _, _⟩ := f3 e3
      obtain rfl := f0 e0
      obtain rfl := f1 e1
      obtain rfl := f2 e2
      obtain rfl := f4 e4
      obtain rfl := f5 e5
      obtain rfl := f6 e6
      obtain rfl := f7 e7
      obtain rfl := f8 e8
      obtain rfl := f9 e9
      obtain rfl := f10 e10
      obtain rfl := f11 e11
      obtain rfl := f12 e12
      obtain rfl := f13 e13
      clear f0 f1 f2 f3 f4 f5 f6 f7 f8 f9 f10 f11 f12 f13 f14 f15
      go_wp2_with fail
      go_meet
      case rel => exact ⟨rfl, rfl, hb⟩
    case step =>
      rintro L A W ⟨hs, hb, h73, t2, t3, t7, t8, t9, t10, t11, t12, t13, t14, t15, t16, t17, t18, t19, t20, g, rfl, f0, f1, f2, f3, f4, f5, f6, f7, f8, f9, f10, f11, f12, f13, f14, f15⟩ i hi
      obtain ⟨h1, h2, h3⟩ := ready_mem hi
      have h1' : i < 16 := h1
      clear hi h1
      replace A0 := keepC hb s1 A0
      replace A1 := keepC hb s1 A1
      replace A2 := keepC hb s1 A2
      have hz := hb.size
      have sW : w.heap.size < W.heap.size := by omega
      rcases (show i = 0 ∨ i = 1 ∨ i = 2 ∨ i = 3 ∨ i = 4 ∨ i = 5 ∨ i = 6 ∨ i = 7 ∨ i = 8 ∨ i = 9 ∨ i = 10 ∨ i = 11 ∨ i = 12 ∨ i = 13 ∨ i = 14 ∨ i = 15 by omega) with rfl | rfl | rfl | rfl | rfl | rfl | rfl | rfl | rfl | rfl | rfl | rfl | rfl | rfl | rfl | rfl
      · -- operation 0
        refine wpOp_step rfl (fun K' hK' => ?_)
        go_simp
        exact hK' _ _ ⟨by simpa using hs, hb, fun h => by rw [gs L 0 3 (by decide)]; exact h73 (by rw [gs L 0 7 (by decide)] at h; exact h), _, _, _, _, _, _, _, _, _, _, _, _, _, _, _, _, _, rfl, fun _ => rfl, fun h => f1 (by rw [gs L 0 1 (by decide)] at h; exact h), fun h => f2 (by rw [gs L 0 2 (by decide)] at h; exact h), fun h => f3 (by rw [gs L 0 3 (by decide)] at h; exact h), fun h => f4 (by rw [gs L 0 4 (by decide)] at h; exact h), fun h => f5 (by rw [gs L 0 5 (by decide)] at h; exact h), fun h => f6 (by rw [gs L 0 6 (by decide)] at h; exact h), fun h => f7 (by rw [gs L 0 7 (by decide)] at h; exact h), fun h => f8 (by rw [gs L 0 8 (by decide)] at h; exact h), fun h => f9 (by rw [gs L 0 9 (by decide)] at h; exact h), fun h => f10 (by rw [gs L 0 10 (by decide)] at h; exact h), fun h => f11 (by rw [gs L 0 11 (by decide)] at h; exact h), fun h => f12 (by rw [gs L 0 12 (by decide)] at h; exact h), fun h => f13 (by rw [gs L 0 13 (by decide)] at h; exact h), fun h => f14 (by rw [gs L 0 14 (by decide)] at h; exact h), fun h => f15 (by rw [gs L 0 15 (by decide)] at h; exact h)⟩
      · -- operation 1
        simp [Region.binds] at h3
        obtain rfl := f0 h3
        refine wpOp_step rfl (fun K' hK' => ?_)
        go_simp
        exact hK' _ _ ⟨by simpa using hs, hb, fun h => by rw [gs L 1 3 (by decide)]; exact h73 (by rw [gs L 1 7 (by decide)] at h; exact h), _, _, _, _, _, _, _, _, _, _, _, _, _, _, _, _, _, rfl, fun h => f0 (by rw [gs L 1 0 (by decide)] at h; exact h), fun _ => rfl, fun h => f2 (by rw [gs L 1 2 (by decide)] at h; exact h), fun h => f3 (by rw [gs L 1 3 (by decide)] at h; exact h), fun h => f4 (by rw [gs L 1 4 (by decide)] at h; exact h), fun h => f5 (by rw [gs L 1 5 (by decide)] at h; exact h), fun h => f6 (by rw [gs L 1 6 (by decide)] at h; exact h), fun h => f7 (by rw [gs L 1 7 (by decide)] at h; exact h), fun h => f8 (by rw [gs L 1 8 (by decide)] at h; exact h), fun h => f9 (by rw [gs L 1 9 (by decide)] at h; exact h), fun h => f10 (by rw [gs L 1 10 (by decide)] at h; exact h), fun h => f11 (by rw [gs L 1 11 (by decide)] at h; exact h), fun h => f12 (by rw [gs L 1 12 (by decide)] at h; exact h), fun h => f13 (by rw [gs L 1 13 (by decide)] at h; exact h), fun h => f14 (by rw [gs L 1 14 (by decide)] at h; exact h), fun h => f15 (by rw [gs L 1 15 (by decide)] at h; exact h)⟩
      · -- operation 2
        simp [Region.binds] at h3
        obtain rfl := f1 h3
        refine wpOp_step rfl (fun K' hK' => ?_)
        go_simp
        refine (hLT _).mono ?_
        rintro e wa ⟨rfl, hba⟩
        exact hK' _ _ ⟨by simpa using hs, hb.trans (hba.mono hb.size), fun h => by rw [gs L 2 3 (by decide)]; exact h73 (by rw [gs L 2 7 (by decide)] at h; exact h), _, _, _, _, _, _, _, _, _, _, _, _, _, _, _, _, _, rfl, fun h => f0 (by rw [gs L 2 0 (by decide)] at h; exact h), fun h => f1 (by rw [gs L 2 1 (by decide)] at h; exact h), fun _ => rfl, fun h => ⟨(f3 (by rw [gs L 2 3 (by decide)] at h; exact h)).1, keepC hba (f3 (by rw [gs L 2 3 (by decide)] at h; exact h)).2.2 (f3 (by rw [gs L 2 3 (by decide)] at h; exact h)).2.1, Nat.lt_of_lt_of_le (f3 (by rw [gs L 2 3 (by decide)] at h; exact h)).2.2 hba.size⟩, fun h => f4 (by rw [gs L 2 4 (by decide)] at h; exact h), fun h => f5 (by rw [gs L 2 5 (by decide)] at h; exact h), fun h => f6 (by rw [gs L 2 6 (by decide)] at h; exact h), fun h => f7 (by rw [gs L 2 7 (by decide)] at h; exact h), fun h => f8 (by rw [gs L 2 8 (by decide)] at h; exact h), fun h => f9 (by rw [gs L 2 9 (by decide)] at h; exact h), fun h => f10 (by rw [gs L 2 10 (by decide)] at h; exact h), fun h => f11 (by rw [gs L 2 11 (by decide)] at h; exact h), fun h => f12 (by rw [gs L 2 12 (by decide)] at h; exact h), fun h => f13 (by rw [gs L 2 13 (by decide)] at h; exact h), fun h => f14 (by rw [gs L 2 14 (by decide)] at h; exact h), fun h => f15 (by rw [gs L 2 15 (by decide)] at h; exact h)⟩
      · -- operation 3
        refine wpOp_step rfl (fun K' hK' => ?_)
        go_simp
        exact hK' _ _ ⟨by simpa using hs, hb.alloc hb.size _, fun h => by simp [hs], _, _, _, _, _, _, _, _, _, _, _, _, _, _, _, _, _, rfl, fun h => f0 (by rw [gs L 3 0 (by decide)] at h; exact h), fun h => f1 (by rw [gs L 3 1 (by decide)] at h; exact h), fun h => f2 (by rw [gs L 3 2 (by decide)] at h; exact h), fun _ => ⟨rfl, by simp [go_sem, hKa, hKl], by simp⟩, fun h => f4 (by rw [gs L 3 4 (by decide)] at h; exact h), fun h => f5 (by rw [gs L 3 5 (by decide)] at h; exact h), fun h => f6 (by rw [gs L 3 6 (by decide)] at h; exact h), fun h => absurd (h73 (by rw [gs L 3 7 (by decide)] at h; exact h)) (by rw [gd L 3 h2]; decide), fun h => f8 (by rw [gs L 3 8 (by decide)] at h; exact h), fun h => f9 (by rw [gs L 3 9 (by decide)] at h; exact h), fun h => f10 (by rw [gs L 3 10 (by decide)] at h; exact h), fun h => f11 (by rw [gs L 3 11 (by decide)] at h; exact h), fun h => f12 (by rw [gs L 3 12 (by decide)] at h; exact h), fun h => f13 (by rw [gs L 3 13 (by decide)] at h; exact h), fun h => f14 (by rw [gs L 3 14 (by decide)] at h; exact h), fun h => f15 (by rw [gs L 3 15 (by decide)] at h; exact h)⟩
      · -- operation 4
        refine wpOp_step rfl (fun K' hK' => ?_)
        go_simp
        exact hK' _ _ ⟨by simpa using hs, hb, fun h => by rw [gs L 4 3 (by decide)]; exact h73 (by rw [gs L 4 7 (by decide)] at h; exact h), _, _, _, _, _, _, _, _, _, _, _, _, _, _, _, _, _, rfl, fun h => f0 (by rw [gs L 4 0 (by decide)] at h; exact h), fun h => f1 (by rw [gs L 4 1 (by decide)] at h; exact h), fun h => f2 (by rw [gs L 4 2 (by decide)] at h; exact h), fun h => f3 (by rw [gs L 4 3 (by decide)] at h; exact h), fun _ => rfl, fun h => f5 (by rw [gs L 4 5 (by decide)] at h; exact h), fun h => f6 (by rw [gs L 4 6 (by decide)] at h; exact h), fun h => f7 (by rw [gs L 4 7 (by decide)] at h; exact h), fun h => f8 (by rw [gs L 4 8 (by decide)] at h; exact h), fun h => f9 (by rw [gs L 4 9 (by decide)] at h; exact h), fun h => f10 (by rw [gs L 4 10 (by decide)] at h; exact h), fun h => f11 (by rw [gs L 4 11 (by decide)] at h; exact h), fun h => f12 (by rw [gs L 4 12 (by decide)] at h; exact h), fun h => f13 (by rw [gs L 4 13 (by decide)] at h; exact h), fun h => f14 (by rw [gs L 4 14 (by decide)] at h; exact h), fun h => f15 (by rw [gs L 4 15 (by decide)] at h; exact h)⟩
      · -- operation 5
        simp [Region.binds] at h3
        obtain rfl := f4 h3
        refine wpOp_step rfl (fun K' hK' => ?_)
        go_simp
        exact hK' _ _ ⟨by simpa using hs, hb, fun h => by rw [gs L 5 3 (by decide)]; exact h73 (by rw [gs L 5 7 (by decide)] at h; exact h), _, _, _, _, _, _, _, _, _, _, _, _, _, _, _, _, _, rfl, fun h => f0 (by rw [gs L 5 0 (by decide)] at h; exact h), fun h => f1 (by rw [gs L 5 1 (by decide)] at h; exact h), fun h => f2 (by rw [gs L 5 2 (by decide)] at h; exact h), fun h => f3 (by rw [gs L 5 3 (by decide)] at h; exact h), fun h => f4 (by rw [gs L 5 4 (by decide)] at h; exact h), fun _ => rfl, fun h => f6 (by rw [gs L 5 6 (by decide)] at h; exact h), fun h => f7 (by rw [gs L 5 7 (by decide)] at h; exact h), fun h => f8 (by rw [gs L 5 8 (by decide)] at h; exact h), fun h => f9 (by rw [gs L 5 9 (by decide)] at h; exact h), fun h => f10 (by rw [gs L 5 10 (by decide)] at h; exact h), fun h => f11 (by rw [gs L 5 11 (by decide)] at h; exact h), fun h => f12 (by rw [gs L 5 12 (by decide)] at h; exact h), fun h => f13 (by rw [gs L 5 13 (by decide)] at h; exact h), fun h => f14 (by rw [gs L 5 14 (by decide)] at h; exact h), fun h => f15 (by rw [gs L 5 15 (by decide)] at h; exact h)⟩
      · -- operation 6
        simp [Region.binds] at h3
        obtain rfl := f5 h3
        refine wpOp_step rfl (fun K' hK' => ?_)
        go_simp
        exact hK' _ _ ⟨by simpa using hs, hb, fun h => by rw [gs L 6 3 (by decide)]; exact h73 (by rw [gs L 6 7 (by decide)] at h; exact h), _, _, _, _, _, _, _, _, _, _, _, _, _, _, _, _, _, rfl, fun h => f0 (by rw [gs L 6 0 (by decide)] at h; exact h), fun h => f1 (by rw [gs L 6 1 (by decide)] at h; exact h), fun h => f2 (by rw [gs L 6 2 (by decide)] at h; exact h), fun h => f3 (by rw [gs L 6 3 (by decide)] at h; exact h), fun h => f4 (by rw [gs L 6 4 (by decide)] at h; exact h), fun h => f5 (by rw [gs L 6 5 (by decide)] at h; exact h), fun _ => rfl, fun h => f7 (by rw [gs L 6 7 (by decide)] at h; exact h), fun h => f8 (by rw [gs L 6 8 (by decide)] at h; exact h), fun h => f9 (by rw [gs L 6 9 (by decide)] at h; exact h), fun h => f10 (by rw [gs L 6 10 (by decide)] at h; exact h), fun h => f11 (by rw [gs L 6 11 (by decide)] at h; exact h), fun h => f12 (by rw [gs L 6 12 (by decide)] at h; exact h), fun h => f13 (by rw [gs L 6 13 (by decide)] at h; exact h), fun h => f14 (by rw [gs L 6 14 (by decide)] at h; exact h), fun h => f15 (by rw [gs L 6 15 (by decide)] at h; exact h)⟩
      · -- operation 7
        simp [Region.binds] at h3
        obtain ⟨rfl, gc, gl⟩ := f3 h3.1
        obtain rfl := f6 h3.2
        refine wpOp_step rfl (fun K' hK' => ?_)
        go_simp
        exact hK' _ _ ⟨by simpa using hs, hb, fun _ => by rw [gs L 7 3 (by decide)]; exact h3.1, _, _, _, _, _, _, _, _, _, _, _, _, _, _, _, _, _, rfl, fun h => f0 (by rw [gs L 7 0 (by decide)] at h; exact h), fun h => f1 (by rw [gs L 7 1 (by decide)] at h; exact h), fun h => f2 (by rw [gs L 7 2 (by decide)] at h; exact h), fun h => f3 (by rw [gs L 7 3 (by decide)] at h; exact h), fun h => f4 (by rw [gs L 7 4 (by decide)] at h; exact h), fun h => f5 (by rw [gs L 7 5 (by decide)] at h; exact h), fun h => f6 (by rw [gs L 7 6 (by decide)] at h; exact h), fun _ => rfl, fun h => f8 (by rw [gs L 7 8 (by decide)] at h; exact h), fun h => f9 (by rw [gs L 7 9 (by decide)] at h; exact h), fun h => f10 (by rw [gs L 7 10 (by decide)] at h; exact h), fun h => f11 (by rw [gs L 7 11 (by decide)] at h; exact h), fun h => f12 (by rw [gs L 7 12 (by decide)] at h; exact h), fun h => f13 (by rw [gs L 7 13 (by decide)] at h; exact h), fun h => f14 (by rw [gs L 7 14 (by decide)] at h; exact h), fun h => f15 (by rw [gs L 7 15 (by decide)] at h; exact h)⟩
      · -- operation 8
        simp [Region.binds] at h3
        have gc := (f3 (h73 h3)).2.1
        obtain rfl := f7 h3
        refine wpOp_step rfl (fun K' hK' => ?_)
        go_simp
        exact hK' _ _ ⟨by simpa using hs, hb, fun h => by rw [gs L 8 3 (by decide)]; exact h73 (by rw [gs L 8 7 (by decide)] at h; exact h), _, _, _, _, _, _, _, _, _, _, _, _, _, _, _, _, _, rfl, fun h => f0 (by rw [gs L 8 0 (by decide)] at h; exact h), fun h => f1 (by rw [gs L 8 1 (by decide)] at h; exact h), fun h => f2 (by rw [gs L 8 2 (by decide)] at h; exact h), fun h => f3 (by rw [gs L 8 3 (by decide)] at h; exact h), fun h => f4 (by rw [gs L 8 4 (by decide)] at h; exact h), fun h => f5 (by rw [gs L 8 5 (by decide)] at h; exact h), fun h => f6 (by rw [gs L 8 6 (by decide)] at h; exact h), fun h => f7 (by rw [gs L 8 7 (by decide)] at h; exact h), fun _ => rfl, fun h => f9 (by rw [gs L 8 9 (by decide)] at h; exact h), fun h => f10 (by rw [gs L 8 10 (by decide)] at h; exact h), fun h => f11 (by rw [gs L 8 11 (by decide)] at h; exact h), fun h => f12 (by rw [gs L 8 12 (by decide)] at h; exact h), fun h => f13 (by rw [gs L 8 13 (by decide)] at h; exact h), fun h => f14 (by rw [gs L 8 14 (by decide)] at h; exact h), fun h => f15 (by rw [gs L 8 15 (by decide)] at h; exact h)⟩
      · -- operation 9
        simp [Region.binds] at h3
        obtain rfl := f2 h3.1
        obtain rfl := f8 h3.2
        refine wpOp_step rfl (fun K' hK' => ?_)
        go_simp
        exact hK' _ _ ⟨by simpa using hs, hb, fun h => by rw [gs L 9 3 (by decide)]; exact h73 (by rw [gs L 9 7 (by decide)] at h; exact h), _, _, _, _, _, _, _, _, _, _, _, _, _, _, _, _, _, rfl, fun h => f0 (by rw [gs L 9 0 (by decide)] at h; exact h), fun h => f1 (by rw [gs L 9 1 (by decide)] at h; exact h), fun h => f2 (by rw [gs L 9 2 (by decide)] at h; exact h), fun h => f3 (by rw [gs L 9 3 (by decide)] at h; exact h), fun h => f4 (by rw [gs L 9 4 (by decide)] at h; exact h), fun h => f5 (by rw [gs L 9 5 (by decide)] at h; exact h), fun h => f6 (by rw [gs L 9 6 (by decide)] at h; exact h), fun h => f7 (by rw [gs L 9 7 (by decide)] at h; exact h), fun h => f8 (by rw [gs L 9 8 (by decide)] at h; exact h), fun _ => rfl, fun h => f10 (by rw [gs L 9 10 (by decide)] at h; exact h), fun h => f11 (by rw [gs L 9 11 (by decide)] at h; exact h), fun h => f12 (by rw [gs L 9 12 (by decide)] at h; exact h), fun h => f13 (by rw [gs L 9 13 (by decide)] at h; exact h), fun h => f14 (by rw [gs L 9 14 (by decide)] at h; exact h), fun h => f15 (by rw [gs L 9 15 (by decide)] at h; exact h)⟩
      · -- operation 10
        refine wpOp_step rfl (fun K' hK' => ?_)
        go_simp
        exact hK' _ _ ⟨by simpa using hs, hb, fun h => by rw [gs L 10 3 (by decide)]; exact h73 (by rw [gs L 10 7 (by decide)] at h; exact h), _, _, _, _, _, _, _, _, _, _, _, _, _, _, _, _, _, rfl, fun h => f0 (by rw [gs L 10 0 (by decide)] at h; exact h), fun h => f1 (by rw [gs L 10 1 (by decide)] at h; exact h), fun h => f2 (by rw [gs L 10 2 (by decide)] at h; exact h), fun h => f3 (by rw [gs L 10 3 (by decide)] at h; exact h), fun h => f4 (by rw [gs L 10 4 (by decide)] at h; exact h), fun h => f5 (by rw [gs L 10 5 (by decide)] at h; exact h), fun h => f6 (by rw [gs L 10 6 (by decide)] at h; exact h), fun h => f7 (by rw [gs L 10 7 (by decide)] at h; exact h), fun h => f8 (by rw [gs L 10 8 (by decide)] at h; exact h), fun h => f9 (by rw [gs L 10 9 (by decide)] at h; exact h), fun _ => rfl, fun h => f11 (by rw [gs L 10 11 (by decide)] at h; exact h), fun h => f12 (by rw [gs L 10 12 (by decide)] at h; exact h), fun h => f13 (by rw [gs L 10 13 (by decide)] at h; exact h), fun h => f14 (by rw [gs L 10 14 (by decide)] at h; exact h), fun h => f15 (by rw [gs L 10 15 (by decide)] at h; exact h)⟩
      · -- operation 11
        simp [Region.binds] at h3
        obtain rfl := f10 h3
        refine wpOp_step rfl (fun K' hK' => ?_)
        go_simp
        exact hK' _ _ ⟨by simpa using hs, hb, fun h => by rw [gs L 11 3 (by decide)]; exact h73 (by rw [gs L 11 7 (by decide)] at h; exact h), _, _, _, _, _, _, _, _, _, _, _, _, _, _, _, _, _, rfl, fun h => f0 (by rw [gs L 11 0 (by decide)] at h; exact h), fun h => f1 (by rw [gs L 11 1 (by decide)] at h; exact h), fun h => f2 (by rw [gs L 11 2 (by decide)] at h; exact h), fun h => f3 (by rw [gs L 11 3 (by decide)] at h; exact h), fun h => f4 (by rw [gs L 11 4 (by decide)] at h; exact h), fun h => f5 (by rw [gs L 11 5 (by decide)] at h; exact h), fun h => f6 (by rw [gs L 11 6 (by decide)] at h; exact h), fun h => f7 (by rw [gs L 11 7 (by decide)] at h; exact h), fun h => f8 (by rw [gs L 11 8 (by decide)] at h; exact h), fun h => f9 (by rw [gs L 11 9 (by decide)] at h; exact h), fun h => f10 (by rw [gs L 11 10 (by decide)] at h; exact h), fun _ => rfl, fun h => f12 (by rw [gs L 11 12 (by decide)] at h; exact h), fun h => f13 (by rw [gs L 11 13 (by decide)] at h; exact h), fun h => f14 (by rw [gs L 11 14 (by decide)] at h; exact h), fun h => f15 (by rw [gs L 11 15 (by decide)] at h; exact h)⟩
      · -- operation 12
        simp [Region.binds] at h3
        obtain rfl := f11 h3.1
        obtain rfl := f2 h3.2
        refine wpOp_step rfl (fun K' hK' => ?_)
        go_simp
        refine (hDG _).mono ?_
        rintro e wa ⟨rfl, hba⟩
        exact hK' _ _ ⟨by simpa using hs, hb.trans (hba.mono hb.size), fun h => by rw [gs L 12 3 (by decide)]; exact h73 (by rw [gs L 12 7 (by decide)] at h; exact h), _, _, _, _, _, _, _, _, _, _, _, _, _, _, _, _, _, rfl, fun h => f0 (by rw [gs L 12 0 (by decide)] at h; exact h), fun h => f1 (by rw [gs L 12 1 (by decide)] at h; exact h), fun h => f2 (by rw [gs L 12 2 (by decide)] at h; exact h), fun h => ⟨(f3 (by rw [gs L 12 3 (by decide)] at h; exact h)).1, keepC hba (f3 (by rw [gs L 12 3 (by decide)] at h; exact h)).2.2 (f3 (by rw [gs L 12 3 (by decide)] at h; exact h)).2.1, Nat.lt_of_lt_of_le (f3 (by rw [gs L 12 3 (by decide)] at h; exact h)).2.2 hba.size⟩, fun h => f4 (by rw [gs L 12 4 (by decide)] at h; exact h), fun h => f5 (by rw [gs L 12 5 (by decide)] at h; exact h), fun h => f6 (by rw [gs L 12 6 (by decide)] at h; exact h), fun h => f7 (by rw [gs L 12 7 (by decide)] at h; exact h), fun h => f8 (by rw [gs L 12 8 (by decide)] at h; exact h), fun h => f9 (by rw [gs L 12 9 (by decide)] at h; exact h), fun h => f10 (by rw [gs L 12 10 (by decide)] at h; exact h), fun h => f11 (by rw [gs L 12 11 (by decide)] at h; exact h), fun _ => rfl, fun h => f13 (by rw [gs L 12 13 (by decide)] at h; exact h), fun h => f14 (by rw [gs L 12 14 (by decide)] at h; exact h), fun h => f15 (by rw [gs L 12 15 (by decide)] at h; exact h)⟩
      · -- operation 13
        simp [Region.binds] at h3
        obtain rfl := f9 h3.1
        obtain rfl := f12 h3.2
        refine wpOp_step rfl (fun K' hK' => ?_)
        go_simp
        exact hK' _ _ ⟨by simpa using hs, hb, fun h => by rw [gs L 13 3 (by decide)]; exact h73 (by rw [gs L 13 7 (by decide)] at h; exact h), _, _, _, _, _, _, _, _, _, _, _, _, _, _, _, _, _, rfl, fun h => f0 (by rw [gs L 13 0 (by decide)] at h; exact h), fun h => f1 (by rw [gs L 13 1 (by decide)] at h; exact h), fun h => f2 (by rw [gs L 13 2 (by decide)] at h; exact h), fun h => f3 (by rw [gs L 13 3 (by decide)] at h; exact h), fun h => f4 (by rw [gs L 13 4 (by decide)] at h; exact h), fun h => f5 (by rw [gs L 13 5 (by decide)] at h; exact h), fun h => f6 (by rw [gs L 13 6 (by decide)] at h; exact h), fun h => f7 (by rw [gs L 13 7 (by decide)] at h; exact h), fun h => f8 (by rw [gs L 13 8 (by decide)] at h; exact h), fun h => f9 (by rw [gs L 13 9 (by decide)] at h; exact h), fun h => f10 (by rw [gs L 13 10 (by decide)] at h; exact h), fun h => f11 (by rw [gs L 13 11 (by decide)] at h; exact h), fun h => f12 (by rw [gs L 13 12 (by decide)] at h; exact h), fun _ => rfl, fun h => f14 (by rw [gs L 13 14 (by decide)] at h; exact h), fun h => f15 (by rw [gs L 13 15 (by decide)] at h; exact h)⟩
      · -- operation 14
        simp [Region.binds] at h3
        obtain rfl := f13 h3.1
        refine wpOp_step rfl (fun K' hK' => ?_)
        go_simp
        exact hK' _ _ ⟨by simpa using hs, hb, fun h => by rw [gs L 14 3 (by decide)]; exact h73 (by rw [gs L 14 7 (by decide)] at h; exact h), _, _, _, _, _, _, _, _, _, _, _, _, _, _, _, _, _, rfl, fun h => f0 (by rw [gs L 14 0 (by decide)] at h; exact h), fun h => f1 (by rw [gs L 14 1 (by decide)] at h; exact h), fun h => f2 (by rw [gs L 14 2 (by decide)] at h; exact h), fun h => f3 (by rw [gs L 14 3 (by decide)] at h; exact h), fun h => f4 (by rw [gs L 14 4 (by decide)] at h; exact h), fun h => f5 (by rw [gs L 14 5 (by decide)] at h; exact h), fun h => f6 (by rw [gs L 14 6 (by decide)] at h; exact h), fun h => f7 (by rw [gs L 14 7 (by decide)] at h; exact h), fun h => f8 (by rw [gs L 14 8 (by decide)] at h; exact h), fun h => f9 (by rw [gs L 14 9 (by decide)] at h; exact h), fun h => f10 (by rw [gs L 14 10 (by decide)] at h; exact h), fun h => f11 (by rw [gs L 14 11 (by decide)] at h; exact h), fun h => f12 (by rw [gs L 14 12 (by decide)] at h; exact h), fun h => f13 (by rw [gs L 14 13 (by decide)] at h; exact h), fun _ => rfl, fun h => f15 (by rw [gs L 14 15 (by decide)] at h; exact h)⟩
      · -- operation 15
        refine wpOp_step rfl (fun K' hK' => ?_)
        go_simp
        exact hK' _ _ ⟨by simpa using hs, hb, fun h => by rw [gs L 15 3 (by decide)]; exact h73 (by rw [gs L 15 7 (by decide)] at h; exact h), _, _, _, _, _, _, _, _, _, _, _, _, _, _, _, _, _, rfl, fun h => f0 (by rw [gs L 15 0 (by decide)] at h; exact h), fun h => f1 (by rw [gs L 15 1 (by decide)] at h; exact h), fun h => f2 (by rw [gs L 15 2 (by decide)] at h; exact h), fun h => f3 (by rw [gs L 15 3 (by decide)] at h; exact h), fun h => f4 (by rw [gs L 15 4 (by decide)] at h; exact h), fun h => f5 (by rw [gs L 15 5 (by decide)] at h; exact h), fun h => f6 (by rw [gs L 15 6 (by decide)] at h; exact h), fun h => f7 (by rw [gs L 15 7 (by decide)] at h; exact h), fun h => f8 (by rw [gs L 15 8 (by decide)] at h; exact h), fun h => f9 (by rw [gs L 15 9 (by decide)] at h; exact h), fun h => f10 (by rw [gs L 15 10 (by decide)] at h; exact h), fun h => f11 (by rw [gs L 15 11 (by decide)] at h; exact h), fun h => f12 (by rw [gs L 15 12 (by decide)] at h; exact h), fun h => f13 (by rw [gs L 15 13 (by decide)] at h; exact h), fun h => f14 (by rw [gs L 15 14 (by decide)] at h; exact h), fun _ => rfl⟩
  case rest =>
    obtain ⟨rfl, rfl, hbx⟩ := hcut
    go_wp2_with fail
    go_returns
    exact ⟨rfl, h01.trans (hbx.mono h01.size)⟩
end Go.Proofs.YtmccbokjigjpnaaDoor
