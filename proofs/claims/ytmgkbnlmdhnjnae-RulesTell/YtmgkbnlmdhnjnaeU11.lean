/- What the program's Count and Check come to. -/
import Derived.Test.YtmgkbnlmdhnjnaeU10
import Derived.Test.YtmgkbnlmdhnjnaeU2
namespace Go.Proofs.Ytmgkbnlmdhnjnae.U
open Go.RowKit Go.Maps Go.Sort
set_option linter.unusedVariables false
set_option linter.unusedSimpArgs false

theorem M.wr_zero {r : M.Ru} {g : Nat → Int} {n : Nat} (h : M.wr r g n = 0) : 1 ≤ n ∧ n ≤ 64 ∧ (∀ j, j < n → 0 ≤ g j ∧ g j ≤ 127) ∧ r.Ok := by
  by_cases c1 : n = 0 ∨ 64 < n
  · rw [M.wr_many c1] at h; cases h
  · by_cases c2 : M.ks g n = true ∧ r.Ok
    · exact ⟨by omega, by omega, M.ks_iff.1 c2.1, c2.2⟩
    · rw [M.wr_range c1 c2] at h; cases h
theorem M.wr_vals {r : M.Ru} {g : Nat → Int} {n : Nat} : M.wr r g n = 0 ∨ M.wr r g n = 3 ∨ M.wr r g n = 5 := by
  by_cases c1 : n = 0 ∨ 64 < n
  · exact Or.inr (Or.inr (M.wr_many c1))
  · by_cases c2 : M.ks g n = true ∧ r.Ok
    · exact Or.inl (M.wr_ok c1 c2)
    · exact Or.inr (Or.inl (M.wr_range c1 c2))
/-- What Count answers. -/
def M.cn (r : M.Ru) (g : Nat → Int) (n : Nat) : Int := if M.wr r g n = 0 then M.ct r g n n (-1) false else 0

set_option maxRecDepth 100000 in
set_option maxHeartbeats 4000000 in
theorem Count_any (r : M.Ru) (ao : Option Addr) (n c : Nat) (g : Nat → Int) (w : World) (hp : LI w ao n g) (hc : n ≤ c) (hcm : c ≤ 9223372036854775807) :
    Calls Try.prog 21 #[.agg #[.int .i64 r.low, .int .i64 r.high, .bool r.above, .int .i64 r.leap, .int .i64 r.classes], .slice ao n c] w fun e w' => e = .returned (.tuple #[.int .i64 (M.cn r g n), .int .i64 (M.wr r g n)]) ∧ Below w.heap.size w w' := by
  have HW := fun w hp => Wrong_any r ao n c g w hp hc hcm
  by_cases hw : M.wr r g n = 0
  · obtain ⟨h1, h2, h3, h4⟩ := M.wr_zero hw
    have hcn : M.cn r g n = M.ct r g n n (-1) false := by unfold M.cn; rw [if_pos hw]
    rw [hw] at HW ⊢
    rw [hcn]
    have HN := fun w hp => newSearch_any r ao n c g w hp hc hcm h4 h1 h2 h3
    have HY := fun sb wb w hs hm => ways_any r ao n c 0 g sb wb (-1) false w hs hc hcm h4 (by omega) (by omega) (by omega) h2 h3 hm
    rw [Nat.sub_zero] at HY
    go_enter Try.func21, Try.ntmps21
    go_wp2_with fail
    obtain ⟨W, hW⟩ : ∃ x, x = w.alloc (.cells #[.int .i64 r.low, .int .i64 r.high, .bool r.above, .int .i64 r.leap, .int .i64 r.classes] 38) := ⟨_, rfl⟩
    rw [← hW]
    have hbW : Below w.heap.size w W := by rw [hW]; go_grown
    have sW : w.heap.size < W.heap.size := by rw [hW]; simp
    have q0 : W.cell? ⟨w.heap.size, 0, none⟩ = some (.int .i64 r.low) := by rw [hW]; simp [go_sem]
    have q1 : W.cell? ⟨w.heap.size, 1, none⟩ = some (.int .i64 r.high) := by rw [hW]; simp [go_sem]
    have q2 : W.cell? ⟨w.heap.size, 2, none⟩ = some (.bool r.above) := by rw [hW]; simp [go_sem]
    have q3 : W.cell? ⟨w.heap.size, 3, none⟩ = some (.int .i64 r.leap) := by rw [hW]; simp [go_sem]
    have q4 : W.cell? ⟨w.heap.size, 4, none⟩ = some (.int .i64 r.classes) := by rw [hW]; simp [go_sem]
    clear hW
    refine (HW _ (hp.step hbW)).mono ?_
    rintro e w1 ⟨rfl, hb1⟩
    have p0 := keepC hb1 sW q0
    have p1 := keepC hb1 sW q1
    have p2 := keepC hb1 sW q2
    have p3 := keepC hb1 sW q3
    have p4 := keepC hb1 sW q4
    have s1 : w.heap.size < w1.heap.size := by have := hb1.size; omega
    have k1 : Below w.heap.size w w1 := hbW.trans (hb1.mono (by omega))
    clear q0 q1 q2 q3 q4 hb1 hbW sW HW
    go_wp2_with fail
    refine (HN _ (hp.step k1)).mono ?_
    rintro e w2 ⟨⟨sb, wb, rfl, hs2, hm2⟩, hb2⟩
    go_wp2_with fail
    refine (begun_any _).mono ?_
    rintro e w3 ⟨rfl, hb3⟩
    go_wp2_with fail
    have HY2 := HY sb wb _ (hs2.step hb3) (hm2.step hb3)
    have e0 : ((0 : Nat) : Int) = 0 := rfl
    rw [e0] at HY2
    refine HY2.mono ?_
    rintro e w4 ⟨rfl, hb4⟩
    go_wp2_with fail
    go_returns
    exact ⟨rfl, k1.trans (((hb2.trans (hb3.mono hb2.size)).trans (hb4.mono (Nat.le_trans hb2.size hb3.size))).mono k1.size)⟩
  · have hcn : M.cn r g n = 0 := by unfold M.cn; rw [if_neg hw]
    rw [hcn]
    have hw' : (M.wr r g n != 0) = true := by simp [hw]
    generalize M.wr r g n = X at *
    go_enter Try.func21, Try.ntmps21
    go_wp2_with fail
    refine (HW _ (hp.step (by go_grown))).mono ?_
    rintro e w1 ⟨rfl, hb1⟩
    go_wp2_with fail
    go_returns
    exact ⟨rfl, Below.trans (by go_grown) (hb1.mono (by simp))⟩

/-- The state ahead of place i. -/
def M.stk (x : Nat → Int) : Nat → Int
  | 0 => -1
  | i + 1 => x i
def M.sta (x : Nat → Int) : Nat → Bool
  | 0 => false
  | i + 1 => x i == M.stk x i
/-- What a line breaks at place i. -/
def M.br (r : M.Ru) (g : Nat → Int) (n : Nat) (x : Nat → Int) (i : Nat) : Int := if M.ba r g n i (x i) = 0 then M.bb r g i (M.stk x i) (M.sta x i) (x i) else M.ba r g n i (x i)
theorem M.br_ba {r : M.Ru} {g : Nat → Int} {n : Nat} {x : Nat → Int} {i : Nat} (h : M.ba r g n i (x i) ≠ 0) : M.br r g n x i = M.ba r g n i (x i) := by unfold M.br; rw [if_neg h]
theorem M.br_bb {r : M.Ru} {g : Nat → Int} {n : Nat} {x : Nat → Int} {i : Nat} (h : M.ba r g n i (x i) = 0) : M.br r g n x i = M.bb r g i (M.stk x i) (M.sta x i) (x i) := by unfold M.br; rw [if_pos h]
/-- The first place where something is broken, and what. -/
def CkQ (f : Nat → Int) (n : Nat) (W I : Int) : Prop := (W = 0 ∧ I = 0 ∧ ∀ i, i < n → f i = 0) ∨ ∃ i : Nat, i < n ∧ I = i ∧ W = f i ∧ f i ≠ 0 ∧ ∀ j, j < i → f j = 0
/-- What Check answers. -/
def CkR (r : M.Ru) (g : Nat → Int) (n : Nat) (x : Nat → Int) (l : Nat) (W I E : Int) : Prop :=
  (M.wr r g n ≠ 0 ∧ W = 0 ∧ I = 0 ∧ E = M.wr r g n) ∨ (M.wr r g n = 0 ∧ l ≠ n ∧ W = 0 ∧ I = 0 ∧ E = 8) ∨ (M.wr r g n = 0 ∧ l = n ∧ M.ks x l = false ∧ W = 0 ∧ I = 0 ∧ E = 3) ∨
    (M.wr r g n = 0 ∧ l = n ∧ M.ks x l = true ∧ E = 0 ∧ CkQ (M.br r g n x) n W I)

set_option maxRecDepth 100000 in
set_option maxHeartbeats 8000000 in
theorem Check_any (r : M.Ru) (ao : Option Addr) (n c : Nat) (g : Nat → Int) (bo : Option Addr) (l d : Nat) (x : Nat → Int) (w : World) (hp : LI w ao n g) (hc : n ≤ c) (hcm : c ≤ 9223372036854775807) (hq : LI w bo l x) (hd : l ≤ d) (hdm : d ≤ 9223372036854775807) :
    Calls Try.prog 19 #[.agg #[.int .i64 r.low, .int .i64 r.high, .bool r.above, .int .i64 r.leap, .int .i64 r.classes], .slice ao n c, .slice bo l d] w fun e w' => (∃ W I E, e = .returned (.tuple #[.int .i64 W, .int .i64 I, .int .i64 E]) ∧ CkR r g n x l W I E) ∧ Below w.heap.size w w' := by
  have HW := fun w hp => Wrong_any r ao n c g w hp hc hcm
  by_cases hw : M.wr r g n = 0
  rotate_left
  · have hw' : (M.wr r g n != 0) = true := by simp [hw]
    have HR : Hid (CkR r g n x l 0 0 (M.wr r g n)) := Or.inl ⟨hw, rfl, rfl, rfl⟩
    generalize M.wr r g n = X at *
    go_enter Try.func19, Try.ntmps19
    go_wp2_with fail
    refine (HW _ (hp.step (by go_grown))).mono ?_
    rintro e w1 ⟨rfl, hb1⟩
    go_wp2_with fail
    go_returns
    exact ⟨⟨_, _, _, rfl, HR.out⟩, Below.trans (by go_grown) (hb1.mono (by simp))⟩
  obtain ⟨h1, h2, h3, h4⟩ := M.wr_zero hw
  have hw0 := hw
  rw [hw] at HW
  by_cases hl : l = n
  rotate_left
  · have hl' : ((l : Int) != (n : Int)) = true := by simp; omega
    have HR : Hid (CkR r g n x l 0 0 8) := Or.inr (Or.inl ⟨hw, hl, rfl, rfl, rfl⟩)
    clear hl hw hw0
    go_enter Try.func19, Try.ntmps19
    go_wp2_with fail
    refine (HW _ (hp.step (by go_grown))).mono ?_
    rintro e w1 ⟨rfl, hb1⟩
    go_wp2_with fail
    go_returns
    exact ⟨⟨_, _, _, rfl, HR.out⟩, Below.trans (by go_grown) (hb1.mono (by simp))⟩
  subst hl
  have HK := fun w hp => allKeys_any bo l d x w hp hd hdm
  cases hk : M.ks x l
  · have HR : Hid (CkR r g l x l 0 0 3) := Or.inr (Or.inr (Or.inl ⟨hw, rfl, hk, rfl, rfl, rfl⟩))
    rw [hk] at HK
    clear hw hw0 hk
    go_enter Try.func19, Try.ntmps19
    go_wp2_with fail
    refine (HW _ (hp.step (by go_grown))).mono ?_
    rintro e w1 ⟨rfl, hb1⟩
    have k1 : Below w.heap.size w w1 := Below.trans (by go_grown) (hb1.mono (by simp))
    go_wp2_with fail
    refine (HK _ (hq.step k1)).mono ?_
    rintro e w2 ⟨rfl, hw2⟩
    rw [hw2]
    go_wp2_with fail
    go_returns
    exact ⟨⟨_, _, _, rfl, HR.out⟩, k1⟩
  rw [hk] at HK
  have hx := M.ks_iff.1 hk
  have HR : Hid (∀ W I, CkQ (M.br r g l x) l W I → CkR r g l x l W I 0) := fun W I h => Or.inr (Or.inr (Or.inr ⟨hw, rfl, hk, rfl, h⟩))
  have HA := fun i w hp (hi : i < l) => breaksAlone_any r ao l c i g (x i) w hp hc hcm h4 (hx i hi).1 (hx i hi).2 hi h2 h3
  have HB := fun i w hp (hi : i < l) h5 h6 => breaksBehind_any r ao l c i g (M.stk x i) (M.sta x i) (x i) w hp hc hcm (hx i hi).1 (hx i hi).2 h5 h6 hi h2 h3
  have HT := fun i w => then_any (M.stk x i) (x i) (M.sta x i) w
  have HBA : Hid (∀ i, M.ba r g l i (x i) ≠ 0 → M.br r g l x i = M.ba r g l i (x i)) := fun i => M.br_ba
  have HBB : Hid (∀ i, M.ba r g l i (x i) = 0 → M.br r g l x i = M.bb r g i (M.stk x i) (M.sta x i) (x i)) := fun i => M.br_bb
  have HSK : ∀ i, i ≤ l → -1 ≤ M.stk x i ∧ M.stk x i ≤ 127 := fun i hi => by
    cases i with
    | zero => simp [M.stk]
    | succ i => have := hx i (by omega); simp only [M.stk]; omega
  have HS1 : Hid (∀ i, M.stk x (i + 1) = x i) := fun i => rfl
  have HS2 : Hid (∀ i, M.sta x (i + 1) = (x i == M.stk x i)) := fun i => rfl
  have HS3 : Hid (M.stk x 0 = -1 ∧ M.sta x 0 = false) := ⟨rfl, rfl⟩
  generalize M.stk x = SK at *
  generalize M.sta x = SA at *
  generalize M.br r g l x = BR at *
  obtain ⟨xb, xo, rfl, hxl, q⟩ := hq.at' (by omega)
  clear hw hw0 hk
  go_enter Try.func19, Try.ntmps19
  go_wp2_with fail
  obtain ⟨W, hW⟩ : ∃ x, x = w.alloc (.cells #[.int .i64 r.low, .int .i64 r.high, .bool r.above, .int .i64 r.leap, .int .i64 r.classes] 38) := ⟨_, rfl⟩
  rw [← hW]
  have hbW : Below w.heap.size w W := by rw [hW]; go_grown
  have sW : w.heap.size < W.heap.size := by rw [hW]; simp
  have q0 : W.cell? ⟨w.heap.size, 0, none⟩ = some (.int .i64 r.low) := by rw [hW]; simp [go_sem]
  have q1 : W.cell? ⟨w.heap.size, 1, none⟩ = some (.int .i64 r.high) := by rw [hW]; simp [go_sem]
  have q2 : W.cell? ⟨w.heap.size, 2, none⟩ = some (.bool r.above) := by rw [hW]; simp [go_sem]
  have q3 : W.cell? ⟨w.heap.size, 3, none⟩ = some (.int .i64 r.leap) := by rw [hW]; simp [go_sem]
  have q4 : W.cell? ⟨w.heap.size, 4, none⟩ = some (.int .i64 r.classes) := by rw [hW]; simp [go_sem]
  clear hW
  refine (HW _ (hp.step hbW)).mono ?_
  rintro e w1 ⟨rfl, hb1⟩
  have k1 : Below w.heap.size w w1 := hbW.trans (hb1.mono (by omega))
  have s1 := hb1.size
  go_wp2_with fail
  refine (HK _ (hq.step k1)).mono ?_
  rintro e w2 ⟨rfl, hw2⟩
  rw [hw2]
  clear hw2
  go_wp2_with fail
  refine (begun_any _).mono ?_
  rintro e w3 ⟨rfl, hb3⟩
  have s3 := hb3.size
  have k3 : Below W.heap.size W w3 := hb1.trans (hb3.mono s1)
  have p0 := keepC k3 sW q0
  have p1 := keepC k3 sW q1
  have p2 := keepC k3 sW q2
  have p3 := keepC k3 sW q3
  have p4 := keepC k3 sW q4
  have k3w : Below w.heap.size w w3 := hbW.trans (k3.mono (by omega))
  have z3 : w.heap.size < w3.heap.size := by omega
  clear q0 q1 q2 q3 q4 hb1 hb3 k1 k3 HW HK s1 s3 sW hbW
  go_wp2_with fail
  go_loopw [31] (fun s wr => ∃ i : Nat, i ≤ l ∧ s = .int .i64 (i : Int) ∧ Below (w3.heap.size) w3 wr ∧ Hid (∀ j, j < i → BR j = 0) ∧ w3.heap.size < wr.heap.size ∧ wr.cell? ⟨w3.heap.size, 0, none⟩ = some (.int .i64 (SK i)) ∧ wr.cell? ⟨w3.heap.size, 1, none⟩ = some (.bool (SA i)) ∧ wr.frozen? ⟨w3.heap.size, 0, none⟩ = false ∧ wr.frozen? ⟨w3.heap.size, 1, none⟩ = false) (fun s _ => l - (intOf s).toNat)
  case atStart =>
    refine ⟨0, by omega, rfl, by go_grown, fun j hj => by omega, by simp, ?_, ?_, ?_, ?_⟩
    · rw [HS3.out.1]; simp [go_sem]
    · rw [HS3.out.2]; simp [go_sem]
    · simp [go_sem]
    · simp [go_sem]
  case round =>
    obtain ⟨i, hil, rfl, hbr, hbr0, sz, y0, y1, f0, f1⟩ := hrel
    have zr := hbr.size
    have hbw : Below w.heap.size w wr := k3w.trans (hbr.mono (by omega))
    by_cases hi : i < l
    rotate_left
    · have hV : Hid (CkR r g l x l 0 0 0) := HR.out 0 0 (Or.inl ⟨rfl, rfl, fun j hj => hbr0.out j (by omega)⟩)
      clear HR HA HB HT HBA HBB HSK HS1 HS2 HS3 q
      go_wp2_with fail
      go_returns
      exact ⟨⟨_, _, _, rfl, hV.out⟩, hbw⟩
    have hxi := keepC hbw hxl (q i hi)
    have m0 := keepC hbr z3 p0
    have m1 := keepC hbr z3 p1
    have m2 := keepC hbr z3 p2
    have m3 := keepC hbr z3 p3
    have m4 := keepC hbr z3 p4
    have zw : w.heap.size < wr.heap.size := by omega
    have zx : xb < wr.heap.size := by omega
    have wi1 : IntKind.i64.wrap ((i : Int) + 1) = (i : Int) + 1 := wid (by omega) (by omega)
    have hpr := hp.step hbw
    have hsk := HSK i hil
    by_cases ca : M.ba r g l i (x i) = 0
    rotate_left
    · have hV : Hid (CkR r g l x l (M.ba r g l i (x i)) (i : Int) 0) := HR.out _ _ (Or.inr ⟨i, hi, rfl, (HBA.out i ca).symm, by rw [HBA.out i ca]; exact ca, hbr0.out⟩)
      have ca1 : (M.ba r g l i (x i) == 0) = false := by simp [ca]
      have ca2 : (M.ba r g l i (x i) != 0) = true := by simp [ca]
      have HA1 := fun w hp => HA i w hp hi
      generalize M.ba r g l i (x i) = BA at *
      clear HR HA HB HT HBA HBB HSK HS1 HS2 HS3 q ca
      go_wp2_with fail
      refine (HA1 _ hpr).mono ?_
      rintro e w4 ⟨rfl, hb4⟩
      go_wp2_with fail
      go_returns
      exact ⟨⟨_, _, _, rfl, hV.out⟩, hbw.trans (hb4.mono (by omega))⟩
    have ca1 : (M.ba r g l i (x i) == 0) = true := by simp [ca]
    have HA1 := fun w hp => HA i w hp hi
    rw [ca] at HA1
    have HB1 := fun w hp => HB i w hp hi hsk.1 hsk.2
    have HBB1 : Hid (BR i = M.bb r g i (SK i) (SA i) (x i)) := HBB.out i ca
    have HT1 := fun w => HT i w
    by_cases cb : M.bb r g i (SK i) (SA i) (x i) = 0
    rotate_left
    · have hV : Hid (CkR r g l x l (M.bb r g i (SK i) (SA i) (x i)) (i : Int) 0) := HR.out _ _ (Or.inr ⟨i, hi, rfl, HBB1.out.symm, by rw [HBB1.out]; exact cb, hbr0.out⟩)
      have cb2 : (M.bb r g i (SK i) (SA i) (x i) != 0) = true := by simp [cb]
      clear HBB1
      generalize M.bb r g i (SK i) (SA i) (x i) = BB at *
      clear HR HA HB HT HBA HBB HSK HS1 HS2 HS3 q ca ca1 cb HT1
      go_wp2_with fail
      refine (HA1 _ hpr).mono ?_
      rintro e w4 ⟨rfl, hb4⟩
      have n0 := keepC hb4 zw m0
      have n1 := keepC hb4 zw m1
      have n2 := keepC hb4 zw m2
      have n3 := keepC hb4 zw m3
      have n4 := keepC hb4 zw m4
      have v0 := keepC hb4 sz y0
      have v1 := keepC hb4 sz y1
      have z4 : w.heap.size < w4.heap.size := by have := hb4.size; omega
      have z4' : w3.heap.size < w4.heap.size := by have := hb4.size; omega
      clear m0 m1 m2 m3 m4 y0 y1
      go_wp2_with fail
      refine (HB1 _ (hpr.step hb4)).mono ?_
      rintro e w5 ⟨rfl, hb5⟩
      go_wp2_with fail
      go_returns
      exact ⟨⟨_, _, _, rfl, hV.out⟩, hbw.trans ((hb4.trans (hb5.mono hb4.size)).mono (by omega))⟩
    have HN : Hid (∀ j, j < i + 1 → BR j = 0) := fun j hj => by
      rcases Nat.lt_succ_iff_lt_or_eq.1 hj with h | rfl
      · exact hbr0.out j h
      · rw [HBB1.out]; exact cb
    rw [cb] at HB1
    have e1 : Hid (SK (i + 1) = x i) := HS1.out i
    have e2 : Hid (SA (i + 1) = (x i == SK i)) := HS2.out i
    clear HR HA HB HT HBA HBB HSK HS1 HS2 HS3 q ca ca1 cb HBB1 hbr0
    go_wp2_with fail
    refine (HA1 _ hpr).mono ?_
    rintro e w4 ⟨rfl, hb4⟩
    have n0 := keepC hb4 zw m0
    have n1 := keepC hb4 zw m1
    have n2 := keepC hb4 zw m2
    have n3 := keepC hb4 zw m3
    have n4 := keepC hb4 zw m4
    have v0 := keepC hb4 sz y0
    have v1 := keepC hb4 sz y1
    have i0 := keepF hb4 sz f0
    have i1 := keepF hb4 sz f1
    have z4 : w.heap.size < w4.heap.size := by have := hb4.size; omega
    have z4' : w3.heap.size < w4.heap.size := by have := hb4.size; omega
    clear m0 m1 m2 m3 m4 y0 y1 f0 f1
    go_wp2_with fail
    refine (HB1 _ (hpr.step hb4)).mono ?_
    rintro e w5 ⟨rfl, hb5⟩
    have t0 := keepC hb5 z4' v0
    have t1 := keepC hb5 z4' v1
    have j0 := keepF hb5 z4' i0
    have j1 := keepF hb5 z4' i1
    have z5 : w3.heap.size < w5.heap.size := by have := hb5.size; omega
    clear n0 n1 n2 n3 n4 v0 v1 i0 i1
    go_wp2_with fail
    refine (HT1 _).mono ?_
    rintro e w6 ⟨rfl, hb6⟩
    have t2 := keepC hb6 z5 t0
    have t3 := keepC hb6 z5 t1
    have j2 := keepF hb6 z5 j0
    have j3 := keepF hb6 z5 j1
    have z6 : w3.heap.size < w6.heap.size := by have := hb6.size; omega
    have hbx : Below w3.heap.size w3 w6 := hbr.trans (((hb4.trans (hb5.mono hb4.size)).trans (hb6.mono (Nat.le_trans hb4.size hb5.size))).mono (by omega))
    clear t0 t1 j0 j1 hb4 hb5 hb6 HA1 HB1 HT1
    obtain ⟨o0, o1, o2, o3, o4⟩ := set2 (x := .int .i64 (x i)) (y := .bool (x i == SK i)) t2 t3
    go_wp2_with fail
    go_roundw
    case rel => exact ⟨i + 1, by omega, by push_cast; rfl, (hbx.setCell (by simp) _).setCell (by simp) _, HN, by rw [o4]; exact z6, by rw [e1.out]; exact o0, by rw [e2.out]; exact o1, (o3 _).trans j2, (o3 _).trans j3⟩
    case measure => simp [intOf]; omega
end Go.Proofs.Ytmgkbnlmdhnjnae.U
