/- What the program's wrongVoice and Wrong come to. -/
import Derived.Test.YtaohahahhjkcdaeGreatDoorSG24
import Derived.BigQuiet
namespace Go.Proofs.YtaohahahhjkcdaeGreatDoor.G
open Go.RowKit
set_option linter.unusedVariables false
set_option linter.unusedSimpArgs false

set_option maxRecDepth 20000 in
set_option maxHeartbeats 4000000 in
theorem wrongVoice_any (s : ByteArray) (ba : Option Addr) (n bc B : Nat) (up dn : Nat → Int) (t : Nat → M.It) (w : World) (hB0 : BL w B ba n up dn t) (hg0 : GT w B) (hBs : B ≤ w.heap.size) (hn : n ≤ bc) (hbc : bc ≤ 9223372036854775807) :
    Calls Tryz.prog 19 #[.agg #[.string s, .slice ba n bc]] w fun e w' => e = .returned (.int .i64 (M.vw s n up dn t)) ∧ Below w.heap.size w w' := by
  have hB := hB0.mono hBs
  have hg := hg0.mono hBs
  have HN := fun w => isName_any s w
  cases hnm : M.nm s
  · have hR : M.vw s n up dn t = 7 := by unfold M.vw; rw [if_pos hnm]
    rw [hR]
    rw [hnm] at HN
    clear hR
    go_enter Tryz.func19, Tryz.ntmps19
    go_wp2_with fail
    refine (HN _).mono ?_
    rintro e w1 ⟨rfl, hb1⟩
    go_wp2_with fail
    go_returns
    exact ⟨rfl, Below.trans (by go_grown) (hb1.mono (by simp))⟩
  rw [hnm] at HN
  by_cases hm : 1024 < n
  · have hR : M.vw s n up dn t = 5 := by unfold M.vw; rw [if_neg (by rw [hnm]; simp), if_pos hm]
    rw [hR]
    have d1 : (1024 : Int) < n := by omega
    clear hR hnm
    go_enter Tryz.func19, Tryz.ntmps19
    go_wp2_with fail
    refine (HN _).mono ?_
    rintro e w1 ⟨rfl, hb1⟩
    have p0 : w1.cell? ⟨w.heap.size, 0, none⟩ = some (.string s) := F.keepC hb1 (by simp) (by simp [go_sem])
    have p1 : w1.cell? ⟨w.heap.size, 1, none⟩ = some (.slice ba n bc) := F.keepC hb1 (by simp) (by simp [go_sem])
    have z1 := hb1.size
    simp at z1
    go_wp2_with fail
    go_returns
    exact ⟨rfl, Below.trans (by go_grown) (hb1.mono (by simp))⟩
  have d1 : ¬ (1024 : Int) < n := by omega
  have hR0 : M.vw s n up dn t = M.fe (fun j => M.bw (up j) (dn j) (t j)) n := by unfold M.vw; rw [if_neg (by rw [hnm]; simp), if_neg hm]
  rw [hR0]
  obtain ⟨V, hV⟩ : ∃ V, M.fe (fun j => M.bw (up j) (dn j) (t j)) n = V := ⟨_, rfl⟩
  rw [hV]
  have HX : Hid (∀ k, k < n → M.fe (fun j => M.bw (up j) (dn j) (t j)) k = 0 → M.bw (up k) (dn k) (t k) ≠ 0 → V = M.bw (up k) (dn k) (t k)) := fun k hk h h2 => by rw [← hV]; exact M.fe_stop k h h2 n hk
  have HY : Hid (M.fe (fun j => M.bw (up j) (dn j) (t j)) n = V) := hV
  clear hV hR0 hnm
  go_enter Tryz.func19, Tryz.ntmps19
  go_wp2_with fail
  refine (HN _).mono ?_
  rintro e w1 ⟨rfl, hb1⟩
  have p0 : w1.cell? ⟨w.heap.size, 0, none⟩ = some (.string s) := F.keepC hb1 (by simp) (by simp [go_sem])
  have p1 : w1.cell? ⟨w.heap.size, 1, none⟩ = some (.slice ba n bc) := F.keepC hb1 (by simp) (by simp [go_sem])
  have z1 := hb1.size
  simp at z1
  have k1 : Below w.heap.size w w1 := Below.trans (by go_grown) (hb1.mono (by simp))
  clear hb1
  go_wp2_with fail
  go_loopw [17] (fun i wr => ∃ j : Nat, j ≤ n ∧ i = .int .i64 j ∧ Hid (M.fe (fun j => M.bw (up j) (dn j) (t j)) j = 0) ∧ Below w.heap.size w wr) (fun i _ => n - (intOf i).toNat)
  case atStart => exact ⟨0, by omega, rfl, rfl, k1⟩
  case round =>
    obtain ⟨j, hjn, rfl, hfe, hbr⟩ := hrel
    have zr := hbr.size
    by_cases hlt : j < n
    · obtain ⟨b, off, rfl, hbl, cells⟩ := hB.at' (by omega)
      obtain ⟨ia, ic, c0, c1, c2, c3, c4, c5⟩ := cells j hlt
      have r0 := F.keepC hbr hbl c0
      have r1 := F.keepC hbr hbl c1
      have r2 := F.keepC hbr hbl c2
      have sb : b < wr.heap.size := by omega
      by_cases e1 : up j < 1 ∨ 65536 < up j
      · have hR : Hid (V = 3) := by
          have hb : M.bw (up j) (dn j) (t j) = 3 := by unfold M.bw; rw [if_pos (by omega)]
          show _ = _
          rw [HX.out j hlt hfe.out (by rw [hb]; decide), hb]
        have HS := fun w => isShare_no (up j) w e1
        clear HX HY cells e1 hB hg c5
        go_wp2_with fail
        refine (HS _).mono ?_
        rintro e w2 ⟨rfl, hw⟩
        rw [hw]
        go_wp2_with fail
        go_ret
        exact ⟨by rw [hR.out]; rfl, hbr.alloc hbr.size _⟩
      have HS := fun w => isShare_yes (up j) w (by omega) (by omega)
      by_cases e2 : dn j < 1 ∨ 65536 < dn j
      · have hR : Hid (V = 3) := by
          have hb : M.bw (up j) (dn j) (t j) = 3 := by unfold M.bw; rw [if_pos (by omega)]
          show _ = _
          rw [HX.out j hlt hfe.out (by rw [hb]; decide), hb]
        have HS2 := fun w => isShare_no (dn j) w e2
        clear HX HY cells e1 e2 hB hg c5
        go_wp2_with fail
        refine (HS _).mono ?_
        rintro e w2 ⟨rfl, hw⟩
        rw [hw]
        go_wp2_with fail
        refine (HS2 _).mono ?_
        rintro e w3 ⟨rfl, hw3⟩
        rw [hw3]
        go_wp2_with fail
        go_ret
        exact ⟨by rw [hR.out]; rfl, hbr.alloc hbr.size _⟩
      have HS2 := fun w => isShare_yes (dn j) w (by omega) (by omega)
      have hb0 : M.bw (up j) (dn j) (t j) = if (M.ri (t j) 1 0).1 = false then 2 else 0 := by unfold M.bw; rw [if_neg (by omega)]
      have hW : Below w.heap.size w ((wr.alloc (Obj.cells #[.int .i64 (up j), .int .i64 (dn j), .slice ia (t j).n ic] 34)).alloc (Obj.cells #[.int .i64 0] 3)) := (hbr.alloc hbr.size _).alloc (by simp; omega) _
      have HR := rightItems_any (t j) 1 0 ((wr.alloc (Obj.cells #[.int .i64 (up j), .int .i64 (dn j), .slice ia (t j).n ic] 34)).alloc (Obj.cells #[.int .i64 0] 3)) w.heap.size (wr.heap.size + 1) ia ic (LL.step _ _ c5 hW) (hg.step hW) (by omega) (by simp) (by simp [go_sem]) (by simp [go_sem]) c3 c4 (by omega) (by omega) (by omega) (by omega)
      obtain ⟨Y, hY⟩ : ∃ Y, M.ri (t j) 1 0 = Y := ⟨_, rfl⟩
      rw [hY] at HR hb0
      obtain ⟨Y1, Y2⟩ := Y
      simp only at HR hb0
      cases Y1
      · have hR : Hid (V = 2) := by
          have hb : M.bw (up j) (dn j) (t j) = 2 := by rw [hb0]; rfl
          show _ = _
          rw [HX.out j hlt hfe.out (by rw [hb]; decide), hb]
        clear HX HY cells e1 e2 hB hg c5 hY hb0
        go_wp2_with fail
        refine (HS _).mono ?_
        rintro e w2 ⟨rfl, hw⟩
        rw [hw]
        go_wp2_with fail
        refine (HS2 _).mono ?_
        rintro e w3 ⟨rfl, hw3⟩
        rw [hw3]
        go_wp2_with fail
        refine HR.mono ?_
        rintro e w4 ⟨rfl, hS4⟩
        have k4 := hW.trans hS4.b
        go_wp2_with fail
        go_ret
        exact ⟨by rw [hR.out]; rfl, k4⟩
      · have hfe2 : Hid (M.fe (fun j => M.bw (up j) (dn j) (t j)) (j + 1) = 0) := M.fe_next j hfe.out (by rw [hb0]; rfl)
        clear HX HY cells e1 e2 hB hg c5 hY hb0
        go_wp2_with fail
        refine (HS _).mono ?_
        rintro e w2 ⟨rfl, hw⟩
        rw [hw]
        go_wp2_with fail
        refine (HS2 _).mono ?_
        rintro e w3 ⟨rfl, hw3⟩
        rw [hw3]
        go_wp2_with fail
        refine HR.mono ?_
        rintro e w4 ⟨rfl, hS4⟩
        have k4 := hW.trans hS4.b
        go_wp2_with fail
        go_roundw
        case rel => exact ⟨j + 1, by omega, by first | rfl | go_num, hfe2, k4⟩
        case measure => simp [intOf]; omega
    · obtain rfl : j = n := by omega
      have hR : Hid (V = 0) := by show _ = _; rw [← HY.out]; exact hfe.out
      clear HX HY hB hg
      go_wp2_with fail
      go_ret
      exact ⟨by rw [hR.out]; rfl, hbr⟩

/-- Voices as they lie. -/
structure VL (w : World) (B : Nat) (ao : Option Addr) (nv : Nat) (s : Nat → ByteArray) (n : Nat → Nat) (up dn : Nat → Nat → Int) (t : Nat → Nat → M.It) : Prop where
  at' : 0 < nv → ∃ b off, ao = some ⟨b, off, none⟩ ∧ b < B ∧ ∀ i, i < nv → ∃ (ba : Option Addr) (bc : Nat), w.cell? ⟨b, off + i * 2, none⟩ = some (.string (s i)) ∧ w.cell? ⟨b, off + i * 2 + 1, none⟩ = some (.slice ba (n i) bc) ∧ n i ≤ bc ∧ bc ≤ 9223372036854775807 ∧ BL w B ba (n i) (up i) (dn i) (t i)
theorem VL.step {w w' : World} {B : Nat} {ao : Option Addr} {nv : Nat} {s : Nat → ByteArray} {n : Nat → Nat} {up dn : Nat → Nat → Int} {t : Nat → Nat → M.It} (h : VL w B ao nv s n up dn t) (hb : Below B w w') : VL w' B ao nv s n up dn t :=
  ⟨fun hn => by
    obtain ⟨b, off, h1, h2, h3⟩ := h.at' hn
    refine ⟨b, off, h1, h2, fun i hi => ?_⟩
    obtain ⟨ba, bc, c0, c1, c2, c3, c4⟩ := h3 i hi
    exact ⟨ba, bc, F.keepC hb h2 c0, F.keepC hb h2 c1, c2, c3, c4.step hb⟩⟩

set_option maxRecDepth 20000 in
set_option maxHeartbeats 4000000 in
theorem Wrong_any (ao : Option Addr) (nv vc B : Nat) (s : Nat → ByteArray) (n : Nat → Nat) (up dn : Nat → Nat → Int) (t : Nat → Nat → M.It) (w : World) (hV : VL w B ao nv s n up dn t) (hg : GT w B) (hBs : B ≤ w.heap.size) (hn : nv ≤ vc) (hvc : vc ≤ 9223372036854775807) :
    Calls Tryz.prog 11 #[.slice ao nv vc] w fun e w' => e = .returned (.int .i64 (M.pw nv s n up dn t)) ∧ Below w.heap.size w w' := by
  by_cases hm : 64 < nv
  · have hR : M.pw nv s n up dn t = 5 := by unfold M.pw; rw [if_pos hm]
    rw [hR]
    have d1 : (64 : Int) < nv := by omega
    go_enter Tryz.func11, Tryz.ntmps11
    go_wp2_with fail
    go_ret
    exact ⟨rfl, Below.refl _ _⟩
  have d1 : ¬ (64 : Int) < nv := by omega
  have hR0 : M.pw nv s n up dn t = M.fe (fun i => M.vw (s i) (n i) (up i) (dn i) (t i)) nv := by unfold M.pw; rw [if_neg hm]
  rw [hR0]
  obtain ⟨V, hVe⟩ : ∃ V, M.fe (fun i => M.vw (s i) (n i) (up i) (dn i) (t i)) nv = V := ⟨_, rfl⟩
  rw [hVe]
  have HX : Hid (∀ k, k < nv → M.fe (fun i => M.vw (s i) (n i) (up i) (dn i) (t i)) k = 0 → M.vw (s k) (n k) (up k) (dn k) (t k) ≠ 0 → V = M.vw (s k) (n k) (up k) (dn k) (t k)) := fun k hk h h2 => by rw [← hVe]; exact M.fe_stop k h h2 nv hk
  have HY : Hid (M.fe (fun i => M.vw (s i) (n i) (up i) (dn i) (t i)) nv = V) := hVe
  clear hVe hR0
  go_enter Tryz.func11, Tryz.ntmps11
  go_wp2_with fail
  go_loopw [11] (fun i wr => ∃ j : Nat, j ≤ nv ∧ i = .int .i64 j ∧ Hid (M.fe (fun i => M.vw (s i) (n i) (up i) (dn i) (t i)) j = 0) ∧ Below w.heap.size w wr) (fun i _ => nv - (intOf i).toNat)
  case atStart => exact ⟨0, by omega, rfl, rfl, Below.refl _ _⟩
  case round =>
    obtain ⟨j, hjn, rfl, hfe, hbr⟩ := hrel
    have zr := hbr.size
    by_cases hlt : j < nv
    · obtain ⟨b, off, rfl, hbl, cells⟩ := hV.at' (by omega)
      obtain ⟨ba, bc, c0, c1, c2, c3, c4⟩ := cells j hlt
      have hbB : Below B w wr := hbr.mono hBs
      have r0 := F.keepC hbB hbl c0
      have r1 := F.keepC hbB hbl c1
      have sb : b < wr.heap.size := by omega
      have HW := fun W (h : Below B w W) hz => wrongVoice_any (s j) ba (n j) bc B (up j) (dn j) (t j) W (c4.step h) (hg.step h) hz c2 c3
      by_cases e1 : M.vw (s j) (n j) (up j) (dn j) (t j) = 0
      · have hfe2 : Hid (M.fe (fun i => M.vw (s i) (n i) (up i) (dn i) (t i)) (j + 1) = 0) := M.fe_next j hfe.out e1
        rw [e1] at HW
        clear HX HY cells e1
        go_wp2_with fail
        refine (HW _ (hbB.alloc (by omega) _) (by simp; omega)).mono ?_
        rintro e w2 ⟨rfl, hb2⟩
        have k2 : Below w.heap.size w w2 := (hbr.alloc hbr.size _).trans (hb2.mono (by simp; omega))
        go_wp2_with fail
        go_roundw
        case rel => exact ⟨j + 1, by omega, by first | rfl | go_num, hfe2, k2⟩
        case measure => simp [intOf]; omega
      · have hR : Hid (V = M.vw (s j) (n j) (up j) (dn j) (t j)) := HX.out j hlt hfe.out e1
        have e1b : (M.vw (s j) (n j) (up j) (dn j) (t j) != 0) = true := by simp [e1]
        clear HX HY cells e1
        generalize M.vw (s j) (n j) (up j) (dn j) (t j) = U at *
        go_wp2_with fail
        refine (HW _ (hbB.alloc (by omega) _) (by simp; omega)).mono ?_
        rintro e w2 ⟨rfl, hb2⟩
        have k2 : Below w.heap.size w w2 := (hbr.alloc hbr.size _).trans (hb2.mono (by simp; omega))
        go_wp2_with fail
        go_ret
        exact ⟨by rw [hR.out]; rfl, k2⟩
    · obtain rfl : j = nv := by omega
      have hR : Hid (V = 0) := by show _ = _; rw [← HY.out]; exact hfe.out
      clear HX HY
      go_wp2_with fail
      go_ret
      exact ⟨by rw [hR.out]; rfl, hbr⟩
end Go.Proofs.YtaohahahhjkcdaeGreatDoor.G

/- The program's reader: how it lies, where blanks end; skipBlanks, stands. -/
namespace Go.Proofs.YtaohahahhjkcdaeGreatDoor.J
open Go.RowKit
set_option linter.unusedVariables false
set_option linter.unusedSimpArgs false

theorem keepC {B : Nat} {W w1 : World} (hb : Below B W w1) {b o : Nat} {v : Value} (hlt : b < B) (h : W.cell? ⟨b, o, none⟩ = some v) : w1.cell? ⟨b, o, none⟩ = some v :=
  (hb.cell (p := ⟨b, o, none⟩) hlt).trans h
theorem keepF {B : Nat} {W w1 : World} (hb : Below B W w1) {b o : Nat} {v : Bool} (hlt : b < B) (h : W.frozen? ⟨b, o, none⟩ = v) : w1.frozen? ⟨b, o, none⟩ = v :=
  (hb.frozen (p := ⟨b, o, none⟩) hlt).trans h
theorem wid {x : Int} (h1 : -9223372036854775808 ≤ x) (h2 : x ≤ 9223372036854775807) : IntKind.i64.wrap x = x := by
  rw [IntKind.wrap_i64]; omega
def cv (w : World) (b o : Nat) : Value := (w.cell? ⟨b, o, none⟩).getD (.bool false)
theorem cv_is {w : World} {b o : Nat} {v : Value} (h : w.cell? ⟨b, o, none⟩ = some v) : cv w b o = v := by unfold cv; rw [h]; rfl
/-- The byte at a place. -/
def M.by (s : ByteArray) (k : Nat) : Nat := (s.data.toList.getD k 0).toNat
theorem M.by_is (s : ByteArray) (k : Nat) (h : k < s.size) : (s[k]'h).toNat = M.by s k := by
  unfold M.by
  show (s.data[k]'h).toNat = _
  rw [List.getD_eq_getElem?_getD, List.getElem?_eq_getElem (by simpa using h)]
  simp
theorem M.by_lt (s : ByteArray) (k : Nat) : M.by s k < 256 := (s.data.toList.getD k 0).toNat_lt
/-- A blank. -/
def M.bl (s : ByteArray) (k : Nat) : Bool := decide (k < s.size) && (decide (M.by s k = 32) || decide (M.by s k = 10))
/-- Where blanks end, c places at most being looked at. -/
def M.sb (s : ByteArray) : Nat → Nat → Nat
  | 0, k => k
  | c + 1, k => if M.bl s k = true then M.sb s c (k + 1) else k
def M.skp (s : ByteArray) (k : Nat) : Nat := M.sb s (s.size - k) k
theorem M.bl_lt {s : ByteArray} {k : Nat} (h : M.bl s k = true) : k < s.size := by
  unfold M.bl at h; simp only [Bool.and_eq_true, decide_eq_true_eq] at h; exact h.1
theorem M.skp_on {s : ByteArray} {k : Nat} (h : M.bl s k = true) : M.skp s k = M.skp s (k + 1) := by
  have hl := M.bl_lt h
  unfold M.skp
  rw [show s.size - k = (s.size - (k + 1)) + 1 by omega, M.sb, if_pos h]
theorem M.skp_off {s : ByteArray} {k : Nat} (h : M.bl s k = false) : M.skp s k = k := by
  unfold M.skp
  cases hc : s.size - k with
  | zero => rfl
  | succ c => rw [M.sb, if_neg (by rw [h]; decide)]
theorem M.sb_le (s : ByteArray) : ∀ (c k : Nat), k ≤ s.size → k ≤ M.sb s c k ∧ M.sb s c k ≤ s.size
  | 0, k, h => ⟨Nat.le_refl _, h⟩
  | c + 1, k, h => by
    rw [M.sb]
    by_cases hb : M.bl s k = true
    · rw [if_pos hb]
      have hl := M.bl_lt hb
      have := M.sb_le s c (k + 1) (by omega)
      omega
    · rw [if_neg hb]; omega
theorem M.skp_le {s : ByteArray} {k : Nat} (h : k ≤ s.size) : k ≤ M.skp s k ∧ M.skp s k ≤ s.size := M.sb_le s _ k h

/-- A reader's text and place. -/
structure Rt (w : World) (p : Nat) (s : ByteArray) (k : Nat) : Prop where
  lt : p < w.heap.size
  c0 : w.cell? ⟨p, 0, none⟩ = some (.string s)
  c1 : w.cell? ⟨p, 1, none⟩ = some (.int .i64 (k : Int))
  f1 : w.frozen? ⟨p, 1, none⟩ = false
/-- What a reader's function keeps: all but the place. -/
structure TK (w : World) (p : Nat) (w' : World) : Prop where
  bel : Below p w w'
  blk : ∀ b, b < w.heap.size → b ≠ p → w'.heap[b]? = w.heap[b]?
  oth : ∀ i, i ≠ 1 → w'.cell? ⟨p, i, none⟩ = w.cell? ⟨p, i, none⟩
  fz : ∀ i, w'.frozen? ⟨p, i, none⟩ = w.frozen? ⟨p, i, none⟩
theorem TK.refl (w : World) (p : Nat) : TK w p w := ⟨Below.refl _ _, fun _ _ _ => rfl, fun _ _ => rfl, fun _ => rfl⟩
theorem TK.trans {w w1 w2 : World} {p : Nat} (h : TK w p w1) (h2 : TK w1 p w2) : TK w p w2 :=
  ⟨h.bel.trans h2.bel, fun b b1 b2 => (h2.blk b (Nat.lt_of_lt_of_le b1 h.bel.size) b2).trans (h.blk b b1 b2), fun i hi => (h2.oth i hi).trans (h.oth i hi), fun i => (h2.fz i).trans (h.fz i)⟩
theorem TK.below {w w' : World} {p : Nat} (hb : Below w.heap.size w w') (hp : p < w.heap.size) : TK w p w' :=
  ⟨hb.mono (by omega), fun b b1 _ => hb.block b b1, fun i _ => hb.cell (p := ⟨p, i, none⟩) hp, fun i => hb.frozen (p := ⟨p, i, none⟩) hp⟩
theorem TK.set (w : World) (p : Nat) (v : Value) : TK w p (w.setCell ⟨p, 1, none⟩ v) :=
  ⟨(Below.refl p w).setCell (p := ⟨p, 1, none⟩) (Nat.le_refl _) _, fun b _ b2 => heap_setCell_other _ _ _ _ (by show b ≠ p; exact b2), fun i hi => World.cell?_setCell_other _ _ _ _ (by intro e; cases e; exact hi rfl), fun i => World.frozen?_setCell _ _ _ _⟩
theorem Rt.step {w w' : World} {p k : Nat} {s : ByteArray} (h : Rt w p s k) (hb : Below w.heap.size w w') : Rt w' p s k :=
  ⟨Nat.lt_of_lt_of_le h.lt hb.size, keepC hb h.lt h.c0, keepC hb h.lt h.c1, keepF hb h.lt h.f1⟩
theorem Rt.set {w : World} {p k : Nat} {s : ByteArray} (h : Rt w p s k) (j : Nat) : Rt (w.setCell ⟨p, 1, none⟩ (.int .i64 (j : Int))) p s j :=
  ⟨by simpa using h.lt, (World.cell?_setCell_other _ _ _ _ (by intro e; cases e)).trans h.c0, World.cell?_setCell_same _ _ _ h.c1, (World.frozen?_setCell _ _ _ _).trans h.f1⟩

theorem ixb (x : Nat) (hx : x < 256) : Lib.indexByte (⟨#[32, 10]⟩ : ByteArray).data.toList ((x : Int).toNat.toUInt8) = if x = 32 then 0 else if x = 10 then 1 else -1 := by
  have : ∀ x : Fin 256, Lib.indexByte (⟨#[32, 10]⟩ : ByteArray).data.toList (((x : Nat) : Int).toNat.toUInt8) = if (x : Nat) = 32 then 0 else if (x : Nat) = 10 then 1 else -1 := by decide +kernel
  exact this ⟨x, hx⟩
end Go.Proofs.YtaohahahhjkcdaeGreatDoor.J

/- What the program's skipBlanks, stands, sees, takes come to. -/
namespace Go.Proofs.YtaohahahhjkcdaeGreatDoor.J
open Go.RowKit
set_option linter.unusedVariables false
set_option linter.unusedSimpArgs false

theorem skip_any (p k : Nat) (s : ByteArray) (w : World) (hR : Rt w p s k) (hk : k ≤ s.size) (hs : s.size ≤ 140737488355328) :
    Calls Tryz.prog 39 #[.pointer (some ⟨p, 0, none⟩)] w fun e w' => e = .returned (.tuple #[]) ∧ Rt w' p s (M.skp s k) ∧ TK w p w' := by
  go_enter Tryz.func39, Tryz.ntmps39
  go_wp2_with fail
  go_loopw [24] (fun _ wr => ∃ j : Nat, j ≤ s.size ∧ Rt wr p s j ∧ TK w p wr ∧ Hid (M.skp s k = M.skp s j)) (fun _ wr => s.size - (intOf (cv wr p 1)).toNat)
  case atStart => exact ⟨k, hk, hR, TK.refl _ _, rfl⟩
  case round =>
    obtain ⟨j, hj, hRr, hTK, hE⟩ := hrel
    have c0 := hRr.c0
    have c1 := hRr.c1
    have f1 := hRr.f1
    have lt := hRr.lt
    have hm : (intOf (cv wr p 1)).toNat = j := by rw [cv_is c1]; simp [intOf]
    have HR : Hid (Rt wr p s j) := hRr
    have HT : Hid (TK w p wr) := hTK
    clear hRr hTK
    by_cases hlt : j < s.size
    · have hlt' : (j : Int) < s.size := by omega
      have hby := M.by_is s j hlt
      have hxl := M.by_lt s j
      have hix := ixb (M.by s j) hxl
      have HB : Hid (M.bl s j = (decide (M.by s j = 32) || decide (M.by s j = 10))) := by show M.bl s j = _; unfold M.bl; rw [decide_eq_true hlt]; simp
      generalize M.by s j = X at *
      have HI : ∀ W, Calls Tryz.prog 53 #[.string ⟨#[32, 10]⟩, .int .u8 (X : Int)] W fun e w' => e = .returned (.int .i64 (if X = 32 then 0 else if X = 10 then 1 else -1)) ∧ w' = W := fun W => by
        rw [← hix]; exact Tryz.strings_IndexByte _ _ W
      have w3 : IntKind.i64.wrap ((j : Int) + 1) = (j : Int) + 1 := wid (by omega) (by omega)
      by_cases hb : X = 32 ∨ X = 10
      · have hbl : M.bl s j = true := by rw [HB.out]; rcases hb with h | h <;> simp [h]
        have HS : Hid (M.skp s k = M.skp s (j + 1)) := by show _ = _; rw [hE.out, M.skp_on hbl]
        obtain ⟨V, hV, hV0⟩ : ∃ V : Int, (if X = 32 then (0 : Int) else if X = 10 then 1 else -1) = V ∧ 0 ≤ V := by
          rcases hb with h | h
          · exact ⟨0, by rw [if_pos h], by omega⟩
          · exact ⟨1, by rw [if_neg (by omega), if_pos h], by omega⟩
        rw [hV] at HI
        clear hV hb HB hbl hE hix
        go_wp2_with fail
        go_quiet (first | (go_at_call 53; exact (HI _).mono fun _ _ ⟨he, hm⟩ => ⟨he, _, hm⟩))
        go_wp2_with fail
        go_roundw
        case rel =>
          have bd : Below wr.heap.size wr (wr.drewN nq) := ⟨rfl, rfl, rfl, Nat.le_refl _, fun _ _ => rfl⟩
          have hj1 : ((j + 1 : Nat) : Int) = (j : Int) + 1 := by omega
          refine ⟨j + 1, by omega, ?_, (HT.out.trans (TK.below bd lt)).trans (TK.set _ _ _), HS⟩
          rw [← hj1]
          exact (HR.out.step bd).set (j + 1)
        case measure =>
          rw [hm, cv_is (World.cell?_setCell_same _ _ _ (show (wr.drewN nq).cell? ⟨p, 1, none⟩ = some (.int .i64 (j : Int)) from c1))]
          simp [intOf]; omega
      · have hbl : M.bl s j = false := by rw [HB.out]; simp; omega
        have HS : Hid (M.skp s k = j) := by show _ = _; rw [hE.out, M.skp_off hbl]
        rw [if_neg (by omega), if_neg (by omega)] at HI
        clear hb HB hbl hE hix
        go_wp2_with fail
        go_quiet (first | (go_at_call 53; exact (HI _).mono fun _ _ ⟨he, hm⟩ => ⟨he, _, hm⟩))
        go_wp2_with fail
        go_end0
        exact ⟨rfl, by rw [HS.out]; exact HR.out.step ⟨rfl, rfl, rfl, Nat.le_refl _, fun _ _ => rfl⟩, HT.out.trans (TK.below ⟨rfl, rfl, rfl, Nat.le_refl _, fun _ _ => rfl⟩ lt)⟩
    · obtain rfl : j = s.size := by omega
      have hbl : M.bl s s.size = false := by unfold M.bl; rw [decide_eq_false (by omega)]; rfl
      have HS : Hid (M.skp s k = s.size) := by show _ = _; rw [hE.out, M.skp_off hbl]
      have hlt' : ¬ (s.size : Int) < s.size := by omega
      clear hE hbl
      go_wp2_with fail
      go_quiet (fail)
      go_wp2_with fail
      go_end0
      exact ⟨rfl, by rw [HS.out]; exact HR.out.step ⟨rfl, rfl, rfl, Nat.le_refl _, fun _ _ => rfl⟩, HT.out.trans (TK.below ⟨rfl, rfl, rfl, Nat.le_refl _, fun _ _ => rfl⟩ lt)⟩

/-- This sign is right here. -/
def M.st (s : ByteArray) (k : Nat) (c : Nat) : Bool := decide (k < s.size) && decide (M.by s k = c)
theorem stands_any (p k : Nat) (s : ByteArray) (c : Nat) (w : World) (hR : Rt w p s k) (hk : k ≤ s.size) (hs : s.size ≤ 140737488355328) :
    Calls Tryz.prog 56 #[.pointer (some ⟨p, 0, none⟩), .int .u8 (c : Int)] w fun e w' => e = .returned (.bool (M.st s k c)) ∧ Rt w' p s k ∧ TK w p w' := by
  have c0 := hR.c0
  have c1 := hR.c1
  have lt := hR.lt
  have HR : Hid (Rt w p s k) := hR
  clear hR
  by_cases hlt : k < s.size
  · have hlt' : (k : Int) < s.size := by omega
    have hby := M.by_is s k hlt
    have hxl := M.by_lt s k
    have HB : Hid (M.st s k c = decide (M.by s k = c)) := by show M.st s k c = _; unfold M.st; rw [decide_eq_true hlt]; simp
    generalize M.by s k = X at *
    by_cases hb : X = c
    · have hV : M.st s k c = true := by rw [HB.out]; simp [hb]
      rw [hV]
      subst hb
      clear HB hV
      go_enter Tryz.func56, Tryz.ntmps56
      go_wp2_with fail
      go_quiet (fail)
      go_wp2_with fail
      go_ret
      exact ⟨rfl, HR.out.step ⟨rfl, rfl, rfl, Nat.le_refl _, fun _ _ => rfl⟩, TK.below ⟨rfl, rfl, rfl, Nat.le_refl _, fun _ _ => rfl⟩ lt⟩
    · have hV : M.st s k c = false := by rw [HB.out]; simp [hb]
      rw [hV]
      have hb' : ((X : Int) == (c : Int)) = false := by simp; omega
      clear HB hV hb
      go_enter Tryz.func56, Tryz.ntmps56
      go_wp2_with fail
      go_quiet (fail)
      go_wp2_with fail
      go_ret
      exact ⟨rfl, HR.out.step ⟨rfl, rfl, rfl, Nat.le_refl _, fun _ _ => rfl⟩, TK.below ⟨rfl, rfl, rfl, Nat.le_refl _, fun _ _ => rfl⟩ lt⟩
  · have hV : M.st s k c = false := by unfold M.st; rw [decide_eq_false hlt]; rfl
    rw [hV]
    have hlt' : ¬ (k : Int) < s.size := by omega
    clear hV
    go_enter Tryz.func56, Tryz.ntmps56
    go_wp2_with fail
    go_quiet (fail)
    go_wp2_with fail
    go_ret
    exact ⟨rfl, HR.out.step ⟨rfl, rfl, rfl, Nat.le_refl _, fun _ _ => rfl⟩, TK.below ⟨rfl, rfl, rfl, Nat.le_refl _, fun _ _ => rfl⟩ lt⟩
theorem sees_any (p k : Nat) (s : ByteArray) (c : Nat) (w : World) (hR : Rt w p s k) (hk : k ≤ s.size) (hs : s.size ≤ 140737488355328) :
    Calls Tryz.prog 43 #[.pointer (some ⟨p, 0, none⟩), .int .u8 (c : Int)] w fun e w' => e = .returned (.bool (M.st s (M.skp s k) c)) ∧ Rt w' p s (M.skp s k) ∧ TK w p w' := by
  have HK := skip_any p k s w hR hk hs
  have HS := fun W h => stands_any p (M.skp s k) s c W h (M.skp_le hk).2 hs
  generalize M.skp s k = j at *
  generalize M.st s j c = V at *
  go_enter Tryz.func43, Tryz.ntmps43
  go_wp2_with fail
  refine HK.mono ?_
  rintro e w1 ⟨rfl, h1, t1⟩
  go_wp2_with fail
  refine (HS _ h1).mono ?_
  rintro e w2 ⟨rfl, h2, t2⟩
  go_wp2_with fail
  go_ret
  exact ⟨rfl, h2, t1.trans t2⟩
theorem takes_any (p k : Nat) (s : ByteArray) (c : Nat) (w : World) (hR : Rt w p s k) (hk : k ≤ s.size) (hs : s.size ≤ 140737488355328) :
    Calls Tryz.prog 72 #[.pointer (some ⟨p, 0, none⟩), .int .u8 (c : Int)] w fun e w' => e = .returned (.bool (M.st s (M.skp s k) c)) ∧ Rt w' p s (if M.st s (M.skp s k) c = true then M.skp s k + 1 else M.skp s k) ∧ TK w p w' := by
  have HS := sees_any p k s c w hR hk hs
  have hle := (M.skp_le hk).2
  generalize M.skp s k = j at *
  cases hV : M.st s j c
  · rw [hV] at HS
    rw [if_neg (by decide)]
    go_enter Tryz.func72, Tryz.ntmps72
    go_wp2_with fail
    refine HS.mono ?_
    rintro e w1 ⟨rfl, h1, t1⟩
    go_wp2_with fail
    go_ret
    exact ⟨rfl, h1, t1⟩
  · rw [hV] at HS
    rw [if_pos rfl]
    have w3 : IntKind.i64.wrap ((j : Int) + 1) = (j : Int) + 1 := wid (by omega) (by omega)
    go_enter Tryz.func72, Tryz.ntmps72
    go_wp2_with fail
    refine HS.mono ?_
    rintro e w1 ⟨rfl, h1, t1⟩
    have c1 := h1.c1
    have f1 := h1.f1
    have lt := h1.lt
    have HR : Hid (Rt w1 p s j) := h1
    have HT : Hid (TK w p w1) := t1
    clear h1 t1
    go_wp2_with fail
    go_ret
    have hj1 : ((j + 1 : Nat) : Int) = (j : Int) + 1 := by omega
    refine ⟨rfl, ?_, HT.out.trans (TK.set _ _ _)⟩
    rw [← hj1]
    exact HR.out.set (j + 1)
theorem ends_any (p k : Nat) (s : ByteArray) (w : World) (hR : Rt w p s k) (hk : k ≤ s.size) (hs : s.size ≤ 140737488355328) :
    Calls Tryz.prog 25 #[.pointer (some ⟨p, 0, none⟩)] w fun e w' => e = .returned (.bool (decide (M.skp s k = s.size))) ∧ Rt w' p s (M.skp s k) ∧ TK w p w' := by
  have HK := skip_any p k s w hR hk hs
  generalize M.skp s k = j at *
  have hd : decide (j = s.size) = ((j : Int) == (s.size : Int)) := by by_cases h : j = s.size <;> simp [h]; omega
  rw [hd]
  go_enter Tryz.func25, Tryz.ntmps25
  go_wp2_with fail
  refine HK.mono ?_
  rintro e w1 ⟨rfl, h1, t1⟩
  have c0 := h1.c0
  have c1 := h1.c1
  have lt := h1.lt
  have HR : Hid (Rt w1 p s j) := h1
  have HT : Hid (TK w p w1) := t1
  clear h1 t1
  go_wp2_with fail
  go_quiet (fail)
  go_wp2_with fail
  go_ret
  exact ⟨rfl, HR.out.step ⟨rfl, rfl, rfl, Nat.le_refl _, fun _ _ => rfl⟩, HT.out.trans (TK.below ⟨rfl, rfl, rfl, Nat.le_refl _, fun _ _ => rfl⟩ lt)⟩
end Go.Proofs.YtaohahahhjkcdaeGreatDoor.J

/- What the program's failAt, fail and mustTake come to: a fault that is thrown. -/
namespace Go.Proofs.YtaohahahhjkcdaeGreatDoor.J
open Go.RowKit
set_option linter.unusedVariables false
set_option linter.unusedSimpArgs false

/-- A fault that is thrown: what is wrong, and where. -/
def thr (e a : Int) : Ending := .panicked [{ v := .iface 47 (.agg #[.int .i64 e, .int .i64 a]), recovered := false }]
theorem failAt_any (p : Nat) (a e : Int) (w : World) :
    Calls Tryz.prog 40 #[.pointer (some ⟨p, 0, none⟩), .int .i64 a, .int .i64 e] w fun x w' => x = thr e a ∧ w' = w := by
  go_enter Tryz.func40, Tryz.ntmps40
  go_wp2_with fail
  exact ⟨rfl, rfl, rfl⟩
theorem fail_any (p k : Nat) (s : ByteArray) (e : Int) (w : World) (hR : Rt w p s k) :
    Calls Tryz.prog 26 #[.pointer (some ⟨p, 0, none⟩), .int .i64 e] w fun x w' => x = thr e (k : Int) ∧ w' = w := by
  have c1 := hR.c1
  have lt := hR.lt
  clear hR
  go_enter Tryz.func26, Tryz.ntmps26
  go_wp2_with fail
  refine (failAt_any p (k : Int) e w).mono ?_
  rintro x w' ⟨rfl, rfl⟩
  exact ⟨rfl, rfl, rfl⟩
theorem mustTake_any (p k : Nat) (s : ByteArray) (c : Nat) (w : World) (hR : Rt w p s k) (hk : k ≤ s.size) (hs : s.size ≤ 140737488355328) :
    Calls Tryz.prog 57 #[.pointer (some ⟨p, 0, none⟩), .int .u8 (c : Int)] w fun x w' => (M.st s (M.skp s k) c = true → x = .returned (.tuple #[]) ∧ Rt w' p s (M.skp s k + 1) ∧ TK w p w') ∧ (M.st s (M.skp s k) c = false → x = thr 2 (M.skp s k : Nat) ∧ TK w p w') := by
  have HS := takes_any p k s c w hR hk hs
  generalize M.skp s k = j at *
  cases hV : M.st s j c
  · rw [hV, if_neg (by decide)] at HS
    go_enter Tryz.func57, Tryz.ntmps57
    go_wp2_with fail
    refine HS.mono ?_
    rintro e w1 ⟨rfl, h1, t1⟩
    have HT : Hid (TK w p w1) := t1
    have HF := fail_any p j s 2 w1 h1
    clear t1 h1
    go_wp2_with fail
    refine HF.mono ?_
    rintro x w' ⟨rfl, rfl⟩
    exact ⟨rfl, fun h => absurd h (by decide), fun _ => ⟨rfl, HT.out⟩⟩
  · rw [hV, if_pos rfl] at HS
    go_enter Tryz.func57, Tryz.ntmps57
    go_wp2_with fail
    refine HS.mono ?_
    rintro e w1 ⟨rfl, h1, t1⟩
    have HT : Hid (TK w p w1) := t1
    have HR : Hid (Rt w1 p s (j + 1)) := h1
    clear t1 h1
    go_wp2_with fail
    go_end0
    exact ⟨fun _ => ⟨rfl, HR.out, HT.out⟩, fun h => absurd h (by decide)⟩
end Go.Proofs.YtaohahahhjkcdaeGreatDoor.J
