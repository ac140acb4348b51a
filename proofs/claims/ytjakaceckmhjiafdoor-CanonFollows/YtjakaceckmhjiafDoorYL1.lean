/- The walk of CanonGroup. -/
import Derived.Test.YtjakaceckmhjiafDoorY11
import Derived.Deep.DeepCutAuto
namespace Go.Proofs.YtjakaceckmhjiafDoor.Y
open Go.RowKit Go.Sort
set_option linter.unusedVariables false
set_option linter.unusedSimpArgs false

/-- An interval, a pitch in a block. -/
structure B2 (w : World) (b : Nat) (s h : Int) : Prop where
  lt : b < w.heap.size
  c0 : w.cell? ⟨b, 0, none⟩ = some (.int .i64 s)
  c1 : w.cell? ⟨b, 1, none⟩ = some (.int .i64 h)
theorem B2.keep {w w' : World} {b : Nat} {s h : Int} (x : B2 w b s h) (hb : Go.RowKit.Below w.heap.size w w') : B2 w' b s h :=
  ⟨by have := hb.size; have := x.lt; omega, keepC hb x.lt x.c0, keepC hb x.lt x.c1⟩
structure B3 (w : World) (b : Nat) (l a o : Int) : Prop where
  lt : b < w.heap.size
  c0 : w.cell? ⟨b, 0, none⟩ = some (.int .i64 l)
  c1 : w.cell? ⟨b, 1, none⟩ = some (.int .i64 a)
  c2 : w.cell? ⟨b, 2, none⟩ = some (.int .i64 o)
theorem B3.keep {w w' : World} {b : Nat} {l a o : Int} (x : B3 w b l a o) (hb : Go.RowKit.Below w.heap.size w w') : B3 w' b l a o :=
  ⟨by have := hb.size; have := x.lt; omega, keepC hb x.lt x.c0, keepC hb x.lt x.c1, keepC hb x.lt x.c2⟩

set_option maxRecDepth 20000 in
set_option maxHeartbeats 8000000 in
theorem group_walk (ao : Option Addr) (n cap : Nat) (T : Nat → Tn) (a b s h s' h' xl xa xo : Int) (w : World) (ht : Tab w) (hp : TL w ao n T) (hc : n ≤ cap) (hcm : cap ≤ 9223372036854775807) :
    Calls Tryd.prog 4 #[.slice ao n cap, .int .i64 a, .int .i64 b, .agg #[.int .i64 s, .int .i64 h], .agg #[.int .i64 s', .int .i64 h'], .agg #[.int .i64 xl, .int .i64 xa, .int .i64 xo]] w fun e w' => e = .returned (.bool true) ∧ Go.RowKit.Below w.heap.size w w' := by
  have hTw := fun (c d b : Ch) (H : ∀ U V Z, App c T n U → App d U n V → App b T n Z → tab V n = tab Z n) (W : World) (hg : Go.RowKit.Below w.heap.size w W) => twice_any c d b ao n cap T W (ht.step hg) (hp.keep hg) hc hcm H
  have L1 := hTw (later a) (later b) (later (sm a b)) (fun U V Z h1 h2 h3 => later_two h1 h2 h3)
  have L2 := hTw (slower a) (slower b) (slower (a * b)) (fun U V Z h1 h2 h3 => slower_two h1 h2 h3)
  have L3 : M.se s h s' h' = 0 → _ := fun he => hTw (moved s h) (moved s' h') (moved (M.ss s h s' h') (M.sh s h s' h')) (fun U V Z h1 h2 h3 => moved_two he h1 h2 h3)
  have L4 := hTw (mirrored xl xa xo) (mirrored xl xa xo) (later 0) (fun U V Z h1 h2 h3 => mirrored_two h1 h2 h3)
  have L5 : 0 < n → (T 0).t ≤ 0 → _ := fun h0 h1 => hTw backed backed (later 0) (fun U V Z h2 h3 h4 => backed_two h0 h1 h2 h3 h4)
  simp only [later, slower, moved, mirrored, backed] at L1 L2 L3 L4 L5
  have hWr := fun (W : World) (hg : Go.RowKit.Below w.heap.size w W) => Wrong_any ao n cap T W (hp.keep hg) hc
  have hSu := Sum_any s h s' h'
  have hsm := sum_any a b
  have HOk : Hid (wr T n = 0 → OkL T n) := wr_zero
  generalize wr T n = WR at *
  generalize sm a b = SM at *
  generalize M.ss s h s' h' = S2 at *
  generalize M.sh s h s' h' = H2 at *
  generalize M.se s h s' h' = E2 at *
  clear hTw
  go_enter Tryd.func4, Tryd.ntmps4
  go_wp2_with fail
  refine (alive_any _ (ht.step (by go_grown))).mono ?_
  rintro e w1 ⟨rfl, hb1⟩
  have z1 := hb1.size
  simp at z1
  have h01 : Go.RowKit.Below w.heap.size w w1 := Below.trans (by go_grown) (hb1.mono (by simp; omega))
  have k1 : B2 w1 w.heap.size s h := ⟨by omega, keepC hb1 (by simp; omega) (by simp [go_sem]), keepC hb1 (by simp; omega) (by simp [go_sem])⟩
  have k2 : B2 w1 (w.heap.size + 1) s' h' := ⟨by omega, keepC hb1 (by simp) (by simp [go_sem]), keepC hb1 (by simp) (by simp [go_sem])⟩
  have k3 : B3 w1 (w.heap.size + 1 + 1) xl xa xo := ⟨by omega, keepC hb1 (by simp) (by simp [go_sem]), keepC hb1 (by simp) (by simp [go_sem]), keepC hb1 (by simp) (by simp [go_sem])⟩
  clear hb1 z1
  go_wp2_with fail
  refine (hWr _ h01).mono ?_
  rintro e w2 ⟨rfl, hb2⟩
  have h02 : Go.RowKit.Below w.heap.size w w2 := h01.trans (hb2.mono h01.size)
  by_cases hw : WR = 0
  · have hwb : (WR != 0) = false := by simp [hw]
    have hok := HOk.out hw
    replace k1 := k1.keep hb2
    replace k2 := k2.keep hb2
    replace k3 := k3.keep hb2
    clear hb2 h01
    go_wp2_with (go_at_call 18; refine (hsm _).mono ?_; rintro e w3 ⟨rfl, hw3⟩; rw [hw3])
    refine (L1 _ h02).mono ?_
    rintro e w3 ⟨rfl, hb3⟩
    have h03 : Go.RowKit.Below w.heap.size w w3 := h02.trans (hb3.mono h02.size)
    replace k1 := k1.keep hb3
    replace k2 := k2.keep hb3
    replace k3 := k3.keep hb3
    clear hb3 h02 L1 hsm
    go_upto_region 7 with fail
    go_cut [57] (fun v wx => v = .bool false ∧ Go.RowKit.Below w3.heap.size w3 wx)
    case first =>
      clear L3 L4 L5
      have fin : ∀ v : Value, v = .bool false → v = Value.bool false ∧ Go.RowKit.Below w3.heap.size w3 w3 := fun v hv => ⟨hv, Below.refl _ _⟩
      by_cases g1 : 0 < a
      · by_cases g2 : 0 < b
        · by_cases g3 : a < 100
          · by_cases g4 : b < 100
            · have m1 : 0 ≤ a * b := Int.mul_nonneg (by omega) (by omega)
              have m2 : a * b ≤ 100 * 100 := Int.mul_le_mul (by omega) (by omega) (by omega) (by omega)
              go_wp2_with fail
              refine (L2 _ h03).mono ?_
              rintro e w4 ⟨rfl, hb4⟩
              go_wp2_with fail
              go_meet
              case rel => exact ⟨rfl, hb4⟩
            · go_wp2_with fail
              go_meet
              case rel => exact ⟨rfl, Below.refl _ _⟩
          · go_wp2_with fail
            go_meet
            case rel => exact ⟨rfl, Below.refl _ _⟩
        · go_wp2_with fail
          go_meet
          case rel => exact ⟨rfl, Below.refl _ _⟩
      · go_wp2_with fail
        go_meet
        case rel => exact ⟨rfl, Below.refl _ _⟩
    case rest =>
      obtain ⟨rfl, hb4⟩ := hcut
      rename World => w4
      have h04 : Go.RowKit.Below w.heap.size w w4 := h03.trans (hb4.mono h03.size)
      replace k1 := k1.keep hb4
      replace k2 := k2.keep hb4
      replace k3 := k3.keep hb4
      clear hb4 h03 L2
      obtain ⟨i0, i1, i2⟩ := k1
      obtain ⟨j0, j1, j2⟩ := k2
      go_wp2_with fail
      refine (hSu _).mono ?_
      rintro e w5 ⟨rfl, hb5⟩
      have h05 : Go.RowKit.Below w.heap.size w w5 := h04.trans (hb5.mono h04.size)
      have hb6 : Go.RowKit.Below w4.heap.size w4 (w5.alloc (Obj.cells #[.int .i64 S2, .int .i64 H2] 26)) := hb5.alloc hb5.size _
      have h06 : Go.RowKit.Below w.heap.size w (w5.alloc (Obj.cells #[.int .i64 S2, .int .i64 H2] 26)) := h04.trans (hb6.mono h04.size)
      have e1 := keepC hb5 i0 i1
      have e2 := keepC hb5 i0 i2
      have f1 := keepC hb5 j0 j1
      have f2 := keepC hb5 j0 j2
      have z5 := hb5.size
      have l1 : w.heap.size < w5.heap.size := by omega
      have l2 : w.heap.size + 1 < w5.heap.size := by omega
      replace k3 := k3.keep hb6
      clear i0 i1 i2 j0 j1 j2 hb5 h05 h04
      go_upto_region 10 with fail
      go_cut [76] (fun v wx => v = .bool false ∧ Go.RowKit.Below (w5.heap.size + 1) (w5.alloc (Obj.cells #[.int .i64 S2, .int .i64 H2] 26)) wx)
      case first =>
        clear L4 L5
        by_cases hE : E2 = 0
        · have hEb : (E2 == 0) = true := by simp [hE]
          have L3' := L3 hE
          clear L3 hE
          go_wp2_with fail
          refine (L3' _ h06).mono ?_
          rintro e w7 ⟨rfl, hb7⟩
          go_wp2_with fail
          go_meet
          case rel => exact ⟨rfl, hb7.mono (by simp)⟩
        · have hEb : (E2 == 0) = false := by simp [hE]
          clear L3 hE
          go_wp2_with fail
          go_meet
          case rel => exact ⟨rfl, Below.refl _ _⟩
      case rest =>
        obtain ⟨rfl, hb8⟩ := hcut
        rename World => w8
        have h08 : Go.RowKit.Below w.heap.size w w8 := h06.trans (hb8.mono (by omega))
        replace k3 := k3.keep (hb8.mono (by simp))
        clear hb8 h06 hb6 L3 e1 e2 f1 f2
        obtain ⟨i0, i1, i2, i3⟩ := k3
        go_wp2_with fail
        refine (L4 _ h08).mono ?_
        rintro e w9 ⟨rfl, hb9⟩
        have h09 : Go.RowKit.Below w.heap.size w w9 := h08.trans (hb9.mono h08.size)
        clear L4 i0 i1 i2 i3
        by_cases hn0 : n = 0
        · have hz : ((n : Int) == 0) = true := by simp [hn0]
          clear L5 hok
          go_wp2_with fail
          go_ret
          exact ⟨rfl, h09⟩
        · have hz : ((n : Int) == 0) = false := by simp [hn0]
          obtain ⟨bb, off, rfl, hbl, q0, _⟩ := (hp.keep h09).at' (by omega)
          have c0 := q0 0 (by omega)
          rw [Nat.zero_mul, Nat.add_zero] at c0
          have hnp : 0 < n := by omega
          clear q0
          by_cases ht0 : 0 < (T 0).t
          · clear L5 hok
            generalize (T 0).t = T0 at *
            go_wp2_with fail
            go_ret
            exact ⟨rfl, h09⟩
          · have L5' := L5 hnp (by omega)
            clear L5 hok
            generalize (T 0).t = T0 at *
            go_wp2_with fail
            refine (L5' _ h09).mono ?_
            rintro e w10 ⟨rfl, hb10⟩
            go_wp2_with fail
            go_ret
            exact ⟨rfl, h09.trans (hb10.mono h09.size)⟩
  · have hwb : (WR != 0) = true := by simp [hw]
    clear L1 L2 L3 L4 L5 HOk
    go_wp2_with fail
    go_ret
    exact ⟨rfl, h02⟩
end Go.Proofs.YtjakaceckmhjiafDoor.Y
