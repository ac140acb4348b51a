/- What the program's swings, moved and Hertz come to. -/
import Derived.Test.YtdjdnjaijpafgacDoorQW1
import Derived.Test.YtdjdnjaijpafgacDoorFl2
import Derived.LoopTactic
import Derived.WalkLawsBesides
namespace Go.Proofs.YtdjdnjaijpafgacDoor
open Go.RowKit
set_option linter.unusedSimpArgs false
set_option linter.unusedVariables false

theorem fmul {x y r : Nat} (h : Ieee.double.mul x y = some r) (t : TypeId) (w : World) : (binOp .mul t (.float .f64 x) (.float .f64 y)).run Tryd.prog w = .ok (.float .f64 r) w := run_float_arith w .mul t .f64 x y r h
theorem fquo {x y r : Nat} (h : Ieee.double.div x y = some r) (t : TypeId) (w : World) : (binOp .quo t (.float .f64 x) (.float .f64 y)).run Tryd.prog w = .ok (.float .f64 r) w := run_float_arith w .quo t .f64 x y r h

theorem ret_float {k : FloatKind} {a b : Nat} (h : a = b) : Ending.returned (.float k a) = .returned (.float k b) := by rw [h]
/-- From LeastHertz to MostHertz. -/
def M.fair (a : Nat) : Bool := Fl.btw 4607182418800017408 4681608360884174848 a
theorem M.fair_yes {a : Nat} (h : M.fair a = true) : 4607182418800017408 ≤ a ∧ a ≤ 4681608360884174848 := of_decide_eq_true h

theorem swings_any (a : Nat) (w : World) (ha : a < 18446744073709551616) :
    Calls Tryd.prog 39 #[.float .f64 a] w fun e w' => e = .returned (.bool (M.fair a)) ∧ w' = w := by
  have hb := Fl.both a 4607182418800017408 4681608360884174848 ha (by decide) (by decide) (by decide)
  rw [show M.fair a = Fl.btw 4607182418800017408 4681608360884174848 a from rfl, ← hb]
  cases hg : (Ieee.double.order a 4607182418800017408 == some .gt || Ieee.double.order a 4607182418800017408 == some .eq)
  all_goals cases hl : (Ieee.double.order a 4681608360884174848 == some .lt || Ieee.double.order a 4681608360884174848 == some .eq)
  all_goals
    replace hg : (FloatKind.f64.format.order a 4607182418800017408 == some .gt || FloatKind.f64.format.order a 4607182418800017408 == some .eq) = _ := hg
    replace hl : (FloatKind.f64.format.order a 4681608360884174848 == some .lt || FloatKind.f64.format.order a 4681608360884174848 == some .eq) = _ := hl
    go_enter Tryd.func39, Tryd.ntmps39
    go_wp2
    go_ret
    exact ⟨rfl, rfl⟩

set_option maxHeartbeats 1000000 in
theorem moved_any (x : Nat) (o : Int) (w : World) (h1 : 4377498837804122112 ≤ x) (h2 : x ≤ 4913427193461211136) (h3 : -60 ≤ o) (h4 : o ≤ 60) :
    Calls Tryd.prog 40 #[.float .f64 x, .int .i64 o] w fun e w' => e = .returned (.float .f64 ((x : Int) + o * 4503599627370496).toNat) ∧ w' = w := by
  have hmul := fun (y : Nat) (h : 4503599627370496 ≤ y ∧ y < 9007199254740992000) => fmul (Fl.twice y h.1 h.2)
  have hquo := fun (y : Nat) (h : 9007199254740992 ≤ y ∧ y < 9218868437227405312) => fquo (Fl.halve y h.1 h.2)
  go_enter Tryd.func40, Tryd.ntmps40
  go_wp2
  go_loop [0, 6] (fun s i => ∃ k X : Nat, k ≤ o.toNat ∧ i = .int .i64 k ∧ s = .float .f64 X ∧ X = x + k * 4503599627370496) (fun _ i => o.toNat - (intOf i).toNat)
  case atStart => exact ⟨0, x, Nat.zero_le _, rfl, rfl, by omega⟩
  case round =>
    obtain ⟨k, X, hk, rfl, rfl, hX⟩ := hrel
    by_cases hlt : (k : Int) < o
    · have hm := hmul X (by omega)
      have HX : Hid (X = x + k * 4503599627370496) := hX
      clear hX hmul hquo
      go_wp2_with (simp only [hm])
      go_round
      case rel => exact ⟨k + 1, X + 4503599627370496, by omega, by go_num, rfl, by have := HX.out; omega⟩
      case measure => simp [intOf]; omega
    · have ek : k = o.toNat := by omega
      have HX : Hid (X = x + o.toNat * 4503599627370496) := by rw [← ek]; exact hX
      clear hX ek hmul
      go_wp2
      go_loop [0, 13] (fun s i => ∃ j Y : Nat, j ≤ (-o).toNat ∧ i = .int .i64 j ∧ s = .float .f64 Y ∧ Y + j * 4503599627370496 = X) (fun _ i => (-o).toNat - (intOf i).toNat)
      case atStart => exact ⟨0, X, Nat.zero_le _, rfl, rfl, by omega⟩
      case round =>
        obtain ⟨j, Y, hj, rfl, rfl, hY⟩ := hrel
        by_cases hlt2 : (j : Int) < -o
        · have hm := hquo Y (by have := HX.out; omega)
          have HY : Hid (Y + j * 4503599627370496 = X ∧ 9007199254740992 ≤ Y) := ⟨hY, by have := HX.out; omega⟩
          clear hY hquo
          go_wp2_with (simp only [hm])
          go_round
          case rel => exact ⟨j + 1, Y - 4503599627370496, by omega, by go_num, rfl, by have := HY.out; omega⟩
          case measure => simp [intOf]; omega
        · have HY : Hid (Y + j * 4503599627370496 = X ∧ j = (-o).toNat) := ⟨hY, by omega⟩
          clear hY hquo
          go_wp2
          go_ret
          refine ⟨?_, rfl⟩
          have h1 := HX.out
          have h2 := HY.out
          exact ret_float (by omega)

/-- The twelve numbers lie where the program lays them. -/
structure Twl (w : World) : Prop where
  sz : 1 < w.heap.size
  cs : ∀ i, i < 12 → w.cell? ⟨1, i, none⟩ = some (.float .f64 (Fl.tb i))
theorem Twl.step {w w' : World} (h : Twl w) (hb : Below w.heap.size w w') : Twl w' :=
  ⟨by have := hb.size; have := h.sz; omega, fun i hi => keepC hb h.sz (h.cs i hi)⟩
/-- Hertz: the number, and what is wrong. -/
def M.hn (l a o : Int) (x : Nat) : Nat := if M.rt l a o = true ∧ M.fair x = true then Fl.hz x (M.hv l a o - 57) else 0
def M.he (l a o : Int) (x : Nat) : Int := if M.rt l a o = true then if M.fair x = true then 0 else 3 else 2
theorem M.tmod12 (k : Int) : (k.tmod 12 + 12) % 12 = k % 12 := by
  have h := Int.tmod_add_mul_tdiv k 12
  omega
theorem M.tmod12_bd (s : Int) : -12 < s.tmod 12 ∧ s.tmod 12 < 12 := by
  have h1 := Int.lt_tmod_of_pos s (b := 12) (by omega)
  have h2 := Int.tmod_lt_of_pos s (b := 12) (by omega)
  omega
theorem M.tdiv12 (s : Int) : (s - s % 12).tdiv 12 = s / 12 := by
  have h : s - s % 12 = s / 12 * 12 := by omega
  rw [h, Int.mul_tdiv_cancel _ (by omega)]

set_option maxHeartbeats 1000000 in
theorem Hertz_in (l a o : Int) (x : Nat) (w : World) (ht : Tab w) (hT : Twl w) (hx : x < 18446744073709551616) (hr : M.rt l a o = true) (hf : M.fair x = true) :
    Calls Tryd.prog 15 #[.agg #[.int .i64 l, .int .i64 a, .int .i64 o], .float .f64 x] w fun e w' => e = .returned (.tuple #[.float .f64 (Fl.hz x (M.hv l a o - 57)), .int .i64 0]) ∧ Below w.heap.size w w' := by
  have hfb := M.fair_yes hf
  have hvb := M.hv_bd hr
  have e1 := M.kn_yes hr
  have e2 := M.ke_yes hr
  go_enter Tryd.func15, Tryd.ntmps15
  go_wp2_with fail
  refine (Key_any l a o _ (ht.step (by go_grown))).mono ?_
  rintro e w1 ⟨rfl, hb1⟩
  rw [e1, e2]
  have hb01 : Below w.heap.size w w1 := Below.trans (by go_grown) (hb1.mono (by simp))
  go_wp2_with fail
  refine (swings_any x _ hx).mono ?_
  rintro e w2 ⟨rfl, hw2⟩
  rw [hw2, hf]
  have t1 := M.tmod12_bd (M.hv l a o + 12 - 69)
  have t2 := M.tmod12 (M.hv l a o + 12 - 69)
  have t3 := M.tdiv12 (M.hv l a o + 12 - 69)
  obtain ⟨r, hr1, hr2⟩ : ∃ r : Nat, r < 12 ∧ (M.hv l a o + 12 - 69) % 12 = r := ⟨((M.hv l a o + 12 - 69) % 12).toNat, by omega, by omega⟩
  rw [hr2] at t2 t3
  have hT2 : Twl w1 := hT.step hb01
  have htb := hT2.cs r hr1
  have hts := hT2.sz
  have hm := fmul (Fl.mul_tb x r hr1 hfb.1 hfb.2)
  have hpb := Fl.pr_bd x r hr1 hfb.1
  have hE : Hid (Fl.hz x (M.hv l a o - 57) = (((Fl.pr x (Fl.tb r) : Nat) : Int) + (M.hv l a o + 12 - 69) / 12 * 4503599627370496).toNat) := by
    show _ = _
    unfold Fl.hz
    rw [show M.hv l a o - 57 = M.hv l a o + 12 - 69 by omega, hr2]
    rfl
  generalize Fl.pr x (Fl.tb r) = P at *
  have hc : ∀ w, (convert 46 46 (.float .f64 P)).run Tryd.prog w = .ok (.float .f64 P) w := fun w => run_convert_float_float w _ _ .f64 .f64 P P (by rw [Tryd.underlying46]; rfl) Tryd.underlying46 (by simp [floatToFloatBits])
  go_wp2_with (first | simp only [hm] | simp only [hc])
  refine (moved_any P ((M.hv l a o + 12 - 69) / 12) _ (by omega) (by omega) (by omega) (by omega)).mono ?_
  rintro e w3 ⟨rfl, hw3⟩
  rw [hw3, ← hE.out]
  go_wp2_with fail
  go_returns
  exact ⟨rfl, hb01⟩
theorem Hertz_form (l a o : Int) (x : Nat) (w : World) (ht : Tab w) (hr : M.rt l a o = false) :
    Calls Tryd.prog 15 #[.agg #[.int .i64 l, .int .i64 a, .int .i64 o], .float .f64 x] w fun e w' => e = .returned (.tuple #[.float .f64 0, .int .i64 2]) ∧ Below w.heap.size w w' := by
  have e1 := M.kn_no hr
  have e2 := M.ke_no hr
  go_enter Tryd.func15, Tryd.ntmps15
  go_wp2_with fail
  refine (Key_any l a o _ (ht.step (by go_grown))).mono ?_
  rintro e w1 ⟨rfl, hb1⟩
  rw [e1, e2]
  have hb01 : Below w.heap.size w w1 := Below.trans (by go_grown) (hb1.mono (by simp))
  go_wp2_with fail
  go_returns
  exact ⟨rfl, hb01⟩
theorem Hertz_range (l a o : Int) (x : Nat) (w : World) (ht : Tab w) (hx : x < 18446744073709551616) (hr : M.rt l a o = true) (hf : M.fair x = false) :
    Calls Tryd.prog 15 #[.agg #[.int .i64 l, .int .i64 a, .int .i64 o], .float .f64 x] w fun e w' => e = .returned (.tuple #[.float .f64 0, .int .i64 3]) ∧ Below w.heap.size w w' := by
  have e1 := M.kn_yes hr
  have e2 := M.ke_yes hr
  go_enter Tryd.func15, Tryd.ntmps15
  go_wp2_with fail
  refine (Key_any l a o _ (ht.step (by go_grown))).mono ?_
  rintro e w1 ⟨rfl, hb1⟩
  rw [e1, e2]
  have hb01 : Below w.heap.size w w1 := Below.trans (by go_grown) (hb1.mono (by simp))
  go_wp2_with fail
  refine (swings_any x _ hx).mono ?_
  rintro e w2 ⟨rfl, hw2⟩
  rw [hw2, hf]
  go_wp2_with fail
  go_returns
  exact ⟨rfl, hb01⟩
theorem M.h_in {l a o : Int} {x : Nat} (hr : M.rt l a o = true) (hf : M.fair x = true) : M.hn l a o x = Fl.hz x (M.hv l a o - 57) ∧ M.he l a o x = 0 := ⟨if_pos ⟨hr, hf⟩, by unfold M.he; rw [if_pos hr, if_pos hf]⟩
theorem M.h_form {l a o : Int} {x : Nat} (hr : M.rt l a o = false) : M.hn l a o x = 0 ∧ M.he l a o x = 2 := ⟨if_neg (by rw [hr]; simp), by unfold M.he; rw [if_neg (by rw [hr]; decide)]⟩
theorem M.h_range {l a o : Int} {x : Nat} (hr : M.rt l a o = true) (hf : M.fair x = false) : M.hn l a o x = 0 ∧ M.he l a o x = 3 := ⟨if_neg (by rw [hf]; simp), by unfold M.he; rw [if_pos hr, if_neg (by rw [hf]; decide)]⟩
theorem Hertz_any (l a o : Int) (x : Nat) (w : World) (ht : Tab w) (hT : Twl w) (hx : x < 18446744073709551616) :
    Calls Tryd.prog 15 #[.agg #[.int .i64 l, .int .i64 a, .int .i64 o], .float .f64 x] w fun e w' => e = .returned (.tuple #[.float .f64 (M.hn l a o x), .int .i64 (M.he l a o x)]) ∧ Below w.heap.size w w' := by
  cases hr : M.rt l a o
  · rw [(M.h_form hr).1, (M.h_form hr).2]; exact Hertz_form l a o x w ht hr
  · cases hf : M.fair x
    · rw [(M.h_range hr hf).1, (M.h_range hr hf).2]; exact Hertz_range l a o x w ht hx hr hf
    · rw [(M.h_in hr hf).1, (M.h_in hr hf).2]; exact Hertz_in l a o x w ht hT hx hr hf
end Go.Proofs.YtdjdnjaijpafgacDoor
