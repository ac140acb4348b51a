/- What the document's Digits comes to: what strconv.Itoa tells; starts and times. -/
import Derived.Test.YtmccbokjigjpnaaDoorQD1
namespace Go.Proofs.YtmccbokjigjpnaaDoor
open Go.RowKit
set_option linter.unusedSimpArgs false
set_option linter.unusedVariables false

theorem Digits_3 (n : Nat) (w : World) (h1 : 100 ≤ n) (h2 : n < 1000) :
    Calls Tryd.prog 37 #[.int .i64 n] w fun e w' => e = .returned (.string ((⟨#[UInt8.ofNat (48 + n / 10 / 10)]⟩ ++ ⟨#[UInt8.ofNat (48 + n / 10 % 10)]⟩) ++ ⟨#[UInt8.ofNat (48 + n % 10)]⟩)) ∧ Below w.heap.size w w' := by
  have d1 := fun W => Digits_2 (n / 10) W (by omega) (by omega)
  have d2 := fun W => Digits_1 ((n : Int) % 10) W (by omega) (by omega)
  rw [show ((n / 10 : Nat) : Int) = (n : Int) / 10 by omega] at d1
  rw [show ((n : Int) % 10).toNat = n % 10 by omega] at d2
  have zA : (⟨#[UInt8.ofNat (48 + n / 10 / 10)]⟩ ++ ⟨#[UInt8.ofNat (48 + n / 10 % 10)]⟩ : ByteArray).size = 2 := by rw [ByteArray.size_append]; rfl
  have zB : (⟨#[UInt8.ofNat (48 + n % 10)]⟩ : ByteArray).size = 1 := rfl
  generalize (⟨#[UInt8.ofNat (48 + n / 10 / 10)]⟩ ++ ⟨#[UInt8.ofNat (48 + n / 10 % 10)]⟩ : ByteArray) = SA at *
  generalize (⟨#[UInt8.ofNat (48 + n % 10)]⟩ : ByteArray) = SB at *
  have zz : ¬ 9223372036854775807 < SA.size + SB.size := by omega
  go_enter Tryd.func37, Tryd.ntmps37
  go_wp2_with fail
  refine (d1 _).mono ?_
  rintro e w1 ⟨rfl, hb1⟩
  go_wp2_with fail
  refine (d2 _).mono ?_
  rintro e w2 ⟨rfl, hb2⟩
  go_wp2_with fail
  go_ret
  exact ⟨rfl, hb1.trans (hb2.mono hb1.size)⟩
theorem ba_app (l r : List UInt8) : (⟨l.toArray⟩ ++ ⟨r.toArray⟩ : ByteArray) = ⟨(l ++ r).toArray⟩ := by
  apply ByteArray.ext
  simp
theorem Digits_up (n : Nat) (w : World) (h2 : n < 1000) :
    Calls Tryd.prog 37 #[.int .i64 n] w fun e w' => e = .returned (.string ⟨(Lib.decDigits n).toArray⟩) ∧ Below w.heap.size w w' := by
  by_cases c1 : n < 10
  · rw [Lib.decDigits, dif_pos c1]
    have := Digits_1 n w (by omega) (by omega)
    rw [Int.toNat_natCast] at this
    exact this
  · rw [Lib.decDigits, dif_neg c1]
    by_cases c2 : n < 100
    · rw [Lib.decDigits, dif_pos (by omega), ← ba_app]
      exact Digits_2 n w (by omega) c2
    · rw [Lib.decDigits, dif_neg (by omega), Lib.decDigits, dif_pos (by omega), ← ba_app, ← ba_app]
      exact Digits_3 n w (by omega) h2
theorem Digits_any (n : Int) (w : World) (h1 : -999 ≤ n) (h2 : n ≤ 999) :
    Calls Tryd.prog 37 #[.int .i64 n] w fun e w' => e = .returned (.string ⟨(Lib.itoa n).toArray⟩) ∧ Below w.heap.size w w' := by
  by_cases c : n < 0
  · have e1 : Lib.itoa n = [45] ++ Lib.decDigits n.natAbs := by unfold Lib.itoa; rw [if_pos c]; rfl
    have d1 := fun W => Digits_up n.natAbs W (by omega)
    rw [show ((n.natAbs : Nat) : Int) = -n by omega] at d1
    rw [e1, ← ba_app]
    have zA : (⟨(Lib.decDigits n.natAbs).toArray⟩ : ByteArray).size ≤ 3 := by
      show (Lib.decDigits n.natAbs).toArray.size ≤ 3
      rw [List.size_toArray, Lib.decDigits]
      split
      · simp
      · rw [Lib.decDigits]
        split
        · simp
        · rw [Lib.decDigits, dif_pos (by omega)]; simp
    generalize (⟨(Lib.decDigits n.natAbs).toArray⟩ : ByteArray) = SA at *
    have zz : ¬ 9223372036854775807 < 1 + SA.size := by omega
    go_enter Tryd.func37, Tryd.ntmps37
    go_wp2_with fail
    refine (d1 _).mono ?_
    rintro e w1 ⟨rfl, hb1⟩
    go_wp2_with fail
    go_ret
    exact ⟨rfl, hb1⟩
  · have e1 : Lib.itoa n = Lib.decDigits n.toNat := by unfold Lib.itoa; rw [if_neg c]
    have d1 := Digits_up n.toNat w (by omega)
    rw [show ((n.toNat : Nat) : Int) = n by omega] at d1
    rw [e1]
    exact d1

/-- Does a text have this at a place? -/
def M.sts (s : ByteArray) (i : Nat) (t : ByteArray) : Bool := decide (i + t.size ≤ s.size) && ((s.extract i (i + t.size)).toList == t.toList)
set_option maxRecDepth 20000 in
theorem starts_any (s t : ByteArray) (i : Nat) (w : World) (hs : s.size ≤ 140737488355328) (ht : t.size ≤ 100) (hi : i ≤ 140737488355400) :
    Calls Tryd.prog 47 #[.string s, .int .i64 i, .string t] w fun e w' => e = .returned (.bool (M.sts s i t)) ∧ w' = w := by
  unfold M.sts
  by_cases c : i + t.size ≤ s.size
  · have c' : decide ((i : Int) + (t.size : Int) ≤ (s.size : Int)) = true := by simp; omega
    rw [decide_eq_true c, Bool.true_and]
    have c2 : (i : Int) + (t.size : Int) ≤ (s.size : Int) := by omega
    have c3 : (i : Int) ≤ (i : Int) + (t.size : Int) := by omega
    go_enter Tryd.func47, Tryd.ntmps47
    go_wp2_with fail
    go_ret
    exact ⟨rfl, rfl⟩
  · have c' : decide ((i : Int) + (t.size : Int) ≤ (s.size : Int)) = false := by simp; omega
    rw [decide_eq_false c, Bool.false_and]
    go_enter Tryd.func47, Tryd.ntmps47
    go_wp2_with fail
    go_ret
    exact ⟨rfl, rfl⟩

/-- So many times. -/
def M.rep (t : ByteArray) : Nat → ByteArray
  | 0 => ⟨#[]⟩
  | k + 1 => M.rep t k ++ t
theorem M.rep_size (t : ByteArray) (h : t.size = 1) (k : Nat) : (M.rep t k).size = k := by
  induction k with
  | zero => rfl
  | succ k ih => show (M.rep t k ++ t).size = _; rw [ByteArray.size_append, ih, h]
theorem M.rep_is (c : UInt8) (k : Nat) : M.rep ⟨#[c]⟩ k = ⟨(List.replicate k c).toArray⟩ := by
  induction k with
  | zero => rfl
  | succ k ih =>
    show M.rep ⟨#[c]⟩ k ++ ⟨#[c]⟩ = _
    rw [ih, List.replicate_succ', ← ba_app]
theorem times_any (t : ByteArray) (n : Int) (w : World) (h : t.size = 1) (h2 : n ≤ 100) :
    Calls Tryd.prog 42 #[.string t, .int .i64 n] w fun e w' => e = .returned (.string (M.rep t n.toNat)) ∧ w' = w := by
  go_enter Tryd.func42, Tryd.ntmps42
  go_wp2_with fail
  go_loop [5, 6] (fun s i => ∃ (k : Nat) (S : ByteArray), k ≤ n.toNat ∧ i = .int .i64 k ∧ s = .string S ∧ Hid (S = M.rep t k)) (fun _ i => n.toNat - (intOf i).toNat)
  case atStart => exact ⟨0, _, by omega, rfl, rfl, rfl⟩
  case round =>
    obtain ⟨k, S, hk, rfl, rfl, hS⟩ := hrel
    have hz : S.size = k := by rw [hS.out]; exact M.rep_size t h k
    by_cases hlt : (k : Int) < n
    · have zz : ¬ 9223372036854775807 < S.size + t.size := by omega
      go_wp2_with fail
      go_round
      case rel => exact ⟨k + 1, S ++ t, by omega, by go_num, rfl, by rw [hS.out]; rfl⟩
      case measure => simp [intOf]; omega
    · have HE : Hid (S = M.rep t n.toNat) := by rw [show n.toNat = k by omega]; exact hS
      clear hS
      go_wp2_with fail
      go_ret
      exact ⟨ret_str HE.out, rfl⟩
end Go.Proofs.YtmccbokjigjpnaaDoor
