/- What the document's Number comes to. -/
import Derived.Test.YtmccbokjigjpnaaDoorQD2
namespace Go.Proofs.YtmccbokjigjpnaaDoor
open Go.RowKit
set_option linter.unusedSimpArgs false
set_option linter.unusedVariables false

/-- The byte at a place. -/
def M.by (s : ByteArray) (k : Nat) : Nat := (s.data.toList.getD k 0).toNat
theorem M.by_is (s : ByteArray) (k : Nat) (h : k < s.size) : (s[k]'h).toNat = M.by s k := by
  unfold M.by
  show (s.data[k]'h).toNat = _
  rw [List.getD_eq_getElem?_getD, List.getElem?_eq_getElem (by simpa using h)]
  simp
theorem M.by_lt (s : ByteArray) (k : Nat) : M.by s k < 256 := (s.data.toList.getD k 0).toNat_lt
/-- The number that so many digits from i on tell. -/
def M.dv (s : ByteArray) (i : Nat) : Nat → Int
  | 0 => 0
  | k + 1 => 10 * M.dv s i k + ((M.by s (i + k) : Int) - 48)
/-- Digits alone from i on. -/
def M.dig (s : ByteArray) (i k : Nat) : Prop := ∀ j, i ≤ j → j < k → 48 ≤ M.by s j ∧ M.by s j ≤ 57
theorem M.dv_bd {s : ByteArray} {i : Nat} : ∀ {k : Nat}, M.dig s i (i + k) → 0 ≤ M.dv s i k ∧ M.dv s i k < 10 ^ k := by
  intro k
  induction k with
  | zero => intro _; exact ⟨Int.le_refl _, by show (0 : Int) < 1; decide⟩
  | succ k ih =>
    intro h
    obtain ⟨h1, h2⟩ := ih (fun j hj hk => h j hj (by omega))
    have h3 := h (i + k) (by omega) (by omega)
    show 0 ≤ 10 * M.dv s i k + ((M.by s (i + k) : Int) - 48) ∧ 10 * M.dv s i k + ((M.by s (i + k) : Int) - 48) < 10 ^ (k + 1)
    rw [Int.pow_succ]
    omega
theorem ret_nb {a b : Int} {p q : Bool} (h1 : a = b) (h2 : p = q) : Ending.returned (.tuple #[.int .i64 a, .bool p]) = .returned (.tuple #[.int .i64 b, .bool q]) := by rw [h1, h2]

/-- What is a number: 1. -/
def M.nk1 (s : ByteArray) : Prop := M.dig s 1 s.size ∧ 1 ≤ s.size - 1 ∧ s.size - 1 ≤ 4 ∧ ¬ (M.by s 1 = 48)
set_option maxRecDepth 20000 in
set_option maxHeartbeats 4000000 in
theorem Number_1 (s : ByteArray) (w : World) (hs : s.size ≤ 140737488355328) (h0 : 0 < s.size) (hm : M.by s 0 = 45) :
    Calls Tryd.prog 48 #[.string s] w fun e w' => ((M.nk1 s ∧ e = .returned (.tuple #[.int .i64 (-(M.dv s 1 (s.size - 1))), .bool true])) ∨ (¬ M.nk1 s ∧ e = .returned (.tuple #[.int .i64 0, .bool false]))) ∧ w' = w := by
  have hb := M.by_is s 0 h0
  have hI : (0 : Int) < (s.size : Int) := by omega
  go_enter Tryd.func48, Tryd.ntmps48
  go_wp2_with fail
  clear hI
  go_loop [5, 6] (fun nv kv => ∃ (k : Nat) (N : Int), 1 ≤ k ∧ k ≤ s.size ∧ kv = .int .i64 k ∧ nv = .int .i64 N ∧ Hid (k ≤ 5 → N = M.dv s 1 (k - 1)) ∧ Hid (M.dig s 1 k)) (fun _ kv => s.size - (intOf kv).toNat)
  case atStart => exact ⟨1, 0, by omega, by omega, rfl, rfl, fun _ => rfl, fun j h1 h2 => by omega⟩
  case round =>
    obtain ⟨k, N, hk1, hk2, rfl, rfl, hN, hd⟩ := hrel
    by_cases hlt : k < s.size
    · have hbk := M.by_is s k hlt
      have hb2 := M.by_lt s k
      have hkI : (k : Int) < (s.size : Int) := by omega
      by_cases c1 : M.by s k < 48
      · have c1' : (M.by s k : Int) < 48 := by omega
        have hno : Hid (¬ M.nk1 s) := fun h => by have := h.1 k (by omega) hlt; omega
        generalize M.by s k = B at *
        go_wp2_with fail
        go_returns
        exact ⟨.inr ⟨hno.out, rfl⟩, rfl⟩
      · by_cases c2 : 57 < M.by s k
        · have c1' : decide ((M.by s k : Int) < 48) = false := by simp; omega
          have c2' : (57 : Int) < (M.by s k : Int) := by omega
          have hno : Hid (¬ M.nk1 s) := fun h => by have := h.1 k (by omega) hlt; omega
          generalize M.by s k = B at *
          go_wp2_with fail
          go_returns
          exact ⟨.inr ⟨hno.out, rfl⟩, rfl⟩
        · have c1' : decide ((M.by s k : Int) < 48) = false := by simp; omega
          have c2' : decide ((57 : Int) < (M.by s k : Int)) = false := by simp; omega
          have c3 : (48 : Int) ≤ (M.by s k : Int) := by omega
          have c4 : (M.by s k : Int) ≤ 57 := by omega
          have hd2 : Hid (M.dig s 1 (k + 1)) := fun j h1 h2 => by
            by_cases e : j = k
            · rw [e]; omega
            · exact hd.out j h1 (by omega)
          by_cases c5 : k < 5
          · have hv := M.dv_bd (s := s) (i := 1) (k := k - 1) (fun j h1 h2 => hd.out j h1 (by omega))
            have hp : (10 : Int) ^ (k - 1) ≤ 1000 := by
              rcases (show k - 1 = 0 ∨ k - 1 = 1 ∨ k - 1 = 2 ∨ k - 1 = 3 by omega) with e | e | e | e <;> rw [e] <;> decide
            have hNb : 0 ≤ N ∧ N ≤ 1000 := by have := hN.out (by omega); omega
            have HN2 : Hid (k + 1 ≤ 5 → 10 * N + ((M.by s k : Int) - 48) = M.dv s 1 (k + 1 - 1)) := fun _ => by
              rw [hN.out (by omega), show k + 1 - 1 = (k - 1) + 1 by omega]
              show _ = 10 * M.dv s 1 (k - 1) + ((M.by s (1 + (k - 1)) : Int) - 48)
              rw [show 1 + (k - 1) = k by omega]
            clear hv hp
            generalize M.by s k = B at *
            go_wp2_with fail
            go_round
            case rel => exact ⟨k + 1, 10 * N + ((B : Int) - 48), by omega, by omega, by go_num, rfl, HN2, hd2⟩
            case measure => simp [intOf]; omega
          · generalize M.by s k = B at *
            go_wp2_with fail
            go_round
            case rel => exact ⟨k + 1, _, by omega, by omega, by go_num, rfl, fun h => by omega, hd2⟩
            case measure => simp [intOf]; omega
    · have ek : k = s.size := by omega
      subst ek
      clear hlt
      by_cases e1 : s.size - 1 < 1
      · have f1 : ((s.size : Int) - 1) < 1 := by omega
        have hno : Hid (¬ M.nk1 s) := fun h => by have := h.2.1; omega
        go_wp2_with fail
        go_returns
        exact ⟨.inr ⟨hno.out, rfl⟩, rfl⟩
      · have f1 : decide (((s.size : Int) - 1) < 1) = false := by simp; omega
        by_cases e2 : 4 < s.size - 1
        · have f2 : (4 : Int) < ((s.size : Int) - 1) := by omega
          have hno : Hid (¬ M.nk1 s) := fun h => by have := h.2.2.1; omega
          go_wp2_with fail
          go_returns
          exact ⟨.inr ⟨hno.out, rfl⟩, rfl⟩
        · have f2 : decide ((4 : Int) < ((s.size : Int) - 1)) = false := by simp; omega
          have hbi := M.by_is s 1 (by omega)
          have hiI : (1 : Int) < (s.size : Int) := by omega
          have hNv := hN.out (by omega)
          have hv := M.dv_bd (s := s) (i := 1) (k := s.size - 1) (fun j h1 h2 => hd.out j h1 (by omega))
          have hp : (10 : Int) ^ (s.size - 1) ≤ 10000 := by
            rcases (show s.size - 1 = 1 ∨ s.size - 1 = 2 ∨ s.size - 1 = 3 ∨ s.size - 1 = 4 by omega) with e | e | e | e <;> rw [e] <;> decide
          have hNb : 0 ≤ N ∧ N ≤ 10000 := by rw [hNv]; first | (constructor <;> omega) | (simp only [Nat.sub_zero]; constructor <;> omega)
          have HNv : Hid (N = M.dv s 1 (s.size - 1)) := by first | exact hNv | (simpa using hNv)
          clear hv hp hNv
          by_cases e3 : M.by s 1 = 48
          · have f3 : ((M.by s 1 : Int) == 48) = true := by simp; omega
            have hno : Hid (¬ M.nk1 s) := fun h => h.2.2.2 e3
            generalize M.by s 1 = B at *
            by_cases e4 : (1 : Int) < (s.size : Int) - 1
            · go_wp2_with fail
              go_returns
              exact ⟨.inr ⟨hno.out, rfl⟩, rfl⟩
            · have f4 : decide ((1 : Int) < (s.size : Int) - 1) = false := decide_eq_false e4
              go_wp2_with fail
              go_returns
              exact ⟨.inr ⟨hno.out, rfl⟩, rfl⟩
          · have f3 : ((M.by s 1 : Int) == 48) = false := by simp; omega
            have hyes : Hid (M.nk1 s) := ⟨hd.out, by omega, by omega, fun h => by omega⟩
            generalize M.by s 1 = B at *
            go_wp2_with fail
            go_returns
            exact ⟨.inl ⟨hyes.out, ret_nb (by rw [HNv.out]) rfl⟩, rfl⟩

/-- What is a number: 0. -/
def M.nk0 (s : ByteArray) : Prop := M.dig s 0 s.size ∧ 1 ≤ s.size ∧ s.size ≤ 4 ∧ ¬ (M.by s 0 = 48 ∧ 1 < s.size)
set_option maxRecDepth 20000 in
set_option maxHeartbeats 4000000 in
theorem Number_0 (s : ByteArray) (w : World) (hs : s.size ≤ 140737488355328) (hz : 0 < s.size) (hm : M.by s 0 ≠ 45) :
    Calls Tryd.prog 48 #[.string s] w fun e w' => ((M.nk0 s ∧ e = .returned (.tuple #[.int .i64 (M.dv s 0 s.size), .bool true])) ∨ (¬ M.nk0 s ∧ e = .returned (.tuple #[.int .i64 0, .bool false]))) ∧ w' = w := by
  have hb := M.by_is s 0 hz
  have hI : (0 : Int) < (s.size : Int) := by omega
  have hne : ((M.by s 0 : Int) == 45) = false := by simp; omega
  go_enter Tryd.func48, Tryd.ntmps48
  go_wp2_with fail
  clear hI
  go_loop [5, 6] (fun nv kv => ∃ (k : Nat) (N : Int), 0 ≤ k ∧ k ≤ s.size ∧ kv = .int .i64 k ∧ nv = .int .i64 N ∧ Hid (k ≤ 4 → N = M.dv s 0 (k - 0)) ∧ Hid (M.dig s 0 k)) (fun _ kv => s.size - (intOf kv).toNat)
  case atStart => exact ⟨0, 0, by omega, by omega, rfl, rfl, fun _ => rfl, fun j h1 h2 => by omega⟩
  case round =>
    obtain ⟨k, N, hk1, hk2, rfl, rfl, hN, hd⟩ := hrel
    by_cases hlt : k < s.size
    · have hbk := M.by_is s k hlt
      have hb2 := M.by_lt s k
      have hkI : (k : Int) < (s.size : Int) := by omega
      by_cases c1 : M.by s k < 48
      · have c1' : (M.by s k : Int) < 48 := by omega
        have hno : Hid (¬ M.nk0 s) := fun h => by have := h.1 k (by omega) hlt; omega
        generalize M.by s k = B at *
        go_wp2_with fail
        go_returns
        exact ⟨.inr ⟨hno.out, rfl⟩, rfl⟩
      · by_cases c2 : 57 < M.by s k
        · have c1' : decide ((M.by s k : Int) < 48) = false := by simp; omega
          have c2' : (57 : Int) < (M.by s k : Int) := by omega
          have hno : Hid (¬ M.nk0 s) := fun h => by have := h.1 k (by omega) hlt; omega
          generalize M.by s k = B at *
          go_wp2_with fail
          go_returns
          exact ⟨.inr ⟨hno.out, rfl⟩, rfl⟩
        · have c1' : decide ((M.by s k : Int) < 48) = false := by simp; omega
          have c2' : decide ((57 : Int) < (M.by s k : Int)) = false := by simp; omega
          have c3 : (48 : Int) ≤ (M.by s k : Int) := by omega
          have c4 : (M.by s k : Int) ≤ 57 := by omega
          have hd2 : Hid (M.dig s 0 (k + 1)) := fun j h1 h2 => by
            by_cases e : j = k
            · rw [e]; omega
            · exact hd.out j h1 (by omega)
          by_cases c5 : k < 4
          · have hv := M.dv_bd (s := s) (i := 0) (k := k - 0) (fun j h1 h2 => hd.out j h1 (by omega))
            have hp : (10 : Int) ^ (k - 0) ≤ 1000 := by
              rcases (show k - 0 = 0 ∨ k - 0 = 1 ∨ k - 0 = 2 ∨ k - 0 = 3 by omega) with e | e | e | e <;> rw [e] <;> decide
            have hNb : 0 ≤ N ∧ N ≤ 1000 := by have := hN.out (by omega); omega
            have HN2 : Hid (k + 1 ≤ 4 → 10 * N + ((M.by s k : Int) - 48) = M.dv s 0 (k + 1 - 0)) := fun _ => by
              rw [hN.out (by omega), show k + 1 - 0 = (k - 0) + 1 by omega]
              show _ = 10 * M.dv s 0 (k - 0) + ((M.by s (0 + (k - 0)) : Int) - 48)
              rw [show 0 + (k - 0) = k by omega]
            clear hv hp
            generalize M.by s k = B at *
            go_wp2_with fail
            go_round
            case rel => exact ⟨k + 1, 10 * N + ((B : Int) - 48), by omega, by omega, by go_num, rfl, HN2, hd2⟩
            case measure => simp [intOf]; omega
          · generalize M.by s k = B at *
            go_wp2_with fail
            go_round
            case rel => exact ⟨k + 1, _, by omega, by omega, by go_num, rfl, fun h => by omega, hd2⟩
            case measure => simp [intOf]; omega
    · have ek : k = s.size := by omega
      subst ek
      clear hlt
      by_cases e1 : s.size < 1
      · have f1 : (s.size : Int) < 1 := by omega
        have hno : Hid (¬ M.nk0 s) := fun h => by have := h.2.1; omega
        go_wp2_with fail
        go_returns
        exact ⟨.inr ⟨hno.out, rfl⟩, rfl⟩
      · have f1 : decide ((s.size : Int) < 1) = false := by simp; omega
        by_cases e2 : 4 < s.size
        · have f2 : (4 : Int) < (s.size : Int) := by omega
          have hno : Hid (¬ M.nk0 s) := fun h => by have := h.2.2.1; omega
          go_wp2_with fail
          go_returns
          exact ⟨.inr ⟨hno.out, rfl⟩, rfl⟩
        · have f2 : decide ((4 : Int) < (s.size : Int)) = false := by simp; omega
          have hbi := M.by_is s 0 (by omega)
          have hiI : (0 : Int) < (s.size : Int) := by omega
          have hNv := hN.out (by omega)
          have hv := M.dv_bd (s := s) (i := 0) (k := s.size) (fun j h1 h2 => hd.out j h1 (by omega))
          have hp : (10 : Int) ^ (s.size) ≤ 10000 := by
            rcases (show s.size = 1 ∨ s.size = 2 ∨ s.size = 3 ∨ s.size = 4 by omega) with e | e | e | e <;> rw [e] <;> decide
          have hNb : 0 ≤ N ∧ N ≤ 10000 := by rw [hNv]; first | (constructor <;> omega) | (simp only [Nat.sub_zero]; constructor <;> omega)
          have HNv : Hid (N = M.dv s 0 (s.size)) := by first | exact hNv | (simpa using hNv)
          clear hv hp hNv
          by_cases e3 : M.by s 0 = 48
          · have f3 : ((M.by s 0 : Int) == 48) = true := by simp; omega
            by_cases e4 : (1 : Int) < (s.size : Int)
            · have hno : Hid (¬ M.nk0 s) := fun h => h.2.2.2 ⟨e3, by omega⟩
              generalize M.by s 0 = B at *
              go_wp2_with fail
              go_returns
              exact ⟨.inr ⟨hno.out, rfl⟩, rfl⟩
            · have f4 : decide ((1 : Int) < (s.size : Int)) = false := decide_eq_false e4
              have hyes : Hid (M.nk0 s) := ⟨hd.out, by omega, by omega, fun h => by omega⟩
              generalize M.by s 0 = B at *
              go_wp2_with fail
              go_returns
              exact ⟨.inl ⟨hyes.out, ret_nb HNv.out rfl⟩, rfl⟩
          · have f3 : ((M.by s 0 : Int) == 48) = false := by simp; omega
            have hyes : Hid (M.nk0 s) := ⟨hd.out, by omega, by omega, fun h => by omega⟩
            generalize M.by s 0 = B at *
            go_wp2_with fail
            go_returns
            exact ⟨.inl ⟨hyes.out, ret_nb (by rw [HNv.out]) rfl⟩, rfl⟩

theorem Number_none (s : ByteArray) (w : World) (hz : s.size = 0) :
    Calls Tryd.prog 48 #[.string s] w fun e w' => e = .returned (.tuple #[.int .i64 0, .bool false]) ∧ w' = w := by
  obtain rfl : s = ⟨#[]⟩ := by
    apply ByteArray.ext
    exact Array.eq_empty_of_size_eq_zero hz
  go_enter Tryd.func48, Tryd.ntmps48
  go_wp2_with fail
  refine wp_loop_rounds 1 ?_
  rw [rounds_succ]
  go_wp2_with fail
  go_returns
  exact ⟨rfl, rfl⟩
end Go.Proofs.YtmccbokjigjpnaaDoor
