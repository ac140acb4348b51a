/- What a writer's methods number and folded come to. -/
import Derived.Test.YtdlcnbfiklbiiaaCo1
namespace Go.Proofs.Ytdlcnbfiklbiiaa.Co
open Go.RowKit Go.Maps Go.Sort
set_option linter.unusedVariables false
set_option linter.unusedSimpArgs false

theorem and1 (x : Nat) : bits .and .i64 (x : Int) 1 = ((x % 2 : Nat) : Int) := by
  have key : (BitVec.ofInt 64 (x : Int) &&& BitVec.ofInt 64 1).toNat = x % 2 := by
    have h1 : (BitVec.ofInt 64 1).toNat = 2 ^ 1 - 1 := by decide
    rw [BitVec.toNat_and, h1, Nat.and_two_pow_sub_one_eq_mod, BitVec.toNat_ofInt]
    omega
  show IntKind.i64.wrap ((BitVec.ofInt 64 (x : Int) &&& BitVec.ofInt 64 1).toNat : Nat) = _
  rw [key, IntKind.wrap_i64]
  omega
theorem take_bn (n k j : Nat) (h : j < k) : (bn n k).take (j + 1) = (bn n k).take j ++ [n / 2 ^ (k - 1 - j) % 2] := by
  rw [List.take_add_one, bn_get n k j h]; rfl
set_option maxRecDepth 8000 in
set_option maxHeartbeats 4000000 in
theorem number_any (p n k : Nat) (bs : List Nat) (w : World) (hW : WB w p bs) (hn : n < 4611686018427387904) (hk : k ≤ 62) (hl : bs.length + k ≤ 1099511627776) :
    Calls Try.prog 32 #[.pointer (some ⟨p, 0, none⟩), .int .i64 (n : Int), .int .i64 (k : Int)] w fun e w' => e = .returned (.tuple #[]) ∧ WB w' p (bs ++ bn n k) ∧ WK p w w' := by
  have HW : Hid (WB w p bs) := hW
  clear hW
  go_enter Try.func32, Try.ntmps32
  go_wp2_with fail
  go_loopw [8] (fun i wr => ∃ j : Nat, j ≤ k ∧ i = .int .i64 (j : Int) ∧ Hid (WB wr p (bs ++ (bn n k).take j)) ∧ Hid (WK p w wr)) (fun i _ => k - (intOf i).toNat)
  case atStart => exact ⟨0, by omega, rfl, by show WB _ _ _; rw [List.take_zero, List.append_nil]; exact HW.out, WK.refl _ _ HW.out.lt⟩
  case round =>
    obtain ⟨j, hj, rfl, hB, hK⟩ := hrel
    by_cases hlt : j < k
    · have hlt' : (j : Int) < (k : Int) := by omega
      have hle := bn_lt n k
      have hb := bit_any p (n / 2 ^ (k - 1 - j) % 2) (bs ++ (bn n k).take j) wr hB.out (by omega) (by rw [List.length_append, List.length_take, bn_len]; omega)
      rw [List.append_assoc, ← take_bn n k j hlt] at hb
      have w1 : IntKind.i64.wrap ((j : Int) + 1) = (j : Int) + 1 := wid (by omega) (by omega)
      obtain ⟨d, hd⟩ : ∃ d, d = k - 1 - j := ⟨_, rfl⟩
      have w2 : (k : Int) - 1 - (j : Int) = (d : Int) := by omega
      rw [← hd] at hb
      have HD : Hid (d = k - 1 - j) := hd
      have hd6 : d ≤ 62 := by omega
      clear hd
      have ha : bits .and .i64 ((n : Int) / 2 ^ d) 1 = ((n / 2 ^ d % 2 : Nat) : Int) := by rw [← and1]; push_cast; rfl
      generalize n / 2 ^ d % 2 = X at *
      have HB : Hid (WB wr p (bs ++ (bn n k).take j)) := hB
      go_wp2_with (simp only [w2])
      refine hb.mono ?_
      rintro e w3 ⟨rfl, hB1, hK1⟩
      have HB1 : Hid (WB w3 p (bs ++ (bn n k).take (j + 1))) := hB1
      have HK1 : Hid (WK p w w3) := hK.out.trans hK1
      clear hb hB hK hB1 hK1 HB ha HD hd6 w2
      go_wp2_with fail
      go_roundw
      case rel => exact ⟨j + 1, by omega, by go_num, HB1, HK1⟩
      case measure => simp [intOf]; omega
    · obtain rfl : j = k := by omega
      have hlt' : ¬ (j : Int) < (j : Int) := by omega
      have e : (bn n j).take j = bn n j := List.take_of_length_le (by rw [bn_len]; omega)
      rw [e] at hB
      go_wp2_with fail
      go_end0
      exact ⟨rfl, hB.out, hK.out⟩
set_option maxRecDepth 8000 in
set_option maxHeartbeats 4000000 in
theorem folded_any (p m k : Nat) (bs : List Nat) (w : World) (hW : WB w p bs) (hn : m < 4294967296) (hk : k ≤ 62) (hl : bs.length ≤ 549755813888) :
    Calls Try.prog 56 #[.pointer (some ⟨p, 0, none⟩), .int .i64 (m : Int), .int .i64 (k : Int)] w fun e w' => e = .returned (.tuple #[]) ∧ WB w' p (bs ++ fw m k) ∧ WK p w w' := by
  have HW : Hid (WB w p bs) := hW
  clear hW
  obtain ⟨q, hq⟩ : ∃ q, q = m / 2 ^ k := ⟨_, rfl⟩
  have hqm : q ≤ m := by rw [hq]; exact Nat.div_le_self _ _
  have ea : ((m : Int) / 2 ^ k) = (q : Int) := by rw [hq]; push_cast; rfl
  have HQ : Hid (q = m / 2 ^ k) := hq
  clear hq
  go_enter Try.func56, Try.ntmps56
  go_wp2_with (simp only [ea])
  go_loopw [9] (fun i wr => ∃ j : Nat, j ≤ q ∧ i = .int .i64 (j : Int) ∧ Hid (WB wr p (bs ++ List.replicate j 1)) ∧ Hid (WK p w wr)) (fun i _ => q - (intOf i).toNat)
  case atStart => exact ⟨0, by omega, rfl, by show WB _ _ _; rw [List.replicate_zero, List.append_nil]; exact HW.out, WK.refl _ _ HW.out.lt⟩
  case round =>
    obtain ⟨j, hj, rfl, hB, hK⟩ := hrel
    by_cases hlt : j < q
    · have hlt' : (j : Int) < (q : Int) := by omega
      have hb := bit_any p 1 (bs ++ List.replicate j 1) wr hB.out (by omega) (by rw [List.length_append, List.length_replicate]; omega)
      rw [List.append_assoc, ← List.replicate_succ'] at hb
      have w1 : IntKind.i64.wrap ((j : Int) + 1) = (j : Int) + 1 := wid (by omega) (by omega)
      go_wp2_with fail
      refine hb.mono ?_
      rintro e w3 ⟨rfl, hB1, hK1⟩
      have HB1 : Hid (WB w3 p (bs ++ List.replicate (j + 1) 1)) := hB1
      have HK1 : Hid (WK p w w3) := hK.out.trans hK1
      clear hb hB hK hB1 hK1
      go_wp2_with fail
      go_roundw
      case rel => exact ⟨j + 1, by omega, by go_num, HB1, HK1⟩
      case measure => simp [intOf]; omega
    · obtain rfl : j = q := by omega
      have hlt' : ¬ (j : Int) < (j : Int) := by omega
      have hb := bit_any p 0 (bs ++ List.replicate j 1) wr hB.out (by omega) (by rw [List.length_append, List.length_replicate]; omega)
      go_wp2_with fail
      refine hb.mono ?_
      rintro e w3 ⟨rfl, hB1, hK1⟩
      have hb2 := number_any p m k _ w3 hB1 (by omega) hk (by simp; omega)
      have e4 : bs ++ List.replicate j 1 ++ [0] ++ bn m k = bs ++ fw m k := by unfold fw; rw [← HQ.out]; simp
      rw [e4] at hb2
      have HK1 : Hid (WK p w w3) := hK.out.trans hK1
      clear hb hB hK hB1 hK1 e4
      go_wp2_with fail
      refine hb2.mono ?_
      rintro e w4 ⟨rfl, hB2, hK2⟩
      have HB2 : Hid (WB w4 p (bs ++ fw m k)) := hB2
      have HK2 : Hid (WK p w w4) := HK1.out.trans hK2
      clear hb2 hB2 hK2
      go_wp2_with fail
      go_end0
      exact ⟨rfl, HB2.out, HK2.out⟩
end Go.Proofs.Ytdlcnbfiklbiiaa.Co
