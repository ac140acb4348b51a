/- CodecShort: the law's text, walked. -/
import Derived.Test.YtdlcnbfiklbiiabCo8
import Derived.Test.YtdlcnbfiklbiiabCo11
namespace Go.Proofs.Ytdlcnbfiklbiiab.Co
open Go.RowKit Go.Maps Go.Sort
set_option linter.unusedVariables false
set_option linter.unusedSimpArgs false

theorem bt_size (l : List Nat) : (bt l).size = l.length := by
  unfold bt strOfNums
  simp [ByteArray.size]
theorem alive_any (w : World) : Calls Try.prog 4 #[] w fun e w' => e = .returned (.bool true) ∧ Below w.heap.size w w' := by
  have hq := Encode_any [] (fun _ => False) none 0 0 w (IL.nil _ _ _) (fun _ h => h.elim) rfl (by omega) (by omega)
  have e1 : ee [] = 0 := by decide
  have e2 : (bt (eb [])).size = 3 := by rw [bt_size]; unfold eb; rw [if_pos e1]; decide
  rw [e1] at hq
  have HE : Hid ((bt (eb [])).size = 3) := e2
  generalize bt (eb []) = B at *
  clear e1
  go_enter Try.func4, Try.ntmps4
  go_wp2_with fail
  refine hq.mono ?_
  rintro e w1 ⟨rfl, hb⟩
  clear hq
  go_wp2_with fail
  go_ret
  exact ⟨rfl, hb⟩
/-- How many bits the first n frames have by an order and a key. -/
def sl (l : List Int) (o k n : Nat) : Nat := ((List.range n).map fun j => 6 + lg (ch l j) o k).sum
theorem sl_step (l : List Int) (o k n : Nat) : sl l o k (n + 1) = sl l o k n + (6 + lg (ch l n) o k) := by
  unfold sl; rw [List.range_succ, List.map_append, List.sum_append]; simp
theorem fz_len (l : List Int) (n : Nat) (o k : Nat) (ho : o < 4) (hk : k < 16) : (fz l n).length ≤ sl l o k n := by
  induction n with
  | zero => simp [fz, sl]
  | succ n ih =>
    rw [fz_step, sl_step, List.length_append]
    have h : (fx (ch l n)).length = 6 + lg (ch l n) (be (ch l n)).1 (be (ch l n)).2 := fr_len _ _ _
    have h2 := be_le (ch l n) o k ho hk
    omega
theorem sl_le (l : List Int) (hr : ∀ x ∈ l, inR x) (o k n : Nat) (hk : k ≤ 62) : sl l o k n ≤ n * 1099511627782 := by
  induction n with
  | zero => simp [sl]
  | succ n ih =>
    rw [sl_step]
    have h := lg_le (ch l n) (ch_in l hr n).1 (ch_in l hr n).2 o k hk
    rw [Nat.add_mul]; omega
set_option maxRecDepth 8000 in
set_option maxHeartbeats 8000000 in
theorem short_walk (l : List Int) (ao : Option Addr) (n c : Nat) (o k : Int) (w : World) (hI : IL w (fun b => b < w.heap.size) ao l) (hn : l.length = n) (hc : n ≤ c) (hc2 : c ≤ 9223372036854775807) :
    Calls Try.prog 3 #[.slice ao n c, .int .i64 o, .int .i64 k] w fun e w' => e = .returned (.bool true) ∧ Below w.heap.size w w' := by
  have HI : Hid (IL w (fun b => b < w.heap.size) ao l) := hI
  have HN : Hid (l.length = n) := hn
  clear hI hn
  go_enter Try.func3, Try.ntmps3
  go_wp2_with fail
  refine (alive_any _).mono ?_
  rintro e w1 ⟨rfl, hb1⟩
  have hq := Encode_any l (fun b => b < w.heap.size) ao n c w1 (HI.out.bel hb1) (fun b hb => by have := hb1.size; omega) HN.out hc hc2
  have HB1 : Hid (Below w.heap.size w w1) := hb1
  clear hb1
  go_wp2_with fail
  refine hq.mono ?_
  rintro e w2 ⟨rfl, hb2⟩
  have HB2 : Hid (Below w.heap.size w w2) := HB1.out.trans (hb2.mono HB1.out.size)
  clear hq hb2 HB1
  by_cases he : ee l = 0
  · by_cases h1 : o < 0
    · generalize bt (eb l) = EB at *
      rw [he]
      clear he
      go_wp2_with fail
      go_ret
      exact ⟨rfl, HB2.out⟩
    by_cases h2 : 3 < o
    · generalize bt (eb l) = EB at *
      rw [he]
      clear he
      go_wp2_with fail
      go_ret
      exact ⟨rfl, HB2.out⟩
    by_cases h3 : k < 0
    · generalize bt (eb l) = EB at *
      rw [he]
      clear he
      go_wp2_with fail
      go_ret
      exact ⟨rfl, HB2.out⟩
    by_cases h4 : 15 < k
    · generalize bt (eb l) = EB at *
      rw [he]
      clear he
      go_wp2_with fail
      go_ret
      exact ⟨rfl, HB2.out⟩
    obtain ⟨O, rfl⟩ : ∃ O : Nat, o = O := ⟨o.toNat, by omega⟩
    obtain ⟨K, rfl⟩ : ∃ K : Nat, k = K := ⟨k.toNat, by omega⟩
    have hO : O ≤ 3 := by omega
    have hK : K ≤ 15 := by omega
    have he2 := he
    unfold ee at he2
    have hl1 : l.length ≤ 1048576 := by
      by_cases q : 1048576 < l.length
      · rw [if_pos q] at he2; omega
      · omega
    have hal : l.all sok = true := by
      rw [if_neg (by omega)] at he2
      by_cases q : l.all sok = true
      · exact q
      · rw [if_neg q] at he2; omega
    have HR : Hid (∀ x ∈ l, inR x) := fun x hx => (sok_iff x).1 (List.all_eq_true.1 hal x hx)
    have hnb : n ≤ 1048576 := by rw [← HN.out]; exact hl1
    have HSz : Hid ((bt (eb l)).size = (24 + (fz l (nf l)).length + 7) / 8) := by
      show _ = _
      rw [bt_size]
      unfold eb
      rw [if_pos he, pk_len]
      unfold en
      rw [List.length_append, bn_len]
    rw [he]
    generalize bt (eb l) = EB at *
    have H1 : Hid (¬ (O : Int) < 0 ∧ ¬ (3 : Int) < (O : Int) ∧ ¬ (K : Int) < 0 ∧ ¬ (15 : Int) < (K : Int)) := ⟨h1, h2, h3, h4⟩
    clear he he2 hl1 hal
    go_wp2_with fail
    go_loopw [10, 9] (fun a s wr => ∃ j : Nat, j ≤ nf l ∧ a = .int .i64 ((256 * j : Nat) : Int) ∧ (∃ T : Nat, s = .int .i64 (T : Int) ∧ Hid (T = 24 + sl l O K j)) ∧ Hid (Below w.heap.size w wr)) (fun a _ _ => n + 256 - (intOf a).toNat)
    case atStart => exact ⟨0, by omega, rfl, ⟨24, rfl, rfl⟩, HB2⟩
    case round =>
      obtain ⟨j, hj, rfl, ⟨T, rfl, hT⟩, hB⟩ := hrel
      have hsb := sl_le l HR.out O K j (by omega)
      have hnf : nf l = (n + 255) / 256 := by unfold nf; rw [HN.out]
      by_cases hlt : 256 * j < n
      · obtain ⟨I, hI⟩ : ∃ I, I = 256 * j := ⟨_, rfl⟩
        rw [← hI] at hlt ⊢
        have hlt' : (I : Int) < (n : Int) := by omega
        have hci := ch_in l HR.out j
        have hst := sl_step l O K j
        have hIc := (((HI.out.bel hB.out).drop I c (by rw [HN.out]; exact hc)).take 256)
        have hce : ((l.drop I).take 256) = ch l j := by unfold ch; rw [hI]
        rw [hce] at hIc
        have hcl : (ch l j).length = min 256 (n - I) := by rw [← hce, List.length_take, List.length_drop, HN.out]
        obtain ⟨m, hm⟩ : ∃ m, m = min 256 (n - I) := ⟨_, rfl⟩
        rw [← hm] at hcl
        have hq := long_any (ch l j) (fun b => b < w.heap.size) (frm ao I c) m (c - I) O K wr hIc (fun b hb => by have := hB.out.size; omega) hcl (by omega) (by omega) hci.1 hO hK (by omega)
        have hlg := lg_le (ch l j) hci.1 hci.2 O K (by omega)
        have HS : Hid (sl l O K (j + 1) = sl l O K j + (6 + lg (ch l j) O K)) := hst
        have s1 : ∀ W : World, (Instr.slice 22 (.slice ao n c) (some (.int .i64 (I : Int))) none none).run Try.prog W = .ok (.slice (frm ao I c) (n - I) (c - I)) W := fun W => run_from ao n c I (by omega) W
        have hjb : j ≤ 4096 := by omega
        have hsb2 : sl l O K j ≤ 4096 * 1099511627782 := Nat.le_trans hsb (Nat.mul_le_mul_right _ hjb)
        clear hIc hce hcl hci hst hsb
        obtain ⟨L6, hL6⟩ : ∃ L6, L6 = 6 + lg (ch l j) O K := ⟨_, rfl⟩
        obtain ⟨T2, hT2⟩ : ∃ T2, T2 = T + L6 := ⟨_, rfl⟩
        have HT2 : Hid (T2 = 24 + sl l O K (j + 1)) := by show _ = _; rw [HS.out, hT2, hT.out, hL6]; omega
        have hTb : T ≤ 4096 * 1099511627782 + 24 := by rw [hT.out]; omega
        rw [← hL6] at hq
        have hLb : L6 ≤ 1099511627782 := by omega
        have w1' : IntKind.i64.wrap ((T : Int) + (L6 : Int)) = (T2 : Int) := by rw [wid (by omega) (by omega)]; omega
        clear hL6 hT2 hsb2 hlg HS hT
        have w2' : IntKind.i64.wrap ((I : Int) + 256) = ((I + 256 : Nat) : Int) := by rw [wid (by omega) (by omega)]; omega
        have HII : Hid (I = 256 * j) := hI
        have hjn : j + 1 ≤ nf l := by rw [hnf]; omega
        clear hI hnf
        generalize frm ao I c = FA at *
        by_cases hbig : 256 < n - I
        case' pos =>
          have hbig' : (256 : Int) < ((n - I : Nat) : Int) := by omega
          have s2 : ∀ W : World, (Instr.slice 22 (.slice FA (n - I) (c - I)) none (some (.int .i64 256)) none).run Try.prog W = .ok (.slice FA 256 (c - I)) W := fun W => run_upto FA (n - I) (c - I) 256 (by omega) W
          have hm2 : m = 256 := by omega
          clear hm
          subst hm2
          go_wp2_with fail
        case' neg =>
          have hbig' : ¬ (256 : Int) < ((n - I : Nat) : Int) := by omega
          have hmn : m = n - I := by omega
          rw [← hmn] at s1 hbig hbig'
          have hlen : 0 < m ∧ m ≤ n := by omega
          clear hm hmn
          go_wp2_with fail
        all_goals
          refine hq.mono ?_
          rintro e w5 ⟨rfl, hb5⟩
          have HB5 : Hid (Below w.heap.size w w5) := hB.out.trans (hb5.mono hB.out.size)
          clear hq hb5 hB
          go_wp2_with (simp only [w1'])
          go_roundw
          case rel => exact ⟨j + 1, hjn, by rw [HII.out]; go_num, ⟨T2, rfl, HT2⟩, HB5⟩
          case measure => simp [intOf]; omega
      · have hjn : j = nf l := by rw [hnf] at hj ⊢; omega
        have hlt' : ¬ ((256 * j : Nat) : Int) < (n : Int) := by omega
        have hfz := fz_len l (nf l) O K (by omega) (by omega)
        rw [← hjn] at hfz
        have hjb : j ≤ 4096 := by omega
        have hsb2 : sl l O K j ≤ 4096 * 1099511627782 := Nat.le_trans hsb (Nat.mul_le_mul_right _ hjb)
        have hsz := HSz.out
        rw [← hjn] at hsz
        have hfin : Hid (decide (((EB.size : Nat) : Int) ≤ ((T : Int) + 7) / 8) = true) := by
          show _ = _
          have h1 := hT.out
          rw [decide_eq_true_iff, hsz]
          omega
        have hTb : T ≤ 4096 * 1099511627782 + 24 := by rw [hT.out]; omega
        clear hfz hsz hsb HSz hjn hnf hT hsb2
        go_wp2_with fail
        go_ret
        exact ⟨by simpa using hfin.out, hB.out⟩
  · have he' : (ee l == 0) = false := by simpa using he
    generalize bt (eb l) = EB at *
    generalize ee l = E at *
    go_wp2_with fail
    go_ret
    exact ⟨rfl, HB2.out⟩
end Go.Proofs.Ytdlcnbfiklbiiab.Co
