/- The program's reader: code, plain, folded, unfold, guessed. -/
import Derived.Test.YtdlcnbfiklbiiaaCo20
import Derived.Test.YtdlcnbfiklbiiaaCo3
import Derived.Test.YtdlcnbfiklbiiaaCo4
namespace Go.Proofs.Ytdlcnbfiklbiiaa.Co
open Go.RowKit Go.Maps Go.Sort
set_option linter.unusedVariables false
set_option linter.unusedSimpArgs false

theorem isSample_any (x : Int) (w : World) : Calls Try.prog 31 #[.int .i64 x] w fun e w' => e = .returned (.bool (sok x)) ∧ w' = w := by
  by_cases h1 : -32768 ≤ x
  · by_cases h2 : x ≤ 32767
    · have e : sok x = true := by rw [sok_iff]; exact ⟨h1, h2⟩
      rw [e]
      go_enter Try.func31, Try.ntmps31
      go_wp2_with fail
      go_ret
      exact ⟨rfl, rfl⟩
    · have e : sok x = false := by unfold sok; simp; omega
      rw [e]
      go_enter Try.func31, Try.ntmps31
      go_wp2_with fail
      go_ret
      exact ⟨rfl, rfl⟩
  · have e : sok x = false := by unfold sok; simp; omega
    rw [e]
    go_enter Try.func31, Try.ntmps31
    go_wp2_with fail
    go_ret
    exact ⟨rfl, rfl⟩
set_option maxHeartbeats 4000000 in
theorem plain_any (p k : Nat) (r : List Nat) (s : ByteArray) (w : World) (hR : Rt w p s k) (ha : At s k r) (hs : s.size ≤ 140737488355328) :
    Calls Try.prog 62 #[.pointer (some ⟨p, 0, none⟩)] w fun e w' => e = .returned (.tuple #[.int .i64 (((rn 16 r).2.1 : Nat) - 32768 : Int), .bool (rn 16 r).1]) ∧ Rd w w' p s (rn 16 r).2.2 := by
  have hq := rnumber_any p k 16 r s w hR ha hs (by omega)
  have hlt := rn_lt 16 r ha.bits
  generalize rn 16 r = R at *
  obtain ⟨ok, X, r'⟩ := R
  simp only at hq hlt ⊢
  have hX : X < 65536 := by simpa using hlt
  have w1 : IntKind.i64.wrap ((X : Int) - 32767) = (X : Int) - 32767 := wid (by omega) (by omega)
  have w2 : IntKind.i64.wrap ((X : Int) - 32767 - 1) = (X : Int) - 32768 := by rw [wid (by omega) (by omega)]; omega
  clear hlt hR ha
  go_enter Try.func62, Try.ntmps62
  go_wp2_with fail
  refine hq.mono ?_
  rintro e w1' ⟨rfl, hd⟩
  clear hq
  go_wp2_with (simp only [w1, w2])
  go_returns
  exact ⟨by first | rfl | (congr 4; omega), hd⟩
theorem Rt.blk {w w' : World} {p k : Nat} {s : ByteArray} (h : Rt w p s k) (hb : w'.heap[p]? = w.heap[p]?) (hz : w.heap.size ≤ w'.heap.size) : Rt w' p s k :=
  ⟨Nat.lt_of_lt_of_le h.lt hz, (World.cell?_of_block (w := w) (w' := w') (a := ⟨p, 0, none⟩) hb).trans h.c0, (World.cell?_of_block (w := w) (w' := w') (a := ⟨p, 1, none⟩) hb).trans h.c1, (World.frozen?_of_block (w := w) (w' := w') (a := ⟨p, 1, none⟩) hb).trans h.f1⟩
set_option maxHeartbeats 4000000 in
theorem code_any (p k : Nat) (r : List Nat) (s : ByteArray) (w : World) (hR : Rt w p s k) (ha : At s k r) (hs : s.size ≤ 140737488355328) :
    Calls Try.prog 61 #[.pointer (some ⟨p, 0, none⟩)] w fun e w' => e = .returned (.tuple #[.agg #[.int .i64 (((rn 6 r).2.1 / 16 : Nat) : Int), .int .i64 (((rn 6 r).2.1 % 16 : Nat) : Int)], .bool (rn 6 r).1]) ∧ Rd w w' p s (rn 6 r).2.2 := by
  obtain ⟨w0, hw0⟩ : ∃ w0, w0 = w.alloc (.cells #[.int .i64 0, .int .i64 0] 70) := ⟨_, rfl⟩
  have hb0 : Below w.heap.size w w0 := by rw [hw0]; exact (Below.refl _ _).alloc (Nat.le_refl _) _
  have C0 : CD w0 w.heap.size 0 0 := by rw [hw0]; exact ⟨by simp [go_sem], by simp [go_sem], by simp [go_sem], by simp [go_sem]⟩
  have hq := rnumber_any p k 6 r s w0 (hR.step hb0) ha hs (by omega)
  have hlt := rn_lt 6 r ha.bits
  have hpl := hR.lt
  have HT0 : Hid (TK w p w0) := TK.below hb0 hpl
  generalize rn 6 r = R at *
  obtain ⟨ok, X, r'⟩ := R
  simp only at hq hlt ⊢
  have hX : X < 64 := by simpa using hlt
  have hm : Int.tmod (X : Int) 16 = ((X % 16 : Nat) : Int) := by rw [Int.tmod_eq_emod_of_nonneg (by omega)]; omega
  have hb : w.heap.size ≠ p := by omega
  clear hlt hR ha
  go_enter Try.func61, Try.ntmps61
  go_wp2_with fail
  rw [← hw0]
  have C1 : ∀ w1, Rd w0 w1 p s r' → CD w1 w.heap.size 0 0 := fun w1 h => C0.keep (h.tk.blk _ C0.lt hb)
  clear hw0
  refine hq.mono ?_
  rintro e w1 ⟨rfl, hd⟩
  have C1 := C1 w1 hd
  have d0 := C1.c0
  have d1 := C1.c1
  have g0 := C1.f0
  have g1 := C1.f1
  have lx := C1.lt
  have HC1 : Hid (CD w1 w.heap.size 0 0) := C1
  have HD : Hid (Rd w0 w1 p s r') := hd
  clear hq hb0 C0 C1 hd
  go_wp2_with fail
  have e1 : (X : Int) / 16 = ((X / 16 : Nat) : Int) := by omega
  have e2 : (X : Int) % 16 = ((X % 16 : Nat) : Int) := by omega
  rw [e1, e2]
  have P1 := HC1.out.put (X / 16) (X % 16)
  have hRd : Rd w ((w1.setCell ⟨w.heap.size, 0, none⟩ (.int .i64 ((X / 16 : Nat) : Int))).setCell ⟨w.heap.size, 1, none⟩ (.int .i64 ((X % 16 : Nat) : Int))) p s r' := by
    obtain ⟨j, h1, h2⟩ := HD.out.at'
    have ht := HT0.out.trans HD.out.tk
    refine ⟨⟨j, h1.blk (put_blk _ _ _ _ _ (by omega)) (by simp [World.setCell]), h2⟩, ⟨ht.bel.trans (put_bel _ _ _ _ _ (by omega)), fun b b1 b2 => ?_⟩⟩
    rw [put_blk _ _ _ _ _ (by omega)]
    exact ht.blk b b1 b2
  generalize ((w1.setCell ⟨w.heap.size, 0, none⟩ (.int .i64 ((X / 16 : Nat) : Int))).setCell ⟨w.heap.size, 1, none⟩ (.int .i64 ((X % 16 : Nat) : Int))) = W at *
  have p0 := P1.c0
  have p1 := P1.c1
  have lW := P1.lt
  refine bodyPost_ret (v := .tuple #[.agg #[.int .i64 ((X / 16 : Nat) : Int), .int .i64 ((X % 16 : Nat) : Int)], .bool ok]) (by simp [results, Try.results61, go_sem, p0, p1, lW]) rfl ⟨rfl, hRd⟩
set_option maxHeartbeats 4000000 in
theorem unfold_any (m : Nat) (w : World) (hm : m ≤ 1099511627776) :
    Calls Try.prog 72 #[.int .i64 (m : Int)] w fun e w' => e = .returned (.int .i64 (un m)) ∧ w' = w := by
  by_cases c : m % 2 = 1
  · have e : un m = -(((m + 1) / 2 : Nat) : Int) := by unfold un; rw [if_pos c]
    rw [e]
    obtain ⟨q, hq⟩ : ∃ q, q = (m + 1) / 2 := ⟨_, rfl⟩
    rw [← hq]
    obtain rfl : m = 2 * q - 1 := by omega
    obtain ⟨z, rfl⟩ : ∃ z, q = z + 1 := ⟨q - 1, by omega⟩
    have e2 : 2 * (z + 1) - 1 = 2 * z + 1 := by omega
    rw [e2]
    have h1 : Int.tmod ((2 * z + 1 : Nat) : Int) 2 = 1 := by rw [Int.tmod_eq_emod_of_nonneg (by omega)]; omega
    have h1' : (2 * (z : Int) + 1) % 2 = 1 := by omega
    have w1 : IntKind.i64.wrap (2 * (z : Int) + 1 + 1) = 2 * (z : Int) + 2 := by rw [wid (by omega) (by omega)]; omega
    have w2 : IntKind.i64.wrap (-(2 * (z : Int) + 2)) = -(2 * (z : Int) + 2) := wid (by omega) (by omega)
    have h3 : Int.tdiv (-(2 * (z : Int) + 2)) 2 = -((z : Int) + 1) := by
      rw [show -(2 * (z : Int) + 2) = 2 * (-((z : Int) + 1)) by omega, Int.mul_tdiv_cancel_left _ (by omega)]
    clear hq c e e2
    go_enter Try.func72, Try.ntmps72
    go_wp2_with (simp only [w1, w2, h3])
    go_ret
    exact ⟨congrArg Ending.returned (by go_num), rfl⟩
  · have e : un m = ((m / 2 : Nat) : Int) := by unfold un; rw [if_neg c]
    rw [e]
    have h1 : ¬ (m : Int) % 2 = 1 := by omega
    clear e
    go_enter Try.func72, Try.ntmps72
    go_wp2_with fail
    go_ret
    exact ⟨rfl, rfl⟩
theorem div_pow_cast (m k : Nat) : ((m : Int) / 2 ^ k) = ((m / 2 ^ k : Nat) : Int) := by push_cast; rfl
theorem pow_le15 (k : Nat) (h : k ≤ 15) : 2 ^ k ≤ 32768 := Nat.pow_le_pow_right (n := 2) (by omega) h
set_option maxHeartbeats 8000000 in
theorem rfolded_any (p k key : Nat) (r : List Nat) (s : ByteArray) (w : World) (hR : Rt w p s k) (ha : At s k r) (hs : s.size ≤ 140737488355328) (hk : key ≤ 15) :
    Calls Try.prog 71 #[.pointer (some ⟨p, 0, none⟩), .int .i64 (key : Int)] w fun e w' => e = .returned (.tuple #[.int .i64 (((rf key (524288 / 2 ^ key) 0 r).2.1 : Nat) : Int), .bool (rf key (524288 / 2 ^ key) 0 r).1]) ∧ Rd w w' p s (rf key (524288 / 2 ^ key) 0 r).2.2 := by
  obtain ⟨G, hG⟩ : ∃ G, G = 524288 / 2 ^ key := ⟨_, rfl⟩
  rw [← hG]
  obtain ⟨P, hP⟩ : ∃ P, P = 2 ^ key := ⟨_, rfl⟩
  have hPb := pow_le15 key hk
  have hP0 := Nat.two_pow_pos key
  rw [← hP] at hG hPb hP0
  have hGP : G * P ≤ 524288 := by rw [hG]; exact Nat.div_mul_le_self _ _
  have hGb : G ≤ 524288 := by rw [hG]; exact Nat.div_le_self _ _
  have eG : (524288 : Int) / 2 ^ key = (G : Int) := by rw [hG, hP]; exact div_pow_cast 524288 key
  obtain ⟨R, hR0⟩ : ∃ R, R = rf key G 0 r := ⟨_, rfl⟩
  rw [← hR0]
  have HR0 : Hid (R = rf key G 0 r) := hR0
  have HP : Hid (P = 2 ^ key) := hP
  have H0 : Hid (Rd w w p s r) := ⟨⟨k, hR, ha⟩, TK.refl _ _⟩
  clear hG hP hR0 hR ha
  go_enter Try.func71, Try.ntmps71
  go_wp2_with (simp only [eG])
  go_loopw [13] (fun i wr => ∃ (j : Nat) (r' : List Nat), j ≤ G ∧ i = .int .i64 (j : Int) ∧ Hid (R = rf key (G - j) j r') ∧ Hid (Rd w wr p s r')) (fun i _ => G - (intOf i).toNat)
  case atStart => exact ⟨0, r, by omega, rfl, HR0, H0⟩
  case round =>
    obtain ⟨j, r', hj, rfl, hE, hRd⟩ := hrel
    obtain ⟨kk, hRt, hAt⟩ := hRd.out.at'
    have HT : Hid (TK w p wr) := hRd.out.tk
    by_cases hlt : j < G
    · have hlt' : (j : Int) < (G : Int) := by omega
      obtain ⟨g, hg⟩ : ∃ g, G - j = g + 1 := ⟨G - j - 1, by omega⟩
      have hg2 : G - (j + 1) = g := by omega
      have w3 : IntKind.i64.wrap ((j : Int) + 1) = (j : Int) + 1 := wid (by omega) (by omega)
      cases r' with
      | nil =>
        have HE : Hid (R = (false, 0, [])) := by show _ = _; rw [hE.out, hg]; rfl
        have hq := rbit_none p kk s wr hRt hAt hs
        clear hE hRd hRt hAt HR0 H0
        go_wp2_with fail
        refine hq.mono ?_
        rintro e w3 ⟨rfl, hRd3⟩
        have HRd3 : Hid (Rd wr w3 p s []) := hRd3
        clear hq hRd3
        go_wp2_with fail
        go_returns
        exact ⟨by rw [HE.out]; rfl, by rw [HE.out]; exact ⟨HRd3.out.at', HT.out.trans HRd3.out.tk⟩⟩
      | cons b t =>
        have hq := rbit_some p kk b t s wr hRt hAt hs
        have hbb := hAt.bits.tail
        by_cases hb : b = 0
        · have HE : Hid (R = ((rn key t).1, j * 2 ^ key + (rn key t).2.1, (rn key t).2.2)) := by
            show _ = _
            rw [hE.out, hg]
            show (if b = 0 then _ else _) = _
            rw [if_pos hb]
          subst hb
          have hnx : ∀ w3, Rd wr w3 p s t → Calls Try.prog 40 #[.pointer (some ⟨p, 0, none⟩), .int .i64 (key : Int)] w3 fun e w' => e = .returned (.tuple #[.int .i64 (((rn key t).2.1 : Nat) : Int), .bool (rn key t).1]) ∧ Rd w3 w' p s (rn key t).2.2 := fun w3 h => by
            obtain ⟨j3, g1, g2⟩ := h.at'
            exact rnumber_any p j3 key t s w3 g1 g2 hs (by omega)
          have hxl := rn_lt key t hbb
          rw [← HP.out] at hxl
          have HEE : Hid (R = ((rn key t).1, j * P + (rn key t).2.1, (rn key t).2.2)) := by rw [HP.out]; exact HE
          generalize rn key t = RN at *
          obtain ⟨ok, X, r2⟩ := RN
          simp only at hnx hxl HEE
          have hjP : j * P + P ≤ 524288 := by
            have : (j + 1) * P ≤ G * P := Nat.mul_le_mul_right _ (by omega)
            rw [Nat.add_mul] at this; omega
          obtain ⟨Z, hZ⟩ : ∃ Z, Z = j * P := ⟨_, rfl⟩
          have eZ : (j : Int) * 2 ^ key = (Z : Int) := by rw [hZ, HP.out]; push_cast; rfl
          rw [← hZ] at hjP HEE
          have w4 : IntKind.i64.wrap (Z : Int) = (Z : Int) := wid (by omega) (by omega)
          have w5 : IntKind.i64.wrap ((Z : Int) + (X : Int)) = (Z : Int) + (X : Int) := wid (by omega) (by omega)
          have w6 : wrap64 (Z : Int) = (Z : Int) := by unfold wrap64; omega
          clear hE hRd hRt hAt HR0 H0 HE hZ
          go_wp2_with fail
          refine hq.mono ?_
          rintro e w3 ⟨rfl, hRd3⟩
          have hq2 := hnx w3 hRd3
          have HRd3 : Hid (Rd wr w3 p s t) := hRd3
          clear hq hRd3 hnx
          go_wp2_with fail
          refine hq2.mono ?_
          rintro e w7 ⟨rfl, hRd7⟩
          have HRd7 : Hid (Rd w3 w7 p s r2) := hRd7
          clear hq2 hRd7
          go_wp2_with (simp only [eZ, w6])
          go_returns
          exact ⟨by rw [HEE.out]; go_num, by rw [HEE.out]; exact ⟨HRd7.out.at', (HT.out.trans HRd3.out.tk).trans HRd7.out.tk⟩⟩
        · have HE : Hid (R = rf key g (j + 1) t) := by
            show _ = _
            rw [hE.out, hg]
            show (if b = 0 then _ else _) = _
            rw [if_neg hb]
          have hb1 : b = 1 := by have := hAt.bits b (List.mem_cons_self ..); omega
          subst hb1
          clear hE hRd hRt hAt HR0 H0 hb
          go_wp2_with fail
          refine hq.mono ?_
          rintro e w3 ⟨rfl, hRd3⟩
          have HRd3 : Hid (Rd w w3 p s t) := ⟨hRd3.at', HT.out.trans hRd3.tk⟩
          clear hq hRd3
          go_wp2_with fail
          go_roundw
          case rel => exact ⟨j + 1, t, by omega, by go_num, by rw [hg2]; exact HE, HRd3⟩
          case measure => simp [intOf]; omega
    · have hjG : j = G := by omega
      subst hjG
      have hlt' : ¬ (j : Int) < (j : Int) := by omega
      have HE : Hid (R = (false, 0, r')) := by show _ = _; rw [hE.out, Nat.sub_self]; rfl
      clear hE hRt hAt HR0 H0
      go_wp2_with fail
      go_returns
      exact ⟨by rw [HE.out]; rfl, by rw [HE.out]; exact hRd.out⟩
end Go.Proofs.Ytdlcnbfiklbiiaa.Co
