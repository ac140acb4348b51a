/- The document's Encode, at every list. -/
import Derived.Test.YtdlcnbfiklbiiaaCo32
import Derived.Test.YtdlcnbfiklbiiaaCo24
namespace Go.Proofs.Ytdlcnbfiklbiiaa.Co
open Go.RowKit Go.Maps Go.Sort
set_option linter.unusedVariables false
set_option linter.unusedSimpArgs false

set_option maxRecDepth 8000 in
set_option maxHeartbeats 8000000 in
theorem refEncode_any (l : List Int) (ao : Option Addr) (n c : Nat) (w : World) (hI : IL w (fun b => b < w.heap.size) ao l) (hn : l.length = n) (hc : n ≤ c) (hc2 : c ≤ 9223372036854775807) :
    Calls Try.prog 18 #[.slice ao n c] w fun e w' => e = .returned (.tuple #[.string (bt (eb l)), .int .i64 (ee l)]) ∧ Below w.heap.size w w' := by
  have HI : Hid (IL w (fun b => b < w.heap.size) ao l) := hI
  have HN : Hid (l.length = n) := hn
  obtain ⟨EE, hEE⟩ : ∃ EE, EE = ee l := ⟨_, rfl⟩
  obtain ⟨EB, hEB⟩ : ∃ EB, EB = bt (eb l) := ⟨_, rfl⟩
  rw [← hEE, ← hEB]
  have HE : Hid (EE = ee l ∧ EB = bt (eb l)) := ⟨hEE, hEB⟩
  clear hI hn hEE hEB
  by_cases hbig : 1048576 < n
  · have e1 : ee l = 5 := by unfold ee; rw [if_pos (by rw [HN.out]; exact hbig)]
    have e2 : bt (eb l) = ⟨#[]⟩ := by unfold eb; rw [e1, if_neg (by decide)]; rfl
    have HE5 : Hid (EE = 5 ∧ EB = ⟨#[]⟩) := ⟨by rw [HE.out.1, e1], by rw [HE.out.2, e2]⟩
    have hbig' : (1048576 : Int) < (n : Int) := by omega
    clear e1 e2 HE
    go_enter Try.func18, Try.ntmps18
    go_wp2_with fail
    go_returns
    exact ⟨by rw [HE5.out.1, HE5.out.2]; rfl, Below.refl _ _⟩
  · have hbig' : ¬ (1048576 : Int) < (n : Int) := by omega
    go_enter Try.func18, Try.ntmps18
    go_wp2_with fail
    go_loopw [18] (fun i wr => ∃ j : Nat, j ≤ n ∧ i = .int .i64 (j : Int) ∧ wr = w ∧ Hid ((l.take j).all sok = true)) (fun i _ => n - (intOf i).toNat)
    case atStart => exact ⟨0, by omega, rfl, rfl, rfl⟩
    case round =>
      obtain ⟨j, hj, rfl, hwr, hA⟩ := hrel
      subst hwr
      by_cases hlt : j < n
      · have hlt' : (j : Int) < (n : Int) := by omega
        obtain ⟨x, hx⟩ : ∃ x, l[j]? = some x := ⟨_, List.getElem?_eq_getElem (by rw [HN.out]; exact hlt)⟩
        obtain ⟨b, off, rfl, lb, _, cc⟩ := HI.out.at' (by rw [HN.out]; omega)
        have cx := cc j x hx
        have hsn : (l.take (j + 1)).all sok = sok x := by
          rw [List.take_add_one, hx, List.all_append, hA.out]; simp
        have w3 : IntKind.i64.wrap ((j : Int) + 1) = (j : Int) + 1 := wid (by omega) (by omega)
        have hno : ¬ sok x = true → EE = 3 ∧ EB = ⟨#[]⟩ := fun hk => by
          have hal : ¬ l.all sok = true := fun h => hk (List.all_eq_true.1 h x (List.mem_of_getElem? hx))
          have e1 : ee l = 3 := by unfold ee; rw [if_neg (by rw [HN.out]; omega), if_neg hal]
          have e2 : bt (eb l) = ⟨#[]⟩ := by unfold eb; rw [e1, if_neg (by decide)]; rfl
          exact ⟨by rw [HE.out.1, e1], by rw [HE.out.2, e2]⟩
        by_cases h1 : x < -32768
        · have HE3 : Hid (EE = 3 ∧ EB = ⟨#[]⟩) := hno (fun h => by have := (sok_iff x).1 h; unfold inR at this; omega)
          clear cc hx hA hsn hno
          go_wp2_with fail
          go_returns
          exact ⟨by rw [HE3.out.1, HE3.out.2]; rfl, Below.refl _ _⟩
        · by_cases h2 : 32767 < x
          · have HE3 : Hid (EE = 3 ∧ EB = ⟨#[]⟩) := hno (fun h => by have := (sok_iff x).1 h; unfold inR at this; omega)
            clear cc hx hA hsn hno
            go_wp2_with fail
            go_returns
            exact ⟨by rw [HE3.out.1, HE3.out.2]; rfl, Below.refl _ _⟩
          · have HA : Hid ((l.take (j + 1)).all sok = true) := by show _ = _; rw [hsn]; exact (sok_iff x).2 ⟨by omega, by omega⟩
            clear cc hx hA hsn hno
            go_wp2_with fail
            go_roundw
            case rel => exact ⟨j + 1, by omega, by go_num, by first | rfl | trivial, HA⟩
            case measure => simp [intOf]; omega
      · obtain rfl : j = n := by omega
        have hlt' : ¬ (j : Int) < (j : Int) := by omega
        have hA2 : l.all sok = true := by have := hA.out; rwa [List.take_of_length_le (by rw [HN.out]; omega)] at this
        have HR : Hid (∀ x ∈ l, inR x) := fun x hx => (sok_iff x).1 (List.all_eq_true.1 hA2 x hx)
        have e1 : ee l = 0 := by unfold ee; rw [if_neg (by rw [HN.out]; omega), if_pos hA2]
        have HE0 : Hid (EE = 0 ∧ EB = bt (pk (en l))) := ⟨by rw [HE.out.1, e1], by rw [HE.out.2]; unfold eb; rw [if_pos e1]⟩
        obtain ⟨w0, hw0⟩ : ∃ y, y = wr := ⟨_, rfl⟩
        subst hw0
        clear HE hA hA2 e1
        go_wp2_with fail
        refine (bitsN j 24 w0 (by omega) (by omega)).mono ?_
        rintro e w1 ⟨v1, rfl, hv1, hb1⟩
        have HV1 : Hid (NB w1 w0.heap.size v1 (bn j 24)) := hv1
        have HB1 : Hid (Below w0.heap.size w0 w1) := hb1
        clear hv1 hb1
        go_wp2_with fail
        go_loopw [7, 6] (fun i v wr => ∃ (t : Nat), t ≤ nf l ∧ i = .int .i64 ((256 * t : Nat) : Int) ∧ Hid (NB wr w0.heap.size v (bn j 24 ++ fz l t)) ∧ Hid (Below w0.heap.size w0 wr)) (fun i _ _ => j + 256 - (intOf i).toNat)
        case atStart => exact ⟨0, by omega, rfl, by show NB _ _ _ _; simpa [fz] using HV1.out, HB1⟩
        case round =>
          obtain ⟨t, ht, rfl, hV, hB⟩ := hrel
          have hnf : nf l = (j + 255) / 256 := by unfold nf; rw [HN.out]
          by_cases hlt : 256 * t < j
          · obtain ⟨I, hI⟩ : ∃ I, I = 256 * t := ⟨_, rfl⟩
            rw [← hI] at hlt ⊢
            have hlt' : (I : Int) < (j : Int) := by omega
            have hci := ch_in l HR.out t
            have hst : Hid (bn j 24 ++ fz l t ++ fr (ch l t) (be (ch l t)).1 (be (ch l t)).2 = bn j 24 ++ fz l (t + 1)) := by
              show _ = _
              rw [fz_step, List.append_assoc]; rfl
            have hce : ((l.drop I).take 256) = ch l t := by unfold ch; rw [hI]
            have HIc : Hid (IL w0 (fun b => b < w0.heap.size) (frm ao I c) (ch l t)) := by
              show IL _ _ _ _
              rw [← hce]
              exact (HI.out.drop I c (by rw [HN.out]; exact hc)).take 256
            obtain ⟨m, hm⟩ : ∃ m, m = min 256 (j - I) := ⟨_, rfl⟩
            have hcl : (ch l t).length = m := by rw [hm, ← hce, List.length_take, List.length_drop, HN.out]
            have hbsok : ∀ q, q ≤ 64 → (bs (ch l t) q).1 < 4 ∧ (bs (ch l t) q).2 < 16 := fun q hq => bs_ok _ q hq
            obtain ⟨f, hf⟩ : ∃ f, f = ch l t := ⟨_, rfl⟩
            rw [← hf] at hci hst HIc hcl hbsok
            have HF : Hid ((∀ x ∈ f, inR x) ∧ f.length = m) := ⟨hci.1, hcl⟩
            have HBk : Hid (∀ q, q ≤ 64 → (bs f q).1 < 4 ∧ (bs f q).2 < 16) := hbsok
            have hm256 : m ≤ 256 := by omega
            have hfl : (bn j 24 ++ fz l t).length ≤ 34000000 := by
              rw [List.length_append, bn_len]
              have h := flat_len l HR.out (List.range t)
              rw [List.length_range] at h
              have h2 : (fz l t).length ≤ t * 8198 := h
              omega
            have hlb : (fr f (be f).1 (be f).2).length ≤ 8198 := by
              have h := fx_len f hci.1 (by omega)
              exact h
            have s1 : ∀ W : World, (Instr.slice 23 (.slice ao j c) (some (.int .i64 (I : Int))) none none).run Try.prog W = .ok (.slice (frm ao I c) (j - I) (c - I)) W := fun W => run_from ao j c I (by omega) W
            have w2' : IntKind.i64.wrap ((I : Int) + 256) = ((I + 256 : Nat) : Int) := by rw [wid (by omega) (by omega)]; omega
            have HII : Hid (I = 256 * t) := hI
            have htn : t + 1 ≤ nf l := by rw [hnf]; omega
            obtain ⟨bb, hbb⟩ : ∃ bb, bb = bn j 24 ++ fz l t := ⟨_, rfl⟩
            rw [← hbb] at hV hst hfl
            have hmc : m ≤ c - I := by omega
            have hcI : c - I ≤ 9223372036854775807 := by omega
            clear hI hnf hce hf hci hcl hbsok hbb
            generalize frm ao I c = FA at *
            by_cases hbg : 256 < j - I
            case' pos =>
              have hbg' : (256 : Int) < ((j - I : Nat) : Int) := by omega
              have s2 : ∀ W : World, (Instr.slice 23 (.slice FA (j - I) (c - I)) none (some (.int .i64 256)) none).run Try.prog W = .ok (.slice FA 256 (c - I)) W := fun W => run_upto FA (j - I) (c - I) 256 (by omega) W
              have hm2 : m = 256 := by omega
              clear hm
              subst hm2
              obtain ⟨w5, hw5⟩ : ∃ y, y = wr := ⟨_, rfl⟩
              subst hw5
              obtain ⟨v5, hv5⟩ : ∃ y, y = u6 := ⟨_, rfl⟩
              rw [← hv5] at hV ⊢
              clear hv5
              go_wp2_with fail
            case' neg =>
              have hbg' : ¬ (256 : Int) < ((j - I : Nat) : Int) := by omega
              have hmn : m = j - I := by omega
              rw [← hmn] at s1 hbg hbg'
              clear hm hmn
              obtain ⟨w5, hw5⟩ : ∃ y, y = wr := ⟨_, rfl⟩
              subst hw5
              obtain ⟨v5, hv5⟩ : ∃ y, y = u6 := ⟨_, rfl⟩
              rw [← hv5] at hV ⊢
              clear hv5
              go_wp2_with fail
            all_goals
              go_loopw [11, 9, 10] (fun i a b wr => ∃ (r : Nat), r ≤ 4 ∧ i = .int .i64 (r : Int) ∧ a = .int .i64 ((bs f (16 * r)).1 : Nat) ∧ b = .int .i64 ((bs f (16 * r)).2 : Nat) ∧ Hid (Below w5.heap.size w5 wr)) (fun i _ _ _ => 4 - (intOf i).toNat)
              case atStart => exact ⟨0, by omega, rfl, rfl, rfl, Below.refl _ _⟩
              case round =>
                obtain ⟨r, hr4, rfl, rfl, rfl, hBr⟩ := hrel
                have hB5 : Hid (Below w0.heap.size w0 wr) := hB.out.trans (hBr.out.mono hB.out.size)
                by_cases hr : r < 4
                · have hr' : (r : Int) < 4 := by omega
                  have w4' : IntKind.i64.wrap ((r : Int) + 1) = (r : Int) + 1 := wid (by omega) (by omega)
                  obtain ⟨A0, hA0⟩ : ∃ A0, A0 = (bs f (16 * r)).1 := ⟨_, rfl⟩
                  obtain ⟨B0, hB0⟩ : ∃ B0, B0 = (bs f (16 * r)).2 := ⟨_, rfl⟩
                  have HAB : Hid (A0 = (bs f (16 * r)).1 ∧ B0 = (bs f (16 * r)).2) := ⟨hA0, hB0⟩
                  rw [← hA0, ← hB0]
                  obtain ⟨w7, hw7⟩ : ∃ y, y = wr := ⟨_, rfl⟩
                  subst hw7
                  clear hA0 hB0
                  go_wp2_with fail
                  go_loopw [12, 9, 10] (fun i a b wr => ∃ (q A B : Nat), q ≤ 16 ∧ i = .int .i64 (q : Int) ∧ a = .int .i64 (A : Int) ∧ b = .int .i64 (B : Int) ∧ Hid (A = (bs f (16 * r + q)).1 ∧ B = (bs f (16 * r + q)).2) ∧ Hid (Below w5.heap.size w5 wr)) (fun i _ _ _ => 16 - (intOf i).toNat)
                  case atStart => exact ⟨0, A0, B0, by omega, rfl, rfl, rfl, by rw [Nat.add_zero]; exact HAB, hBr⟩
                  case round =>
                    obtain ⟨q, A, B, hq16, rfl, rfl, rfl, hAB, hBq⟩ := hrel
                    by_cases hq : q < 16
                    · have hq' : (q : Int) < 16 := by omega
                      have w5' : IntKind.i64.wrap ((q : Int) + 1) = (q : Int) + 1 := wid (by omega) (by omega)
                      have hok := HBk.out (16 * r + q) (by omega)
                      rw [← hAB.out.1, ← hAB.out.2] at hok
                      have hILf : ∀ w', Below w0.heap.size w0 w' → IL w' (fun b => b < w0.heap.size) FA f := fun w' h => HIc.out.bel h
                      have hB6 : Below w0.heap.size w0 wr := hB.out.trans (hBq.out.mono hB.out.size)
                      have hq1 := long_any f _ FA _ (c - I) r q wr (hILf wr hB6) (fun b hb => by have := hB6.size; omega) HF.out.2 hmc hcI HF.out.1 (by omega) (by omega) (by omega)
                      have hq2 : ∀ w', Below wr.heap.size wr w' → _ := fun w' h => long_any f _ FA _ (c - I) A B w' (hILf w' (hB6.trans (h.mono hB6.size))) (fun b hb => by have := hB6.size; have := h.size; omega) HF.out.2 hmc hcI HF.out.1 (by omega) (by omega) (by omega)
                      have hl1 := lg_le f HF.out.1 (by rw [HF.out.2]; omega) r q (by omega)
                      have hl2 := lg_le f HF.out.1 (by rw [HF.out.2]; omega) A B (by omega)
                      have hbstep : bs f (16 * r + (q + 1)) = if lg f r q < lg f A B then (r, q) else (A, B) := by
                        have e : bs f (16 * r + q + 1) = if lg f ((16 * r + q) / 16) ((16 * r + q) % 16) < lg f (bs f (16 * r + q)).1 (bs f (16 * r + q)).2 then ((16 * r + q) / 16, (16 * r + q) % 16) else bs f (16 * r + q) := rfl
                        rw [show 16 * r + (q + 1) = 16 * r + q + 1 by omega, e, show (16 * r + q) / 16 = r by omega, show (16 * r + q) % 16 = q by omega, hAB.out.1, hAB.out.2]
                      obtain ⟨L1, hL1⟩ : ∃ L1, L1 = 6 + lg f r q := ⟨_, rfl⟩
                      obtain ⟨L2, hL2⟩ : ∃ L2, L2 = 6 + lg f A B := ⟨_, rfl⟩
                      rw [← hL1] at hq1
                      have hq2' : ∀ w', Below wr.heap.size wr w' → Calls Try.prog 37 #[.slice FA _ (c - I), .int .i64 (A : Int), .int .i64 (B : Int)] w' fun e w'' => e = .returned (.int .i64 (L2 : Int)) ∧ Below w'.heap.size w' w'' := fun w' h => by rw [hL2]; exact hq2 w' h
                      have HBS : Hid (bs f (16 * r + (q + 1)) = if L1 < L2 then (r, q) else (A, B)) := by
                        show _ = _
                        rw [hbstep, hL1, hL2]
                        by_cases z : lg f r q < lg f A B
                        · rw [if_pos z, if_pos (by omega)]
                        · rw [if_neg z, if_neg (by omega)]
                      clear hbstep hL1 hL2 hl1 hl2 hILf hok hAB hq2
                      have HBq : Hid (Below w5.heap.size w5 wr) := hBq
                      clear hBq hB6
                      by_cases hcmp : L1 < L2
                      · have hcmp' : (L1 : Int) < (L2 : Int) := by omega
                        have HY : Hid (bs f (16 * r + (q + 1)) = (r, q)) := by show _ = _; rw [HBS.out, if_pos hcmp]
                        clear HBS
                        go_wp2_with fail
                        refine hq1.mono ?_
                        rintro e w8 ⟨rfl, hb8⟩
                        have hqn := hq2' w8 hb8
                        have HB8 : Hid (Below w5.heap.size w5 w8) := HBq.out.trans (hb8.mono HBq.out.size)
                        clear hq1 hq2' hb8
                        go_wp2_with fail
                        refine hqn.mono ?_
                        rintro e w9 ⟨rfl, hb9⟩
                        have HB9 : Hid (Below w5.heap.size w5 w9) := HB8.out.trans (hb9.mono HB8.out.size)
                        clear hqn hb9
                        go_wp2_with fail
                        go_roundw
                        case rel => exact ⟨q + 1, r, q, by omega, by go_num, rfl, rfl, by rw [HY.out]; exact ⟨rfl, rfl⟩, HB9⟩
                        case measure => simp [intOf]; omega
                      · have hcmp' : ¬ (L1 : Int) < (L2 : Int) := by omega
                        have HY : Hid (bs f (16 * r + (q + 1)) = (A, B)) := by show _ = _; rw [HBS.out, if_neg hcmp]
                        clear HBS
                        go_wp2_with fail
                        refine hq1.mono ?_
                        rintro e w8 ⟨rfl, hb8⟩
                        have hqn := hq2' w8 hb8
                        have HB8 : Hid (Below w5.heap.size w5 w8) := HBq.out.trans (hb8.mono HBq.out.size)
                        clear hq1 hq2' hb8
                        go_wp2_with fail
                        refine hqn.mono ?_
                        rintro e w9 ⟨rfl, hb9⟩
                        have HB9 : Hid (Below w5.heap.size w5 w9) := HB8.out.trans (hb9.mono HB8.out.size)
                        clear hqn hb9
                        go_wp2_with fail
                        go_roundw
                        case rel => exact ⟨q + 1, A, B, by omega, by go_num, rfl, rfl, by rw [HY.out]; exact ⟨rfl, rfl⟩, HB9⟩
                        case measure => simp [intOf]; omega
                    · have hqe : q = 16 := by omega
                      subst hqe
                      have e16 : 16 * r + 16 = 16 * (r + 1) := by omega
                      have hAB2 := hAB.out
                      rw [e16] at hAB2
                      have HAA : Hid (Value.int .i64 (A : Int) = .int .i64 ((bs f (16 * (r + 1))).1 : Nat) ∧ Value.int .i64 (B : Int) = .int .i64 ((bs f (16 * (r + 1))).2 : Nat)) := ⟨by rw [hAB2.1], by rw [hAB2.2]⟩
                      clear hAB hAB2 e16
                      go_wp2_with fail
                      go_roundw
                      case rel => exact ⟨r + 1, by omega, by go_num, HAA.out.1, HAA.out.2, hBq⟩
                      case measure => simp [intOf]; omega
                · have hre : r = 4 := by omega
                  subst hre
                  have ebe : bs f (16 * 4) = be f := rfl
                  rw [ebe]
                  have hbk := HBk.out 64 (by omega)
                  have hbk2 : (be f).1 < 4 ∧ (be f).2 < 16 := hbk
                  have hqf := rframeN f _ FA _ (c - I) (be f).1 (be f).2 wr (HIc.out.bel hB5.out) (fun b hb => by have := hB5.out.size; omega) HF.out.2 hmc hcI HF.out.1 (by omega) (by omega) (by omega)
                  obtain ⟨F2, hF2⟩ : ∃ F2, F2 = fr f (be f).1 (be f).2 := ⟨_, rfl⟩
                  rw [← hF2] at hqf hst hlb
                  obtain ⟨O, hO⟩ : ∃ O, O = (be f).1 := ⟨_, rfl⟩
                  obtain ⟨K, hK⟩ : ∃ K, K = (be f).2 := ⟨_, rfl⟩
                  rw [← hO, ← hK] at hqf ⊢
                  have HVr : Hid (NB wr w0.heap.size v5 bb) := hV.out.keep hBr.out
                  have hz0 := hB5.out.size
                  clear hbk hbk2 hF2 hO hK ebe hBr
                  go_wp2_with fail
                  refine hqf.mono ?_
                  rintro e w8 ⟨v8, rfl, hv8, hb8⟩
                  have hV8 := HVr.out.keep hb8
                  have hz8 := hb8.size
                  clear hqf
                  go_wp2_with (at_builtin; refine wpList_append_nts rfl (.tmp 65) (.tmp 69) rfl w0.heap.size wr.heap.size _ _ bb F2 rfl hV8 rfl hv8 (by omega) (by omega) ?_; intro v9 w9 k1 k2; have HV9 : Hid (NB w9 w0.heap.size v9 (bn j 24 ++ fz l (t + 1))) := (by rw [← hst.out]; exact k1); have HB9 : Hid (Below w0.heap.size w0 w9) := (hB5.out.trans (hb8.mono hz0)).trans (k2.bel (by omega) (fun q hq => own_block hV8 q hq)); clear k1 k2 hV8 hv8 hb8 HVr)
                  exact ⟨⟨t + 1, htn, by rw [HII.out]; go_num, HV9, HB9⟩, by simp [intOf]; omega⟩
          · have hte : t = nf l := by rw [hnf] at ht ⊢; omega
            have hlt' : ¬ ((256 * t : Nat) : Int) < (j : Int) := by omega
            have hen : bn j 24 ++ fz l t = en l := by unfold en; rw [hte, HN.out]
            rw [hen] at hV
            have hel : (en l).length ≤ 34000000 := by
              rw [← hen, List.length_append, bn_len]
              have h := flat_len l HR.out (List.range t)
              rw [List.length_range] at h
              have h2 : (fz l t).length ≤ t * 8198 := h
              omega
            obtain ⟨xa, xc, hxv, x1, x2, x3, x4⟩ := IL.own hV.out (nts_len _)
            have hb2 := en_b2 l
            have hlt2 : ∀ b, some b = u6.ownBlock → b < wr.heap.size := fun b hb => own_lt hV.out b hb.symm
            obtain ⟨EN, hEN⟩ : ∃ EN, EN = en l := ⟨_, rfl⟩
            rw [← hEN] at hel x1 x4 hb2 hxv HE0
            have hqb := bytes_any EN _ xa EN.length xc wr x4 hlt2 rfl x1 x2 hb2 (by omega)
            clear hen hEN hV x4 hlt2 hb2 hnf hte
            subst hxv
            go_wp2_with fail
            refine hqb.mono ?_
            rintro e w8 ⟨rfl, hb8⟩
            have HB8 : Hid (Below w0.heap.size w0 w8) := hB.out.trans (hb8.mono hB.out.size)
            clear hqb hb8
            generalize bt (pk EN) = Z at *
            go_wp2_with fail
            go_returns
            exact ⟨by rw [HE0.out.1, HE0.out.2]; rfl, HB8.out⟩
end Go.Proofs.Ytdlcnbfiklbiiaa.Co
