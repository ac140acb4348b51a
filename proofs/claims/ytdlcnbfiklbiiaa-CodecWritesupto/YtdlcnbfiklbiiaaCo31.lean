/- The document's Frame. -/
import Derived.Test.YtdlcnbfiklbiiaaCo30
namespace Go.Proofs.Ytdlcnbfiklbiiaa.Co
open Go.RowKit Go.Maps Go.Sort
set_option linter.unusedVariables false
set_option linter.unusedSimpArgs false

/-- Bits in a row of one's own. -/
def NB (w : World) (base : Nat) (v : Value) (l : List Nat) : Prop := w.ownsRow base 3 1 v l.length (ints (nts l))
theorem NB.keep {w w' : World} {base : Nat} {v : Value} {l : List Nat} (h : NB w base v l) (hb : Below w.heap.size w w') : NB w' base v l := own_step h (fun k hk => hb.block k (own_lt h k hk))
theorem NB.base {w : World} {base base' : Nat} {v : Value} {l : List Nat} (h : NB w base v l) (hb : base' ≤ base) : NB w base' v l := own_base h hb
theorem bitsN (N long : Nat) (w : World) (hN : N < 4611686018427387904) (hl : long ≤ 62) :
    Calls Try.prog 36 #[.int .i64 (N : Int), .int .i64 (long : Int)] w fun e w' => ∃ v, e = .returned v ∧ NB w' w.heap.size v (bn N long) ∧ Below w.heap.size w w' :=
  (bits_any N long w hN hl).mono fun e w' ⟨v, h1, h2, h3⟩ => ⟨v, h1, by unfold NB; rw [bn_len]; exact h2, h3⟩
theorem flat_fw_len (L : List Nat) (k j : Nat) : ((L.take j).flatMap fun x => fw x k).length ≤ fb L k := by
  rw [List.length_flatMap]
  unfold fb
  have e : ∀ l : List Nat, l.map (fun m => (fw m k).length) = l.map (fun m => m / 2 ^ k + (1 + k)) := fun l => List.map_congr_left (fun m _ => fw_len m k)
  rw [e]
  have e2 := congrArg List.sum (congrArg (List.map (fun m => m / 2 ^ k + (1 + k))) (List.take_append_drop j L))
  rw [List.map_append, List.sum_append] at e2
  omega
/-- Rows of other blocks, as a row of one's own grows. -/
theorem sep_step {w w1 w' : World} {u v v' : Value} (h : ∀ b, some b = u.ownBlock → b < w.heap.size ∧ some b ≠ v.ownBlock) (hb : Below w.heap.size w w1) (hg : Gw w1 w' v v') : (∀ b, some b = u.ownBlock → b < w'.heap.size ∧ some b ≠ v'.ownBlock) ∧ ∀ b, some b = u.ownBlock → w'.heap[b]? = w.heap[b]? := by
  have z1 := hb.size
  have z2 := hg.gr.size
  refine ⟨fun b q => ?_, fun b q => ?_⟩
  · obtain ⟨h1, h2⟩ := h b q
    refine ⟨by omega, fun e => ?_⟩
    rcases hg.ob with q2 | ⟨j, q2, hj⟩
    · rw [q2] at e; exact h2 e
    · rw [q2] at e; cases e; omega
  · obtain ⟨h1, h2⟩ := h b q
    rw [hg.gr.block b (by omega) h2, hb.block b h1]
set_option maxRecDepth 8000 in
set_option maxHeartbeats 8000000 in
theorem rframeN (f : List Int) (S : Nat → Prop) (xa : Option Addr) (n c o k : Nat) (w : World) (hI : IL w S xa f) (hS : ∀ b, S b → b < w.heap.size) (hn : f.length = n) (hc : n ≤ c) (hc2 : c ≤ 9223372036854775807) (hr : ∀ x ∈ f, inR x) (ho : o ≤ 3) (hk : k ≤ 15) (hn2 : n ≤ 256) :
    Calls Try.prog 38 #[.slice xa n c, .int .i64 (o : Int), .int .i64 (k : Int)] w fun e w' => ∃ v, e = .returned v ∧ NB w' w.heap.size v (fr f o k) ∧ Below w.heap.size w w' := by
  have HI : Hid (IL w S xa f) := hI
  have HS : Hid (∀ b, S b → b < w.heap.size) := hS
  have HR : Hid (∀ x ∈ f, inR x) := hr
  have HN : Hid (f.length = n) := hn
  clear hI hS hr hn
  go_enter Try.func38, Try.ntmps38
  go_wp2_with fail
  refine (bitsN o 2 w (by omega) (by omega)).mono ?_
  rintro e w1 ⟨v1, rfl, hv1, hb1⟩
  have HV1 : Hid (NB w1 w.heap.size v1 (bn o 2)) := hv1
  have HB1 : Hid (Below w.heap.size w w1) := hb1
  clear hv1 hb1
  go_wp2_with fail
  refine (bitsN k 4 w1 (by omega) (by omega)).mono ?_
  rintro e w2 ⟨v2, rfl, hv2, hb2⟩
  have hv1' := HV1.out.keep hb2
  have hz1 := HB1.out.size
  have hz2 := hb2.size
  have HB2 : Hid (Below w.heap.size w w2) := HB1.out.trans (hb2.mono hz1)
  clear hb2
  go_wp2_with (at_builtin; refine wpList_append_nts rfl (.tmp 13) (.tmp 15) rfl w.heap.size w1.heap.size _ _ (bn o 2) (bn k 4) rfl hv1' rfl hv2 (by rw [bn_len, bn_len]; omega) (by omega) ?_; intro v3 w3 k1 k2; have HV3 : Hid (NB w3 w.heap.size v3 (bn o 2 ++ bn k 4)) := k1; have HB3 : Hid (Below w.heap.size w w3) := HB2.out.trans (k2.bel (by omega) (fun q hq => own_block hv1' q hq)); have hz3 := k2.gr.size; clear k1 k2 hv1' hv2)
  obtain ⟨va3, vc3, rfl, g1, g2⟩ := own_form HV3.out
  obtain ⟨b0, hb0⟩ : ∃ b0, b0 = bn o 2 ++ bn k 4 := ⟨_, rfl⟩
  have Hb0 : Hid (b0 = bn o 2 ++ bn k 4) := hb0
  rw [← hb0] at HV3 g1 ⊢
  have hlb0 : b0.length = 6 := by rw [hb0, List.length_append, bn_len, bn_len]
  have HL0 : Hid (b0.length = 6) := hlb0
  rw [hlb0] at HV3 g1 ⊢
  clear hb0 HV1 HB1 HB2 hlb0
  have hmb : min o n ≤ 3 := by omega
  go_loopw [8, 7] (fun i v wr => ∃ (j : Nat), j ≤ min o n ∧ i = .int .i64 (j : Int) ∧ Hid (NB wr w.heap.size v (b0 ++ (f.take j).flatMap sw)) ∧ Hid (Below w.heap.size w wr)) (fun i _ _ => min o n - (intOf i).toNat)
  case atStart => exact ⟨0, by omega, rfl, by show NB _ _ _ _; simpa using HV3.out, HB3⟩
  case round =>
    obtain ⟨j, hj, rfl, hV, hB⟩ := hrel
    have hfl : ((f.take j).flatMap sw).length ≤ 64 := by
      rw [List.length_flatMap, show (f.take j).map (fun x => (sw x).length) = (f.take j).map (fun _ => 16) from List.map_congr_left (fun x _ => bn_len _ _), List.map_const', List.sum_replicate_nat, List.length_take]; omega
    by_cases hlt : j < min o n
    · have hjo : (j : Int) < (o : Int) := by omega
      have hjn : (j : Int) < (n : Int) := by omega
      have hjo' : j < o := by omega
      have hjn' : j < n := by omega
      obtain ⟨x, hx⟩ : ∃ x, f[j]? = some x := ⟨_, List.getElem?_eq_getElem (by rw [HN.out]; exact hjn')⟩
      have hxr := HR.out x (List.mem_of_getElem? hx)
      have hxr1 := hxr.1
      have hxr2 := hxr.2
      obtain ⟨b, off, rfl, lb, hbS, cc⟩ := (HI.out.bel hB.out).at' (by rw [HN.out]; omega)
      have cx := cc j x hx
      obtain ⟨y, hy⟩ : ∃ y : Nat, (y : Int) = x + 32768 := ⟨(x + 32768).toNat, by omega⟩
      have hst : Hid (b0 ++ (f.take j).flatMap sw ++ bn y 16 = b0 ++ (f.take (j + 1)).flatMap sw) := by
        show _ = _
        rw [List.take_add_one, hx, List.flatMap_append, List.append_assoc]
        show _ = _ ++ (_ ++ ([x] : List Int).flatMap sw)
        rw [List.flatMap_cons, List.flatMap_nil, List.append_nil]
        unfold sw
        rw [← hy]; rfl
      have w1' : IntKind.i64.wrap (x + 32768) = (y : Int) := by rw [hy, wid (by omega) (by omega)]
      have w3' : IntKind.i64.wrap ((j : Int) + 1) = (j : Int) + 1 := wid (by omega) (by omega)
      have hyb : y < 65536 := by omega
      obtain ⟨bj, hbj⟩ : ∃ bj, bj = b0 ++ (f.take j).flatMap sw := ⟨_, rfl⟩
      have hbl : bj.length ≤ 70 := by rw [hbj, List.length_append, HL0.out]; omega
      rw [← hbj] at hV hst
      clear cc hx hxr hfl hy hbj
      go_wp2_with (simp only [w1'])
      refine (bitsN y 16 wr (by omega) (by omega)).mono ?_
      rintro e w5 ⟨v5, rfl, hv5, hb5⟩
      have hV5 := hV.out.keep hb5
      have hz0 := hB.out.size
      have hz5 := hb5.size
      have HB5 : Hid (Below w.heap.size w w5) := hB.out.trans (hb5.mono hz0)
      clear hb5
      go_wp2_with (at_builtin; refine wpList_append_nts rfl (.tmp 28) (.tmp 34) rfl w.heap.size wr.heap.size _ _ bj (bn y 16) rfl hV5 rfl hv5 (by rw [bn_len]; omega) (by omega) ?_; intro v6 w6 k1 k2; have HV6 : Hid (NB w6 w.heap.size v6 (b0 ++ (f.take (j + 1)).flatMap sw)) := (by rw [← hst.out]; exact k1); have HB6 : Hid (Below w.heap.size w w6) := HB5.out.trans (k2.bel (by omega) (fun q hq => own_block hV5 q hq)); clear k1 k2 hV5 hv5 hV hB cx)
      go_roundw
      case rel => exact ⟨j + 1, by omega, by go_num, HV6, HB6⟩
      case measure => simp [intOf]; omega
    · have hjm : j = min o n := by omega
      have hbr : Hid ((f.take j).flatMap sw = (f.take o).flatMap sw) := by
        show _ = _
        rw [hjm]
        by_cases q : o ≤ n
        · rw [Nat.min_eq_left q]
        · rw [Nat.min_eq_right (by omega), List.take_of_length_le (by rw [HN.out]; omega), List.take_of_length_le (by rw [HN.out]; omega)]
      obtain ⟨b1, hb1⟩ : ∃ b1, b1 = b0 ++ (f.take o).flatMap sw := ⟨_, rfl⟩
      have hb1l : b1.length ≤ 70 := by rw [hb1, ← hbr.out, List.length_append, HL0.out]; omega
      rw [hbr.out, ← hb1] at hV
      have Hb1 : Hid (b1 = b0 ++ (f.take o).flatMap sw) := hb1
      have hq := misses_any f S xa n c o wr (HI.out.bel hB.out) (fun b hb => by have := HS.out b hb; have := hB.out.size; omega) HN.out hc hc2 HR.out ho (by omega)
      clear hb1 hfl hbr
      by_cases hjo : j < o
      case' pos =>
        have hjo' : (j : Int) < (o : Int) := by omega
        have hjn' : ¬ (j : Int) < (n : Int) := by omega
        clear hjm
        go_wp2_with fail
        refine hq.mono ?_
      case' neg =>
        have hjo' : ¬ (j : Int) < (o : Int) := by omega
        clear hjm
        go_wp2_with fail
        refine hq.mono ?_
      all_goals
        rintro e w5 ⟨v, rfl, hv, hb5⟩
        obtain ⟨va, vc, rfl, q1, q2, q3, q4⟩ := IL.own hv (by rw [nts_len]; unfold fal; rw [fa_len, HN.out])
        have hmlt : ∀ b, some b = (Value.slice va (n - o) vc).ownBlock → b < w5.heap.size := fun b hb => own_lt hv b hb.symm
        have HI5 : Hid (IL w5 (fun b => b < w5.heap.size) va (nts (fal f o))) := q4.keep (fun _ _ _ => rfl) (Nat.le_refl _) (fun b hb _ => hmlt b hb)
        have hmge : ∀ b, some b = (Value.slice va (n - o) vc).ownBlock → wr.heap.size ≤ b := fun b hb => own_block hv b hb.symm
        have HV5 : Hid (NB w5 w.heap.size u7 b1) := hV.out.keep hb5
        have hown7 : ∀ q, u7.ownBlock = some q → q < wr.heap.size := fun q hq => own_lt hV.out q hq
        have HB5 : Hid (Below w.heap.size w w5) := hB.out.trans (hb5.mono hB.out.size)
        obtain ⟨L, hL⟩ : ∃ L, L = fal f o := ⟨_, rfl⟩
        have hLl : L.length = n - o := by rw [hL]; unfold fal; rw [fa_len, HN.out]
        have HLb : Hid (∀ m ∈ L, m < 524288) := by rw [hL]; exact fa_lt f HR.out o _
        have HLe : Hid (L = fal f o) := hL
        rw [← hL] at HI5
        have HI5q : Hid (IL w5 (fun b => some b = (Value.slice va (n - o) vc).ownBlock) va (nts L)) := by rw [hL]; exact q4
        clear hq hv q4 hb5 hL hV hB
        obtain ⟨wq, hwq⟩ : ∃ x, x = wr := ⟨wr, rfl⟩
        rw [← hwq] at hmge hown7
        clear hwq
        have HSep : Hid (∀ b, some b = (Value.slice va (n - o) vc).ownBlock → b < w5.heap.size ∧ some b ≠ u7.ownBlock) := fun b hb => ⟨hmlt b hb, fun e => by have := hmge b hb; have := hown7 b e.symm; omega⟩
        obtain ⟨m, hm⟩ : ∃ m, m = n - o := ⟨_, rfl⟩
        rw [← hm] at hLl q1 HSep ⊢
        have hmb : m ≤ 256 := by omega
        have HI6 : Hid (IL w5 (fun b => some b = (Value.slice va m vc).ownBlock) va (nts L)) := by
          rw [hm]; exact HI5q.out
        obtain ⟨v7, hv7⟩ : ∃ x, x = u7 := ⟨u7, rfl⟩
        rw [← hv7] at HV5 HSep ⊢
        clear hmlt hmge hown7 hm q3 HI5 HI5q hv7
        go_wp2_with fail
        go_loopw [40, 7] (fun i v wr => ∃ (j : Nat), j ≤ m ∧ i = .int .i64 (j : Int) ∧ Hid (NB wr w.heap.size v (b1 ++ (L.take j).flatMap fun x => fw x k)) ∧ Hid (Below w.heap.size w wr) ∧ Hid (IL wr (fun b => some b = (Value.slice va m vc).ownBlock) va (nts L)) ∧ Hid (∀ b, some b = (Value.slice va m vc).ownBlock → b < wr.heap.size ∧ some b ≠ v.ownBlock)) (fun i _ _ => m - (intOf i).toNat)
        case atStart => exact ⟨0, by omega, rfl, by show NB _ _ _ _; simpa using HV5.out, HB5, HI6, HSep⟩
        case round =>
          obtain ⟨j, hj, rfl, hV, hB, hI, hSp⟩ := hrel
          have hfbl : Hid (fb L k ≤ 137438953472) := by
            show _ ≤ _
            rw [fb_sh]
            have h1 := sh_le L k HLb.out
            have h2 : L.length * 524288 ≤ 256 * 524288 := Nat.mul_le_mul_right _ (by omega)
            have h3 : L.length * (1 + k) ≤ 256 * 16 := Nat.mul_le_mul (by omega) (by omega)
            omega
          have hfl := flat_fw_len L k j
          by_cases hlt : j < m
          · have hlt' : (j : Int) < (m : Int) := by omega
            obtain ⟨x, hx⟩ : ∃ x, L[j]? = some x := ⟨_, List.getElem?_eq_getElem (by rw [hLl]; exact hlt)⟩
            have hxb := HLb.out x (List.mem_of_getElem? hx)
            obtain ⟨b, off, rfl, lb, hbS, cc⟩ := hI.out.at' (by rw [nts_len, hLl]; omega)
            have cx := cc j (x : Int) (by unfold nts; rw [List.getElem?_map, hx]; rfl)
            obtain ⟨bj, hbj⟩ : ∃ bj, bj = b1 ++ (L.take j).flatMap fun x => fw x k := ⟨_, rfl⟩
            have hbjl : bj.length ≤ 137438953600 := by rw [hbj, List.length_append]; have := hfbl.out; omega
            have hst : Hid (b1 ++ (L.take (j + 1)).flatMap (fun x => fw x k) = bj ++ fw x k) := by
              show _ = _
              rw [List.take_add_one, hx, List.flatMap_append, hbj, List.append_assoc]
              show _ ++ (_ ++ ([x] : List Nat).flatMap (fun x => fw x k)) = _
              rw [List.flatMap_cons, List.flatMap_nil, List.append_nil]
            rw [← hbj] at hV
            have w3' : IntKind.i64.wrap ((j : Int) + 1) = (j : Int) + 1 := wid (by omega) (by omega)
            have hpq := fun w => power_any k w (by omega)
            have hpp : 0 < 2 ^ k := Nat.two_pow_pos k
            have hpl := pow_lt62 k (by omega)
            obtain ⟨P, hP⟩ : ∃ P, P = 2 ^ k := ⟨_, rfl⟩
            obtain ⟨D, hD⟩ : ∃ D, D = x / P := ⟨_, rfl⟩
            obtain ⟨R, hR⟩ : ∃ R, R = x % P := ⟨_, rfl⟩
            rw [← hP] at hpq hpp hpl
            have hDx : D ≤ x := by rw [hD]; exact Nat.div_le_self _ _
            have hRx : R ≤ x := by rw [hR]; exact Nat.mod_le _ _
            have hfw : Hid (fw x k = List.replicate D 1 ++ [0] ++ bn R k) := by
              show _ = _
              have e2 : bn x k = bn R k := by
                have := bn_add (x / 2 ^ k) (x % 2 ^ k) k
                rw [show x / 2 ^ k * 2 ^ k + x % 2 ^ k = x from by rw [Nat.mul_comm]; exact Nat.div_add_mod x (2 ^ k)] at this
                rw [hR, hP]; exact this
              unfold fw
              rw [e2, ← hP, ← hD]; simp
            have hdv : (x : Int) / (P : Int) = (D : Int) := by rw [hD]; push_cast; rfl
            have hmv : (x : Int) % (P : Int) = (R : Int) := by rw [hR]; push_cast; rfl
            have hp0 : ((P : Int) == 0) = false := by simp; omega
            have wD : IntKind.i64.wrap (D : Int) = (D : Int) := wid (by omega) (by omega)
            clear cc hx hfl hbj hD hR hP
            obtain ⟨w7, hw7⟩ : ∃ y, y = wr := ⟨wr, rfl⟩
            rw [← hw7] at lb cx
            have HIj : Hid (IL w7 (fun b_1 => some b_1 = (Value.slice (some ⟨b, off, none⟩) m vc).ownBlock) (some ⟨b, off, none⟩) (nts L)) := by rw [hw7]; exact hI
            have HSj : Hid (∀ b_1, some b_1 = (Value.slice (some ⟨b, off, none⟩) m vc).ownBlock → b_1 < w7.heap.size ∧ some b_1 ≠ u7.ownBlock) := by rw [hw7]; exact hSp
            have HVj : Hid (NB w7 w.heap.size u7 bj) := by rw [hw7]; exact hV
            have HBj : Hid (Below w.heap.size w w7) := by rw [hw7]; exact hB
            rw [← hw7]
            clear hw7 hI hSp hV hB
            go_wp2_with fail
            go_loopw [11, 7] (fun i v wr => ∃ (t : Nat), t ≤ D ∧ i = .int .i64 (t : Int) ∧ Hid (NB wr w.heap.size v (bj ++ List.replicate t 1)) ∧ Hid (Below w.heap.size w wr) ∧ Hid (IL wr (fun b_1 => some b_1 = (Value.slice (some ⟨b, off, none⟩) m vc).ownBlock) (some ⟨b, off, none⟩) (nts L)) ∧ Hid (∀ b_1, some b_1 = (Value.slice (some ⟨b, off, none⟩) m vc).ownBlock → b_1 < wr.heap.size ∧ some b_1 ≠ v.ownBlock)) (fun i _ _ => D - (intOf i).toNat)
            case atStart => exact ⟨0, by omega, rfl, by show NB _ _ _ _; simpa using HVj.out, HBj, HIj, HSj⟩
            case round =>
              obtain ⟨t, ht, rfl, hV, hB, hI, hSp⟩ := hrel
              have hlr : (bj ++ List.replicate t 1).length ≤ 137439500000 := by rw [List.length_append, List.length_replicate]; omega
              have hz0 := hB.out.size
              have w4' : IntKind.i64.wrap ((t : Int) + 1) = (t : Int) + 1 := wid (by omega) (by omega)
              by_cases hltt : t < D
              · have hltt' : (t : Int) < (D : Int) := by omega
                obtain ⟨bt', hbt⟩ : ∃ y, y = bj ++ List.replicate t 1 := ⟨_, rfl⟩
                have hs1 : Hid (bt' ++ [1] = bj ++ List.replicate (t + 1) 1) := by show _ = _; rw [hbt, List.append_assoc, ← List.replicate_succ']
                rw [← hbt] at hV hlr
                clear hbt
                go_wp2_with fail
                refine (hpq wr).mono ?_
                rintro e w9 ⟨rfl, hw9⟩
                subst hw9
                have hb1 : Below w9.heap.size w9 (w9.alloc (.cells #[.int .i64 1] 3)) := (Below.refl _ _).alloc (Nat.le_refl _) _
                have hV1 := hV.out.keep hb1
                go_wp2_with (first | (simp only [hdv]; done) | (at_builtin; refine wpList_append_nt rfl (.tmp 52) (.tmp 53) rfl w.heap.size w9.heap.size 1 _ _ rfl hV1 rfl (by simp [go_sem]) (by omega) (by simp; omega) ?_; intro v6 w6 k1 k2; have HV6 : Hid (NB w6 w.heap.size v6 (bj ++ List.replicate (t + 1) 1)) := (by rw [← hs1.out]; exact k1); have HB6 : Hid (Below w.heap.size w w6) := (hB.out.trans (hb1.mono hz0)).trans (k2.bel (by simp; omega) (fun q hq => own_block hV1 q hq)); have HS6 := sep_step hSp.out hb1 k2; have hz6 := k2.gr.size; have HSp6 : Hid (∀ b_1, some b_1 = (Value.slice (some ⟨b, off, none⟩) m vc).ownBlock → b_1 < w6.heap.size ∧ some b_1 ≠ v6.ownBlock) := HS6.1; have HI6 : Hid (IL w6 (fun b_1 => some b_1 = (Value.slice (some ⟨b, off, none⟩) m vc).ownBlock) (some ⟨b, off, none⟩) (nts L)) := hI.out.keep (fun b' hb' _ => HS6.2 b' hb') (by simp at hz6; omega) (fun _ h _ => h); clear HS6 k1 k2 hb1 hV1 hV hB hI hSp hz6))
                exact ⟨⟨t + 1, by omega, by go_num, HV6, HB6, HI6, HSp6⟩, by simp [intOf]; omega⟩
              · obtain rfl : t = D := by omega
                have hltt' : ¬ (t : Int) < (t : Int) := by omega
                obtain ⟨bt', hbt⟩ : ∃ y, y = bj ++ List.replicate t 1 := ⟨_, rfl⟩
                have hs1 : Hid (bt' ++ [0] ++ bn R k = bj ++ fw x k) := by show _ = _; rw [hbt, hfw.out]; simp
                rw [← hbt] at hV hlr
                clear hbt
                go_wp2_with fail
                refine (hpq wr).mono ?_
                rintro e w9 ⟨rfl, hw9⟩
                subst hw9
                have hb1 : Below w9.heap.size w9 (w9.alloc (.cells #[.int .i64 0] 3)) := (Below.refl _ _).alloc (Nat.le_refl _) _
                have hV1 := hV.out.keep hb1
                go_wp2_with (first | (simp only [hdv]; done) | (at_builtin; refine wpList_append_nt rfl (.tmp 55) (.tmp 56) rfl w.heap.size w9.heap.size 0 _ _ rfl hV1 rfl (by simp [go_sem]) (by omega) (by simp; omega) ?_; intro v6 w6 k1 k2; have HV6 : Hid (NB w6 w.heap.size v6 (bt' ++ [0])) := k1; have HB6 : Hid (Below w.heap.size w w6) := (hB.out.trans (hb1.mono hz0)).trans (k2.bel (by simp; omega) (fun q hq => own_block hV1 q hq)); have HS6 := sep_step hSp.out hb1 k2; have hz6 := k2.gr.size; have HSp6 : Hid (∀ b_1, some b_1 = (Value.slice (some ⟨b, off, none⟩) m vc).ownBlock → b_1 < w6.heap.size ∧ some b_1 ≠ v6.ownBlock) := HS6.1; have HI6 : Hid (IL w6 (fun b_1 => some b_1 = (Value.slice (some ⟨b, off, none⟩) m vc).ownBlock) (some ⟨b, off, none⟩) (nts L)) := hI.out.keep (fun b' hb' _ => HS6.2 b' hb') (by simp at hz6; omega) (fun _ h _ => h); clear HS6 k1 k2 hb1 hV1 hV hB hI hSp hz6))
                refine (hpq w6).mono ?_
                rintro e w8 ⟨rfl, hw8⟩
                subst hw8
                go_wp2_with (simp only [hmv])
                refine (bitsN R k w8 (by omega) (by omega)).mono ?_
                rintro e w10 ⟨v10, rfl, hv10, hb10⟩
                have hV10 := HV6.out.keep hb10
                have hzz0 := HB6.out.size
                have hzz := hb10.size
                go_wp2_with (at_builtin; refine wpList_append_nts rfl (.tmp 58) (.tmp 64) rfl w.heap.size w8.heap.size _ _ (bt' ++ [0]) (bn R k) rfl hV10 rfl hv10 (by rw [bn_len, List.length_append, List.length_singleton]; omega) (by omega) ?_; intro v11 w11 k1 k2; have HV11 : Hid (NB w11 w.heap.size v11 (b1 ++ (L.take (j + 1)).flatMap fun x => fw x k)) := (by rw [hst.out, ← hs1.out]; exact k1); have HB11 : Hid (Below w.heap.size w w11) := (HB6.out.trans (hb10.mono hzz0)).trans (k2.bel (by omega) (fun q hq => own_block hV10 q hq)); have HS11 := sep_step HSp6.out hb10 k2; have hz11 := k2.gr.size; have HSp11 : Hid (∀ b_1, some b_1 = (Value.slice (some ⟨b, off, none⟩) m vc).ownBlock → b_1 < w11.heap.size ∧ some b_1 ≠ v11.ownBlock) := HS11.1; have HI11 : Hid (IL w11 (fun b_1 => some b_1 = (Value.slice (some ⟨b, off, none⟩) m vc).ownBlock) (some ⟨b, off, none⟩) (nts L)) := HI6.out.keep (fun b' hb' _ => HS11.2 b' hb') (by omega) (fun _ h _ => h); clear HS11 k1 k2 hb10 hV10 hv10 HV6 HB6 HI6 HSp6 hz11)
                exact ⟨⟨j + 1, by omega, by go_num, HV11, HB11, HI11, HSp11⟩, by simp [intOf]; omega⟩
          · obtain rfl : j = m := by omega
            have hlt' : ¬ (j : Int) < (j : Int) := by omega
            have e : b1 ++ (L.take j).flatMap (fun x => fw x k) = fr f o k := by
              rw [List.take_of_length_le (by omega), Hb1.out, Hb0.out, HLe.out]
              unfold fr
              simp only [List.append_assoc]
            rw [e] at hV
            clear e hI hSp hfl
            go_wp2_with fail
            go_ret
            exact ⟨_, rfl, hV.out, hB.out⟩
end Go.Proofs.Ytdlcnbfiklbiiaa.Co
