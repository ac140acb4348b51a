/- What a writer's method frame comes to. -/
import Derived.Test.YtdlcnbfiklbiiaaCo4
namespace Go.Proofs.Ytdlcnbfiklbiiaa.Co
open Go.RowKit Go.Maps Go.Sort
set_option linter.unusedVariables false
set_option linter.unusedSimpArgs false

/-- A block that a writer's methods leave as it is. -/
def Off (w : World) (p b : Nat) : Prop := b < w.heap.size ∧ b ≠ p ∧ some b ≠ (cv w p 0).ownBlock
theorem Off.step {w w' : World} {p b : Nat} (h : Off w p b) (hk : WK p w w') : Off w' p b ∧ w'.heap[b]? = w.heap[b]? := by
  obtain ⟨h1, h2, h3⟩ := h
  refine ⟨⟨by have := hk.bel.size; omega, h2, ?_⟩, hk.blk b h1 h2 h3⟩
  rcases hk.own with e | ⟨j, e, hj⟩
  · rw [e]; exact h3
  · rw [e]; intro q; cases q; omega
/-- A new block is none of the writer's. -/
theorem Off.new {w w' : World} {p b : Nat} {bs : List Nat} (h : WB w p bs) (hb : Below w.heap.size w w') (h1 : w.heap.size ≤ b) (h2 : b < w'.heap.size) : Off w' p b := by
  have hp := h.lt
  obtain ⟨v, h0, ho⟩ := h.ex
  refine ⟨h2, by omega, ?_⟩
  have e : w'.cell? ⟨p, 0, none⟩ = some v := (World.cell?_of_block (w := w) (w' := w') (a := ⟨p, 0, none⟩) (hb.block p hp)).trans h0
  rw [cv_is e]
  intro q
  have := own_lt ho b q.symm
  omega
theorem IL.off {w w' : World} {p : Nat} {S : Nat → Prop} {ao : Option Addr} {l : List Int} (h : IL w S ao l) (hS : ∀ b, S b → b < w.heap.size → Off w p b) (hk : WK p w w') : IL w' S ao l :=
  h.keep (fun b hb hl => ((hS b hb hl).step hk).2) hk.bel.size (fun _ h _ => h)
set_option maxRecDepth 8000 in
set_option maxHeartbeats 8000000 in
theorem frame_any (f : List Int) (xa : Option Addr) (n c o k p : Nat) (bs : List Nat) (w : World) (hW : WB w p bs) (hI : IL w (fun b => b < p) xa f) (hn : f.length = n) (hc : n ≤ c) (hc2 : c ≤ 9223372036854775807) (hr : ∀ x ∈ f, inR x) (hn2 : n ≤ 256) (ho : o ≤ 3) (hk : k ≤ 15) (hl : bs.length ≤ 274877906944) :
    Calls Try.prog 34 #[.pointer (some ⟨p, 0, none⟩), .slice xa n c, .agg #[.int .i64 (o : Int), .int .i64 (k : Int)]] w fun e w' => e = .returned (.tuple #[]) ∧ WB w' p (bs ++ fr f o k) ∧ WK p w w' := by
  have HW : Hid (WB w p bs) := hW
  have HI : Hid (IL w (fun b => b < p) xa f) := hI
  have HR : Hid (∀ x ∈ f, inR x) := hr
  have HN : Hid (f.length = n) := hn
  clear hI hr hn hW
  go_enter Try.func34, Try.ntmps34
  go_wp2_with fail
  obtain ⟨w0, hw0⟩ : ∃ w0, w0 = w.alloc (.cells #[.int .i64 (o : Int), .int .i64 (k : Int)] 70) := ⟨_, rfl⟩
  have hb0 : Below w.heap.size w w0 := by rw [hw0]; exact (Below.refl _ _).alloc (Nat.le_refl _) _
  have hz0 : w0.heap.size = w.heap.size + 1 := by rw [hw0]; simp
  have C0 : CD w0 w.heap.size o k := by rw [hw0]; exact ⟨by simp [go_sem], by simp [go_sem], by simp [go_sem], by simp [go_sem]⟩
  have hO0 : Off w0 p w.heap.size := Off.new HW.out hb0 (Nat.le_refl _) (by omega)
  have hW0 := HW.out.keep hb0
  have hK0 := WK.below hb0 HW.out.lt
  rw [← hw0]
  clear hw0
  have hq1 := number_any p o 2 bs w0 hW0 (by omega) (by omega) (by omega)
  refine hq1.mono ?_
  rintro e w1 ⟨rfl, hW1, hK1⟩
  have C1 := C0.keep (hO0.step hK1).2
  have hO1 := (hO0.step hK1).1
  have d1 := C1.c1
  have HK1 : Hid (WK p w w1) := hK0.trans hK1
  have hl1 : (bs ++ bn o 2).length = bs.length + 2 := by rw [List.length_append, bn_len]
  have hq2 := number_any p k 4 (bs ++ bn o 2) w1 hW1 (by omega) (by omega) (by omega)
  have HW1 : Hid (WB w1 p (bs ++ bn o 2)) := hW1
  have HO1 : Hid (Off w1 p w.heap.size) := hO1
  have HC1 : Hid (CD w1 w.heap.size o k) := C1
  have lx1 := C1.lt
  clear hq1 hW0 hK0 hb0 hz0 C0 hO0 hW1 hK1 hO1 C1
  go_wp2_with fail
  refine hq2.mono ?_
  rintro e w2 ⟨rfl, hW2, hK2⟩
  have C2 := HC1.out.keep (HO1.out.step hK2).2
  have hO2 := (HO1.out.step hK2).1
  have HK2 : Hid (WK p w w2) := HK1.out.trans hK2
  have d0 := C2.c0
  have hl2 : (bs ++ bn o 2 ++ bn k 4).length = bs.length + 6 := by rw [List.length_append, hl1, bn_len]
  have HL2 : Hid ((bs ++ bn o 2 ++ bn k 4).length = bs.length + 6) := hl2
  obtain ⟨b2, hb2⟩ : ∃ b2, b2 = bs ++ bn o 2 ++ bn k 4 := ⟨_, rfl⟩
  have HB2e : Hid (b2 = bs ++ bn o 2 ++ bn k 4) := hb2
  rw [← hb2] at hW2 hl2
  have HW2 : Hid (WB w2 p b2) := hW2
  have HO2 : Hid (Off w2 p w.heap.size) := hO2
  have HC2 : Hid (CD w2 w.heap.size o k) := C2
  have lx2 := C2.lt
  obtain ⟨mi, hmi⟩ : ∃ mi, mi = min o n := ⟨_, rfl⟩
  have hmin := min_is o n
  rw [← hmi] at hmin
  have HMi : Hid (mi = min o n) := hmi
  have hmb : mi ≤ 3 := by omega
  have hmc : mi ≤ c := by omega
  have s1 : ∀ W : World, (Instr.slice 23 (.slice xa n c) none (some (.int .i64 (mi : Int))) none).run Try.prog W = .ok (.slice xa mi c) W := fun W => run_upto _ n c mi hmc W
  have hpw : ∀ {w' : World}, WK p w w' → IL w' (fun b => b < p) xa f := fun h => HI.out.keep (fun b hb _ => h.bel.block b hb) h.bel.size (fun _ h _ => h)
  have HPw : Hid (∀ {w' : World}, WK p w w' → IL w' (fun b => b < p) xa f) := hpw
  clear hq2 hW2 hK2 C2 hO2 hb2 hmi hpw HW1 HO1 HC1 HK1 d1 hl1
  go_wp2_with (simp only [s1])
  go_loopw [26] (fun i wr => ∃ j : Nat, j ≤ mi ∧ i = .int .i64 (j : Int) ∧ Hid (WB wr p (b2 ++ (f.take j).flatMap sw)) ∧ Hid (WK p w2 wr)) (fun i _ => mi - (intOf i).toNat)
  case atStart => exact ⟨0, by omega, rfl, by show WB _ _ _; simpa using HW2.out, WK.refl _ _ HW2.out.lt⟩
  case round =>
    obtain ⟨j, hj, rfl, hB, hK⟩ := hrel
    by_cases hlt : j < mi
    · have hlt' : (j : Int) < (mi : Int) := by omega
      obtain ⟨x, hx⟩ : ∃ x, f[j]? = some x := ⟨_, List.getElem?_eq_getElem (by rw [HN.out]; have := HMi.out; omega)⟩
      have hxr := HR.out x (List.mem_of_getElem? hx)
      have hxr1 := hxr.1
      have hxr2 := hxr.2
      have hI2 := HPw.out (HK2.out.trans hK.out)
      obtain ⟨b, off, rfl, lb, _, cc⟩ := hI2.at' (by rw [HN.out]; have := HMi.out; omega)
      have cx := cc j x hx
      have hfl : ((f.take j).flatMap sw).length = 16 * min j n := by
        rw [List.length_flatMap, show (f.take j).map (fun x => (sw x).length) = (f.take j).map (fun _ => 16) from List.map_congr_left (fun x _ => bn_len _ _), List.map_const', List.sum_replicate_nat, List.length_take, HN.out]; omega
      obtain ⟨y, hy⟩ : ∃ y : Nat, (y : Int) = x + 32768 := ⟨(x + 32768).toNat, by omega⟩
      have hst : (f.take (j + 1)).flatMap sw = (f.take j).flatMap sw ++ bn y 16 := by
        rw [List.take_add_one, hx, List.flatMap_append]
        show _ ++ ([x] : List Int).flatMap sw = _
        rw [List.flatMap_cons, List.flatMap_nil, List.append_nil]
        unfold sw
        rw [← hy]; rfl
      have hq := number_any p y 16 (b2 ++ (f.take j).flatMap sw) wr hB.out (by omega) (by omega) (by rw [List.length_append, hfl]; omega)
      rw [List.append_assoc, ← hst] at hq
      have w1 : IntKind.i64.wrap (x + 32767) = x + 32767 := wid (by omega) (by omega)
      have w2' : IntKind.i64.wrap (x + 32767 + 1) = (y : Int) := by rw [hy, wid (by omega) (by omega)]; omega
      have w3 : IntKind.i64.wrap ((j : Int) + 1) = (j : Int) + 1 := wid (by omega) (by omega)
      have HKj : Hid (WK p w2 wr) := hK
      clear hst hx hxr hI2 cc hfl hK hB hy
      go_wp2_with (simp only [w1, w2'])
      refine hq.mono ?_
      rintro e w5 ⟨rfl, hW5, hK5⟩
      have HW5 : Hid (WB w5 p (b2 ++ (f.take (j + 1)).flatMap sw)) := hW5
      have HK5 : Hid (WK p w2 w5) := HKj.out.trans hK5
      clear hq hW5 hK5 cx
      go_wp2_with fail
      go_roundw
      case rel => exact ⟨j + 1, by omega, by go_num, HW5, HK5⟩
      case measure => simp [intOf]; omega
    · obtain rfl : j = mi := by omega
      have hlt' : ¬ (j : Int) < (j : Int) := by omega
      have e : (f.take j).flatMap sw = (f.take o).flatMap sw := by
        rw [HMi.out]
        by_cases c : o ≤ n
        · rw [Nat.min_eq_left c]
        · rw [Nat.min_eq_right (by omega), List.take_of_length_le (by rw [HN.out]; omega), List.take_of_length_le (by rw [HN.out]; omega)]
      rw [e] at hB
      have hfl : ((f.take o).flatMap sw).length ≤ 64 := by
        rw [List.length_flatMap, show (f.take o).map (fun x => (sw x).length) = (f.take o).map (fun _ => 16) from List.map_congr_left (fun x _ => bn_len _ _), List.map_const', List.sum_replicate_nat, List.length_take]; omega
      obtain ⟨b3, hb3⟩ : ∃ b3, b3 = b2 ++ (f.take o).flatMap sw := ⟨_, rfl⟩
      have hl3 : b3.length ≤ bs.length + 70 := by rw [hb3, List.length_append]; omega
      have HB3e : Hid (b3 = b2 ++ (f.take o).flatMap sw) := hb3
      rw [← hb3] at hB
      have hOr := HO2.out.step hK.out
      have hCr := HC2.out.keep hOr.2
      have HKr : Hid (WK p w wr) := HK2.out.trans hK.out
      have hq := foldAll_any f (fun b => b < p) xa n c o wr (HPw.out HKr.out) HN.out hc hc2 HR.out ho (by omega)
      have e0 := hCr.c0
      have lxr := hCr.lt
      have HCr : Hid (CD wr w.heap.size o k) := hCr
      have HOr : Hid (Off wr p w.heap.size) := hOr.1
      have HWr : Hid (WB wr p b3) := hB
      clear hb3 hfl e hK hB hOr hCr HK2 HW2 HO2 HC2 d0
      go_wp2_with fail
      refine hq.mono ?_
      rintro e w5 ⟨v, rfl, hv, hb5⟩
      obtain ⟨va, vc, rfl, v1, v2, v3, v4⟩ := IL.own hv (by rw [nts_len]; unfold fal; rw [fa_len, HN.out])
      have hW5 := HWr.out.keep hb5
      have hK5 := HKr.out.trans (WK.below hb5 HWr.out.lt)
      have hO5 := HOr.out.step (WK.below hb5 HWr.out.lt)
      have hC5 := HCr.out.keep hO5.2
      have HI5 : Hid (IL w5 (fun b => wr.heap.size ≤ b) va (nts (fal f o))) := v4.keep (fun _ _ _ => rfl) (Nat.le_refl _) (fun b hb _ => own_block hv b hb.symm)
      have hOn : ∀ b, wr.heap.size ≤ b → b < w5.heap.size → Off w5 p b := fun b h1 h2 => Off.new HWr.out hb5 h1 h2
      have HOn : Hid (∀ b, wr.heap.size ≤ b → b < w5.heap.size → Off w5 p b) := hOn
      have HW5 : Hid (WB w5 p b3) := hW5
      have HK5 : Hid (WK p w w5) := hK5
      have HO5 : Hid (Off w5 p w.heap.size) := hO5.1
      have HC5 : Hid (CD w5 w.heap.size o k) := hC5
      obtain ⟨L, hL⟩ : ∃ L, L = fal f o := ⟨_, rfl⟩
      have hLl : L.length = n - o := by rw [hL]; unfold fal; rw [fa_len, HN.out]
      have HLb : Hid (∀ m ∈ L, m < 524288) := by rw [hL]; exact fa_lt f HR.out o _
      have HLe : Hid (L = fal f o) := hL
      rw [← hL] at HI5
      have hs2 : Hid (fb L k ≤ 137438953472) := by
        show _ ≤ _
        rw [fb_sh]
        have h1 := sh_le L k HLb.out
        have h2 : L.length * 524288 ≤ 256 * 524288 := Nat.mul_le_mul_right _ (by omega)
        have h3 : L.length * (1 + k) ≤ 256 * 16 := Nat.mul_le_mul (by omega) (by omega)
        omega
      clear hq hv v4 hb5 hW5 hK5 hO5 hC5 hOn hL HCr HOr HWr HKr e0 v3
      obtain ⟨wq, hwq⟩ : ∃ x, x = wr := ⟨wr, rfl⟩
      rw [← hwq] at HI5 HOn
      clear hwq
      obtain ⟨m, hm⟩ : ∃ m, m = n - o := ⟨_, rfl⟩
      rw [← hm] at hLl v1 ⊢
      clear hm
      go_wp2_with fail
      go_loopw [41] (fun i wr => ∃ j : Nat, j ≤ m ∧ i = .int .i64 (j : Int) ∧ Hid (WB wr p (b3 ++ (L.take j).flatMap fun m => fw m k)) ∧ Hid (WK p w5 wr)) (fun i _ => m - (intOf i).toNat)
      case atStart => exact ⟨0, by omega, rfl, by show WB _ _ _; simpa using HW5.out, WK.refl _ _ HW5.out.lt⟩
      case round =>
        obtain ⟨j, hj, rfl, hB, hK⟩ := hrel
        by_cases hlt : j < m
        · have hlt' : (j : Int) < (m : Int) := by omega
          obtain ⟨x, hx⟩ : ∃ x, L[j]? = some x := ⟨_, List.getElem?_eq_getElem (by rw [hLl]; exact hlt)⟩
          have hxb := HLb.out x (List.mem_of_getElem? hx)
          have hI2 : IL wr (fun b => wq.heap.size ≤ b) va (nts L) := HI5.out.off (fun b hb hl => HOn.out b hb hl) hK.out
          obtain ⟨b, off, rfl, lb, _, cc⟩ := hI2.at' (by rw [nts_len, hLl]; omega)
          have cx := cc j (x : Int) (by unfold nts; rw [List.getElem?_map, hx]; rfl)
          have hC6 := HC5.out.keep (HO5.out.step hK.out).2
          have e1 := hC6.c1
          have lx6 := hC6.lt
          have hfl : ((L.take j).flatMap fun m => fw m k).length ≤ fb L k := by
            rw [List.length_flatMap]
            unfold fb
            have e : ∀ l : List Nat, l.map (fun m => (fw m k).length) = l.map (fun m => m / 2 ^ k + (1 + k)) := fun l => List.map_congr_left (fun m _ => fw_len m k)
            rw [e]
            have e2 := congrArg List.sum (congrArg (List.map (fun m => m / 2 ^ k + (1 + k))) (List.take_append_drop j L))
            rw [List.map_append, List.sum_append] at e2
            omega
          have hst : (L.take (j + 1)).flatMap (fun m => fw m k) = (L.take j).flatMap (fun m => fw m k) ++ fw x k := by
            rw [List.take_add_one, hx, List.flatMap_append]
            show _ ++ ([x] : List Nat).flatMap (fun m => fw m k) = _
            rw [List.flatMap_cons, List.flatMap_nil, List.append_nil]
          have hq := folded_any p x k (b3 ++ (L.take j).flatMap fun m => fw m k) wr hB.out (by omega) (by omega) (by rw [List.length_append]; have := hs2.out; omega)
          rw [List.append_assoc, ← hst] at hq
          have w3 : IntKind.i64.wrap ((j : Int) + 1) = (j : Int) + 1 := wid (by omega) (by omega)
          have HKj : Hid (WK p w5 wr) := hK
          clear hst hx hI2 cc hfl hK hB hC6
          go_wp2_with fail
          refine hq.mono ?_
          rintro e w6 ⟨rfl, hW6, hK6⟩
          have HW6 : Hid (WB w6 p (b3 ++ (L.take (j + 1)).flatMap fun m => fw m k)) := hW6
          have HK6 : Hid (WK p w5 w6) := HKj.out.trans hK6
          clear hq hW6 hK6 cx e1
          go_wp2_with fail
          go_roundw
          case rel => exact ⟨j + 1, by omega, by go_num, HW6, HK6⟩
          case measure => simp [intOf]; omega
        · obtain rfl : j = m := by omega
          have hlt' : ¬ (j : Int) < (j : Int) := by omega
          have e : b3 ++ (L.take j).flatMap (fun m => fw m k) = bs ++ fr f o k := by
            rw [List.take_of_length_le (by omega), HB3e.out, HB2e.out, HLe.out]
            unfold fr
            simp only [List.append_assoc]
          rw [e] at hB
          have HKK : Hid (WK p w wr) := HK5.out.trans hK.out
          clear e hK
          go_wp2_with fail
          go_end0
          exact ⟨rfl, hB.out, HKK.out⟩
end Go.Proofs.Ytdlcnbfiklbiiaa.Co
