/- What Encode comes to, at every list. -/
import Derived.Test.YtdlcnbfiklbiiaaCo7
import Derived.Test.YtdlcnbfiklbiiaaCoMath2
namespace Go.Proofs.Ytdlcnbfiklbiiaa.Co
open Go.RowKit Go.Maps Go.Sort Go.Shelf
set_option linter.unusedVariables false
set_option linter.unusedSimpArgs false
attribute [local go_sem] Oper.semAt_some

theorem isSample_any (x : Int) (w : World) : Calls Try.prog 31 #[.int .i64 x] w fun e w' => e = .returned (.bool (sok x)) ∧ w' = w := by
  by_cases h1 : -32768 ≤ x
  · by_cases h2 : x ≤ 32767
    · have e : sok x = true := by rw [sok_iff]; exact ⟨h1, h2⟩
      rw [e]
      go_enter Try.func31, Try.ntmps31
      go_wp2_with fail
      go_ret
      exact ⟨rfl, rfl⟩
    · have e : sok x = false := by unfold sok; simp; omega
      rw [e]
      go_enter Try.func31, Try.ntmps31
      go_wp2_with fail
      go_ret
      exact ⟨rfl, rfl⟩
  · have e : sok x = false := by unfold sok; simp; omega
    rw [e]
    go_enter Try.func31, Try.ntmps31
    go_wp2_with fail
    go_ret
    exact ⟨rfl, rfl⟩
/-- What Encode answers. -/
def ee (l : List Int) : Int := if 1048576 < l.length then 5 else if l.all sok = true then 0 else 3
def eb (l : List Int) : List Nat := if ee l = 0 then pk (en l) else []
theorem WB.new (w : World) : WB (w.alloc (.cells #[.slice none 0 0, .int .i64 0] 63)) w.heap.size [] :=
  ⟨⟨.slice none 0 0, by simp [go_sem], World.ownsRow_nil _ _ _ _⟩, by simp [go_sem]; rfl, by simp [go_sem], by simp [go_sem], by simp⟩
theorem lg15 (f : List Int) (hr : ∀ x ∈ f, inR x) (hn : f.length ≤ 256) : lg f 0 15 ≤ 8192 := by
  unfold lg
  have h2 : (fal f 0).length ≤ 256 := by unfold fal; rw [fa_len]; omega
  have h : ∀ l : List Nat, (∀ m ∈ l, m < 524288) → fb l 15 ≤ l.length * 32 := by
    intro l hl
    unfold fb
    induction l with
    | nil => simp
    | cons x t ih =>
      have h1 := ih (fun m hm => hl m (List.mem_cons_of_mem _ hm))
      have h2 := hl x (List.mem_cons_self ..)
      simp only [List.map_cons, List.sum_cons, List.length_cons, Nat.add_mul]; omega
  have h3 := h (fal f 0) (fa_lt f hr 0 _)
  have h4 : (fal f 0).length * 32 ≤ 256 * 32 := Nat.mul_le_mul_right _ h2
  omega
theorem fx_len (f : List Int) (hr : ∀ x ∈ f, inR x) (hn : f.length ≤ 256) : (fx f).length ≤ 8198 := by
  unfold fx
  rw [fr_len]
  have h1 := be_le f 0 15 (by omega) (by omega)
  have h2 := lg15 f hr hn
  omega
theorem ch_in (l : List Int) (hr : ∀ x ∈ l, inR x) (j : Nat) : (∀ x ∈ ch l j, inR x) ∧ (ch l j).length ≤ 256 := by
  unfold ch
  exact ⟨fun x hx => hr x (List.mem_of_mem_drop (List.mem_of_mem_take hx)), by rw [List.length_take]; omega⟩
theorem flat_len (l : List Int) (hr : ∀ x ∈ l, inR x) (js : List Nat) : (js.flatMap fun j => fx (ch l j)).length ≤ js.length * 8198 := by
  induction js with
  | nil => simp
  | cons j t ih =>
    have h := ch_in l hr j
    have h1 := fx_len _ h.1 h.2
    rw [List.flatMap_cons, List.length_append, List.length_cons, Nat.add_mul]; omega
set_option maxRecDepth 100000 in
set_option maxHeartbeats 8000000 in
theorem Encode_any (l : List Int) (S : Nat → Prop) (xa : Option Addr) (n c : Nat) (w : World) (hI : IL w S xa l) (hS : ∀ b, S b → b < w.heap.size) (hn : l.length = n) (hc : n ≤ c) (hc2 : c ≤ 9223372036854775807) :
    Calls Try.prog 17 #[.slice xa n c] w fun e w' => e = .returned (.tuple #[.string (bt (eb l)), .int .i64 (ee l)]) ∧ Below w.heap.size w w' := by
  by_cases hbig : 1048576 < n
  · have e1 : ee l = 5 := by unfold ee; rw [if_pos (by omega)]
    have e2 : bt (eb l) = ⟨#[]⟩ := by unfold eb; rw [e1, if_neg (by decide)]; rfl
    rw [e1, e2]
    refine (callsIn_wide (n := 3)).1 ?_
    refine callsIn_of_wp_marks Try.func17 rfl trivial ?_ rfl
    simp only [Try.ntmps17, List.size_toArray, List.length_cons, List.length_nil, Nat.reduceAdd, Nat.reduceSub, Array.replicate_succ, Array.replicate_zero, List.push_toArray, List.append_toArray, List.nil_append, List.cons_append]
    have hbig' : (1048576 : Int) < (n : Int) := by omega
    gi_wp2
    exact ⟨_, results_tmp2 rfl _ _ _, ⟨rfl, Below.refl _ _⟩⟩
  · have hbig' : ¬ (1048576 : Int) < (n : Int) := by omega
    have HI : Hid (IL w S xa l) := hI
    have HN : Hid (l.length = n) := hn
    obtain ⟨EE, hEE⟩ : ∃ EE, EE = ee l := ⟨_, rfl⟩
    obtain ⟨EB, hEB⟩ : ∃ EB, EB = bt (eb l) := ⟨_, rfl⟩
    rw [← hEE, ← hEB]
    have HE : Hid (EE = ee l ∧ EB = bt (eb l)) := ⟨hEE, hEB⟩
    clear hI hn hEE hEB
    refine (callsIn_wide (n := 3)).1 ?_
    refine callsIn_of_wp_marks Try.func17 rfl trivial ?_ rfl
    simp only [Try.ntmps17, List.size_toArray, List.length_cons, List.length_nil, Nat.reduceAdd, Nat.reduceSub, Array.replicate_succ, Array.replicate_zero, List.push_toArray, List.append_toArray, List.nil_append, List.cons_append]
    gi_wp2
    gi_loopw [13] (fun i wr => ∃ j : Nat, j ≤ n ∧ i = .int .i64 (j : Int) ∧ wr = w ∧ Hid ((l.take j).all sok = true)) (fun i _ => n - (intOf i).toNat)
    case atStart => exact ⟨0, by omega, rfl, rfl, rfl⟩
    case round =>
      obtain ⟨j, hj, rfl, hwr, hA⟩ := hrel
      subst hwr
      by_cases hlt : j < n
      · have hlt' : (j : Int) < (n : Int) := by omega
        obtain ⟨x, hx⟩ : ∃ x, l[j]? = some x := ⟨_, List.getElem?_eq_getElem (by rw [HN.out]; exact hlt)⟩
        obtain ⟨b, off, rfl, lb, _, cc⟩ := HI.out.at' (by rw [HN.out]; omega)
        have cx := cc j x hx
        have hsn : (l.take (j + 1)).all sok = sok x := by
          rw [List.take_add_one, hx, List.all_append, hA.out]; simp
        have w3 : IntKind.i64.wrap ((j : Int) + 1) = (j : Int) + 1 := wid (by omega) (by omega)
        have hq := isSample_any x wr
        by_cases hk : sok x = true
        · rw [hk] at hq hsn
          have HA : Hid ((l.take (j + 1)).all sok = true) := hsn
          clear cc hx hA hsn
          gi_wp2_with (refine ⟨trivial, ?_⟩; gi_at_call 31; refine (callsIn_wide.2 hq).mono ?_; rintro e w5 ⟨rfl, hw5⟩; subst hw5)
          go_roundw
          case rel => exact ⟨j + 1, by omega, by go_num, by first | rfl | trivial, HA⟩
          case measure => simp [intOf]; omega
        · have hk' : sok x = false := by simpa using hk
          rw [hk'] at hq
          have hal : ¬ l.all sok = true := fun h => by
            have := List.all_eq_true.1 h x (List.mem_of_getElem? hx)
            exact hk this
          have e1 : ee l = 3 := by unfold ee; rw [if_neg (by rw [HN.out]; omega), if_neg hal]
          have e2 : bt (eb l) = ⟨#[]⟩ := by unfold eb; rw [e1, if_neg (by decide)]; rfl
          have HE3 : Hid (EE = 3 ∧ EB = ⟨#[]⟩) := ⟨by rw [HE.out.1, e1], by rw [HE.out.2, e2]⟩
          clear cc hx hA hsn hk hal e1 e2
          gi_wp2_with (refine ⟨trivial, ?_⟩; gi_at_call 31; refine (callsIn_wide.2 hq).mono ?_; rintro e w5 ⟨rfl, hw5⟩; subst hw5)
          exact ⟨_, results_tmp2 rfl _ _ _, ⟨by rw [HE3.out.1, HE3.out.2]; rfl, Below.refl _ _⟩⟩
      · obtain rfl : j = n := by omega
        have hlt' : ¬ (j : Int) < (j : Int) := by omega
        have hA2 : l.all sok = true := by have := hA.out; rwa [List.take_of_length_le (by rw [HN.out]; omega)] at this
        have HR : Hid (∀ x ∈ l, inR x) := fun x hx => (sok_iff x).1 (List.all_eq_true.1 hA2 x hx)
        have e1 : ee l = 0 := by unfold ee; rw [if_neg (by rw [HN.out]; omega), if_pos hA2]
        have HE0 : Hid (EE = 0 ∧ EB = bt (pk (en l))) := ⟨by rw [HE.out.1, e1], by rw [HE.out.2]; unfold eb; rw [if_pos e1]⟩
        have hz := WB.new wr
        have hb0 : Below wr.heap.size wr (wr.alloc (.cells #[.slice none 0 0, .int .i64 0] 63)) := (Below.refl _ _).alloc (Nat.le_refl _) _
        have hq1 := number_any wr.heap.size j 24 [] (wr.alloc (.cells #[.slice none 0 0, .int .i64 0] 63)) hz (by omega) (by omega) (by simp)
        have hzz : wr.heap.size < (wr.alloc (.cells #[.slice none 0 0, .int .i64 0] 63)).heap.size := by simp
        clear HE hA hA2 e1
        gi_wp2
        refine ⟨trivial, ?_⟩
        gi_at_call 32
        refine (callsIn_wide.2 hq1).mono ?_
        rintro e w1 ⟨rfl, hW1, hK1⟩
        have hB1 : Below wr.heap.size wr w1 := hb0.trans hK1.bel
        clear hq1 hz hb0 hzz hK1
        gi_wp2
        refine ⟨trivial, ?_⟩
        gi_at_call 33
        refine (chunk_in Fence.wide _ trivial rfl xa j c w1).mono ?_
        rintro e w2 ⟨rfl, hw2⟩
        obtain ⟨b, hb⟩ : ∃ b, b = w1.heap.size := ⟨_, rfl⟩
        obtain ⟨p, hp⟩ : ∃ p, p = wr.heap.size := ⟨_, rfl⟩
        have cB0 : w2.cell? ⟨b, 0, none⟩ = some (.slice xa j c) := by rw [hw2, hb]; simp [go_sem]
        have cB1 : w2.cell? ⟨b + 1, 0, none⟩ = some (.int .i64 256) := by rw [hw2, hb]; simp [go_sem]
        have hB12 : Below w1.heap.size w1 w2 := by rw [hw2]; exact ((Below.refl _ _).alloc (Nat.le_refl _) _).alloc (by simp) _
        have hz2 : w2.heap.size = b + 2 := by rw [hw2, hb]; simp
        rw [← hp] at hW1 ⊢
        rw [← hb] at hB12 ⊢
        have hO1 : Off w2 p b := Off.new hW1 (by rw [← hb]; exact hB12) (by omega) (by omega)
        have hO2 : Off w2 p (b + 1) := Off.new hW1 (by rw [← hb]; exact hB12) (by omega) (by omega)
        have hW2 := hW1.keep (w' := w2) (by rw [← hb]; exact hB12)
        have hpb : p < b := by have := hW1.lt; omega
        have hBw : Below p wr w2 := by rw [hp] at hpb ⊢; exact hB1.trans (hB12.mono (by omega))
        have HBw : Hid (Below p wr w2) := hBw
        have Hp : Hid (p = wr.heap.size) := hp
        clear hw2 hB12 hB1 hW1 hb hBw hp
        gi_wp2
        refine wpIn_rangeFunc_ownG rfl (by omega) (gf := 54) (lb := #[.pointer (some ⟨b, 0, none⟩), .pointer (some ⟨b + 1, 0, none⟩)]) rfl trivial (enters_of Try.func54 (by kernel_rfl) rfl)
          (chunk_stops Fence.wide _ trivial rfl (by omega) b xa j c ((j + 255) / 256) rfl hc hc2 (by omega) w2 cB0 cB1) (fun h k => h.trans k)
          (fun W r o o' hl hW _ _ => ⟨World.putObj_heap_other (by omega), World.putObj_heap_other (by omega)⟩) (Below.refl _ _) (fun _ => rfl)
          (fun pre W => WB W p (bn j 24 ++ pre.flatMap (fun x => fx (ch l x.1))) ∧ (Off W p b ∧ Off W p (b + 1)) ∧ Below p wr W) (fun _ _ _ => False)
          (fun s A B row hs hg hr => ⟨hs.1.grown (by omega) hg hr, ⟨hs.2.1.1.grown hs.1.lt (by omega) hg hr, hs.2.1.2.grown hs.1.lt (by omega) hg hr⟩, hs.2.2.grown hg (by have := hs.1.lt; omega) (fun k e => by have := (hr k e).1; omega)⟩)
          (fun _ _ _ _ _ hs _ _ => hs) ⟨by simpa using hW2, ⟨hO1, hO2⟩, HBw.out⟩
          (fun x => { tmps := #[Value.slice xa j c, undef, u2, u3, undef, u5, Value.pointer (some ⟨p, 0, none⟩), cs xa j c x.1, Value.slice xa j c, Value.int IntKind.i64 ↑j, Value.bool false, Value.slice xa j c, Value.int IntKind.i64 ↑j, Value.int IntKind.i64 ↑j, Value.bool false, u15, u16, u17, u18, u19, u20, Value.slice xa j c, Value.int IntKind.i64 ↑j, Value.tuple #[], Value.slice xa j c, Value.func (Fn.func 54) #[] #[.pointer (some ⟨b, 0, none⟩), .pointer (some ⟨b + 1, 0, none⟩)], cs xa j c x.1, undef, undef, undef, undef, undef, undef, undef], defers := [] }) ?assign ?body ?done ?stop
        case assign =>
          intro r x W K hK
          gi_wp2
          exact hK
        case body =>
          rintro r pre x W ⟨hWB, ⟨hP1, hP2⟩, hBel⟩ hlen
          have hpz : p ≤ wr.heap.size := by have := Hp.out; omega
          have hIW := HI.out.keep (w' := W) (S' := fun b => b < p) (fun b hb hl => hBel.block b (by rw [Hp.out]; exact hl)) (by have := hBel.size; omega) (fun b _ hl => by have := Hp.out; omega)
          have hxl : x.1 < (j + 255) / 256 := x.2
          have hlj : l.length = j := HN.out
          have hIc := (hIW.drop (256 * x.1) c (by omega)).take 256
          have hchl : (ch l x.1).length = cl j x.1 := by unfold ch cl; rw [List.length_take, List.length_drop, HN.out]
          have hci := ch_in l HR.out x.1
          have hcv : cs xa j c x.1 = .slice (frm xa (256 * x.1) c) (cl j x.1) (cl j x.1) := rfl
          have hcm : cl j x.1 ≤ 256 := by unfold cl; omega
          have hfl := flat_len l HR.out (pre.map (·.1))
          rw [List.flatMap_map, List.length_map] at hfl
          have hbl : (bn j 24 ++ pre.flatMap (fun x => fx (ch l x.1))).length ≤ 24 + 8198 * pre.length := by rw [List.length_append, bn_len]; omega
          have hq := shortest_any (ch l x.1) (fun b => b < p) (frm xa (256 * x.1) c) (cl j x.1) (cl j x.1) W hIc hchl (Nat.le_refl _) (by omega) hci.1 hcm
          obtain ⟨bs0, hbs0⟩ : ∃ y, y = bn j 24 ++ pre.flatMap (fun x => fx (ch l x.1)) := ⟨_, rfl⟩
          have hst : bn j 24 ++ (pre ++ [x]).flatMap (fun x => fx (ch l x.1)) = bs0 ++ fx (ch l x.1) := by rw [hbs0, List.flatMap_append, List.append_assoc]; simp
          rw [← hbs0] at hWB hbl
          have HST : Hid (bn j 24 ++ (pre ++ [x]).flatMap (fun x => fx (ch l x.1)) = bs0 ++ fx (ch l x.1)) := hst
          have hbo := be_ok (ch l x.1)
          have HWB : Hid (WB W p bs0) := hWB
          have HIc : Hid (IL W (fun b => b < p) (frm xa (256 * x.1) c) (ch l x.1)) := hIc
          have HP : Hid (Off W p b ∧ Off W p (b + 1)) := ⟨hP1, hP2⟩
          have HBel : Hid (Below p wr W) := hBel
          have HF2 : ∀ w5, Below W.heap.size W w5 → Calls Try.prog 34 #[.pointer (some ⟨p, 0, none⟩), .slice (frm xa (256 * x.1) c) (cl j x.1) (cl j x.1), .agg #[.int .i64 ((be (ch l x.1)).1 : Nat), .int .i64 ((be (ch l x.1)).2 : Nat)]] w5 fun e w' => e = .returned (.tuple #[]) ∧ WB w' p (bs0 ++ fx (ch l x.1)) ∧ WK p w5 w' := fun w5 h5 =>
            frame_any (ch l x.1) (frm xa (256 * x.1) c) (cl j x.1) (cl j x.1) (be (ch l x.1)).1 (be (ch l x.1)).2 p bs0 w5 (HWB.out.keep h5) (HIc.out.bel h5) hchl (Nat.le_refl _) (by omega) hci.1 hcm (by omega) (by omega) (by omega)
          clear hIW hIc hfl hbl hbs0 hst hWB hP1 hP2 hBel hlj
          rw [hcv]
          clear hcv hchl hci hcm hxl
          generalize (be (ch l x.1)).1 = BO at *
          generalize (be (ch l x.1)).2 = BK at *
          generalize frm xa (256 * x.1) c = FA at *
          generalize cl j x.1 = CL at *
          gi_wp2
          refine ⟨trivial, ?_⟩
          gi_at_call 35
          refine (CallsIn.inRound r (callsIn_wide.2 hq)).mono ?_
          rintro e w5 ⟨rfl, hb5⟩
          have hq2 := HF2 w5 hb5
          have hK5 : KeepsFrom w2.heap.size W w5 := WK.keeps HWB.out (WK.below hb5 HWB.out.lt) (by omega)
          have HP5 : Hid (Off w5 p b ∧ Off w5 p (b + 1)) := ⟨(HP.out.1.step (WK.below hb5 HWB.out.lt)).1, (HP.out.2.step (WK.below hb5 HWB.out.lt)).1⟩
          have hx5 : Bx b W w5 := ⟨hb5.block _ HP.out.1.1, hb5.block _ HP.out.2.1⟩
          have HB5 : Hid (Below p wr w5) := HBel.out.trans (hb5.mono (by have := HWB.out.lt; omega))
          have HW5 : Hid (WB w5 p bs0) := HWB.out.keep hb5
          clear hq HF2 hb5
          gi_wp2
          refine ⟨trivial, ?_⟩
          gi_at_call 34
          refine (CallsIn.inRound r (callsIn_wide.2 hq2)).mono ?_
          rintro e w6 ⟨rfl, hW6, hK6⟩
          have hk6 := hK5.trans (WK.keeps HW5.out hK6 (show p < w2.heap.size by omega))
          have HO6 : Off w6 p b ∧ Off w6 p (b + 1) := ⟨(HP5.out.1.step hK6).1, (HP5.out.2.step hK6).1⟩
          have hx6 : Bx b W w6 := hx5.trans ⟨(HP5.out.1.step hK6).2, (HP5.out.2.step hK6).2⟩
          have hB6 := HB5.out.trans hK6.bel
          clear hq2
          gi_wp2
          exact ⟨hk6, hx6, by rw [HST.out]; exact hW6, HO6, hB6⟩
        case done =>
          rintro D xs W hD hS ⟨hWB, _, hBel⟩ hK
          have hen : bn j 24 ++ xs.flatMap (fun x => fx (ch l x.1)) = en l := by
            have e1 : xs.flatMap (fun x => fx (ch l x.1)) = (xs.map (·.1)).flatMap (fun i => fx (ch l i)) := by rw [List.flatMap_map]
            rw [e1, hS]
            unfold en fz nf
            rw [HN.out]
          rw [hen] at hWB
          obtain ⟨ba, bc', d0, hcv⟩ := hWB.conv
          have hpl := hWB.lt
          have hpz : p ≤ wr.heap.size := by have := Hp.out; omega
          have hDp : p < D := by omega
          have HB9 : Below wr.heap.size wr (W.putObj D (.deferred none)) := by
            have := Hp.out
            rw [← this]
            exact (show Below p wr W from hBel).trans (belowK_b (w := w2) (n₀ := p) (by omega) W D _ _ hD hK rfl rfl)
          clear hen hS hWB
          generalize pk (en l) = PK at *
          gi_wp2
          refine ⟨by simp, .inl ⟨_, _, rfl, run_takeDeferred hK, ?_⟩⟩
          exact ⟨_, results_tmp2 rfl _ _ _, ⟨by rw [HE0.out.1, HE0.out.2]; rfl, HB9⟩⟩
        case stop =>
          rintro D c pre W _ _ h _
          exact h.elim
end Go.Proofs.Ytdlcnbfiklbiiaa.Co
