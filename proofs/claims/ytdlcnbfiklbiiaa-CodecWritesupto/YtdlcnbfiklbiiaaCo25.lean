/- CodecTurns: the law's text, walked. -/
import Derived.Test.YtdlcnbfiklbiiaaCo24
namespace Go.Proofs.Ytdlcnbfiklbiiaa.Co
open Go.RowKit Go.Maps Go.Sort
set_option linter.unusedVariables false
set_option linter.unusedSimpArgs false

set_option maxHeartbeats 2000000 in
theorem Same_q (w : World) (S S' : Nat → Prop) (ao bo : Option Addr) (g : List Int) (m c d : Nat) (ha : IL w S ao g) (hb : IL w S' bo g) (hg : g.length = m) (mc1 : m ≤ c) (mc2 : c ≤ 9223372036854775807) (md1 : m ≤ d) (md2 : d ≤ 9223372036854775807) :
    Calls Try.prog 21 #[.slice ao m c, .slice bo m d] w fun e w' => e = .returned (.bool true) ∧ ∃ q, w' = w.drewN q := by
  have HA : Hid (IL w S ao g) := ha
  have HB : Hid (IL w S' bo g) := hb
  have HG : Hid (g.length = m) := hg
  clear ha hb hg
  go_enter Try.func21, Try.ntmps21
  go_wp2_with fail
  go_loopw [13] (fun i ww => ∃ k q : Nat, k ≤ m ∧ i = .int .i64 k ∧ ww = w.drewN q) (fun i _ => m - (intOf i).toNat)
  case atStart => exact ⟨0, 0, by omega, rfl, rfl⟩
  case round =>
    obtain ⟨k, q, hk, rfl, rfl⟩ := hrel
    by_cases hlt : k < m
    · obtain ⟨na, oa, rfl, la, _, ga⟩ := HA.out.at' (by rw [HG.out]; omega)
      obtain ⟨nb, ob, rfl, lb, _, gb⟩ := HB.out.at' (by rw [HG.out]; omega)
      obtain ⟨x, hx⟩ : ∃ x, g[k]? = some x := ⟨_, List.getElem?_eq_getElem (by rw [HG.out]; exact hlt)⟩
      have ca := ga k x hx
      have cb := gb k x hx
      have hlt' : (k : Int) < (m : Int) := by omega
      have w3 : IntKind.i64.wrap ((k : Int) + 1) = (k : Int) + 1 := wid (by omega) (by omega)
      clear ga gb hx
      go_wp2_with fail
      go_quiet (fail)
      go_wp2_with fail
      go_roundw
      case rel => exact ⟨k + 1, _, by omega, by go_num, rfl⟩
      case measure => simp [intOf]; omega
    · go_wp2_with fail
      go_ret
      exact ⟨rfl, q, rfl⟩
theorem alive_any (w : World) : Calls Try.prog 22 #[] w fun e w' => e = .returned (.bool true) ∧ Below w.heap.size w w' := by
  have hq := Encode_any [] (fun _ => False) none 0 0 w (IL.nil _ _ _) (fun _ h => h.elim) rfl (by omega) (by omega)
  have e1 : ee [] = 0 := by decide
  have e2 : (bt (eb [])).size = 3 := by rw [bt_size]; unfold eb; rw [if_pos e1]; decide
  rw [e1] at hq
  have HE : Hid ((bt (eb [])).size = 3) := e2
  generalize bt (eb []) = B at *
  clear e1
  go_enter Try.func22, Try.ntmps22
  go_wp2_with fail
  refine hq.mono ?_
  rintro e w1 ⟨rfl, hb⟩
  clear hq
  go_wp2_with fail
  go_ret
  exact ⟨rfl, hb⟩
theorem ee_ok (l : List Int) (h : ee l = 0) : l.length ≤ 1048576 ∧ (∀ x ∈ l, inR x) := by
  unfold ee at h
  by_cases q : 1048576 < l.length
  · rw [if_pos q] at h; omega
  · rw [if_neg q] at h
    refine ⟨by omega, ?_⟩
    by_cases z : l.all sok = true
    · exact fun x hx => (sok_iff x).1 (List.all_eq_true.1 z x hx)
    · rw [if_neg z] at h; omega
theorem ok_ee (l : List Int) (h1 : l.length ≤ 1048576) (h2 : ∀ x ∈ l, inR x) : ee l = 0 ∧ eb l = pk (en l) := by
  have e : ee l = 0 := by
    unfold ee
    rw [if_neg (by omega), if_pos (List.all_eq_true.2 fun x hx => (sok_iff x).2 (h2 x hx))]
  exact ⟨e, by unfold eb; rw [if_pos e]⟩
theorem en_size (l : List Int) (h1 : l.length ≤ 1048576) (h2 : ∀ x ∈ l, inR x) : (bt (pk (en l))).size ≤ 140737488355328 := by
  rw [bt_size, pk_len]
  have h := flat_len l h2 (List.range (nf l))
  have h3 : (en l).length = 24 + (fz l (nf l)).length := by unfold en; rw [List.length_append, bn_len]
  have h4 : (fz l (nf l)).length ≤ nf l * 8198 := by unfold fz; rw [List.length_range] at h; exact h
  have h5 : nf l ≤ 4096 := by unfold nf; omega
  omega
set_option maxRecDepth 8000 in
set_option maxHeartbeats 8000000 in
theorem turns_walk (l : List Int) (ao : Option Addr) (n c : Nat) (s : ByteArray) (w : World) (hI : IL w (fun b => b < w.heap.size) ao l) (hn : l.length = n) (hc : n ≤ c) (hc2 : c ≤ 9223372036854775807) (hs : s.size ≤ 140737488355328) :
    Calls Try.prog 8 #[.slice ao n c, .string s] w fun e w' => e = .returned (.bool true) ∧ Below w.heap.size w w' := by
  have HI : Hid (IL w (fun b => b < w.heap.size) ao l) := hI
  have HN : Hid (l.length = n) := hn
  clear hI hn
  go_enter Try.func8, Try.ntmps8
  go_wp2_with fail
  refine (alive_any _).mono ?_
  rintro e w1 ⟨rfl, hb1⟩
  have hq := Encode_any l (fun b => b < w.heap.size) ao n c w1 (HI.out.bel hb1) (fun b hb => by have := hb1.size; omega) HN.out hc hc2
  have HB1 : Hid (Below w.heap.size w w1) := hb1
  clear hb1
  go_wp2_with fail
  refine hq.mono ?_
  rintro e w2 ⟨rfl, hb2⟩
  have HB2 : Hid (Below w.heap.size w w2) := HB1.out.trans (hb2.mono HB1.out.size)
  clear hq hb2 HB1
  by_cases he : ee l = 0
  case' pos =>
    have hok := ee_ok l he
    have hoe := ok_ee l hok.1 hok.2
    have hqd := Decode_any (bt (eb l)) w2 (by rw [hoe.2]; exact en_size l hok.1 hok.2)
    rw [hoe.2, dc_en l hok.1 hok.2] at hqd
    rw [he, hoe.2]
    clear he hoe hok
    generalize bt (pk (en l)) = EB at *
    go_wp2_with fail
    refine hqd.mono ?_
    rintro e w3 ⟨⟨v, rfl, hv⟩, hb3⟩
    obtain ⟨va, vc, rfl, v1, v2, v3, v4⟩ := IL.own hv rfl
    have HB3 : Hid (Below w.heap.size w w3) := HB2.out.trans (hb3.mono HB2.out.size)
    have hsm := Same_q w3 _ (fun b => b < w.heap.size) va ao l l.length vc c v4 (HI.out.keep (fun b hb hl => HB3.out.block b hb) HB3.out.size (fun _ h _ => h)) rfl v1 v2 (by rw [HN.out]; exact hc) hc2
    rw [HN.out] at hsm ⊢
    clear hqd hv hb3 v4 HB2
    go_wp2_with fail
    refine hsm.mono ?_
    rintro e w4 ⟨rfl, q4, hw4⟩
    have HBB : Hid (Below w.heap.size w w4) := by rw [hw4]; exact below_drewN HB3.out _
    clear hsm hw4 HB3
    go_wp2_with fail
  case' neg =>
    have he' : (ee l == 0) = false := by simpa using he
    generalize bt (eb l) = EB at *
    generalize ee l = E at *
    clear he
    have HBB : Hid (Below w.heap.size w w2) := HB2
    clear HB2
    go_wp2_with fail
  all_goals
    refine (Decode_any s _ hs).mono ?_
    rintro e w5 ⟨⟨v, rfl, hv⟩, hb5⟩
    have HB5 : Hid (Below w.heap.size w w5) := HBB.out.trans (hb5.mono HBB.out.size)
    clear hb5 HBB
    by_cases hd : (dc (tb s)).2 = 0
    · have hbk := dc_back s hd
      rw [hd]
      obtain ⟨x, hx⟩ : ∃ x, x = (dc (tb s)).1 := ⟨_, rfl⟩
      rw [← hx] at hv hbk
      clear hx hd
      obtain ⟨xa, xc, rfl, x1, x2, x3, x4⟩ := IL.own hv rfl
      have hlt5 : ∀ b, some b = (Value.slice xa x.length xc).ownBlock → b < w5.heap.size := fun b hb => own_lt hv b hb.symm
      have hoe := ok_ee x hbk.1 hbk.2.1
      have hqe := Encode_any x _ xa x.length xc w5 x4 hlt5 rfl x1 x2
      rw [hoe.1, hoe.2] at hqe
      have hsz := en_size x hbk.1 hbk.2.1
      have hde := dc_en x hbk.1 hbk.2.1
      have hle : (bt (pk (en x))).size ≤ s.size := by rw [bt_size]; exact hbk.2.2
      have HX : Hid (IL w5 (fun b => b < w5.heap.size) xa x) := x4.keep (fun _ _ _ => rfl) (Nat.le_refl _) (fun b hb _ => hlt5 b hb)
      have HQ : ∀ w6, Calls Try.prog 19 #[.string (bt (pk (en x)))] w6 fun e w' => (∃ v, e = .returned (.tuple #[v, .int .i64 0]) ∧ w'.ownsRow (w6.heap.size + 1) 3 1 v x.length (ints x)) ∧ Below w6.heap.size w6 w' := fun w6 => by
        have h := Decode_any (bt (pk (en x))) w6 hsz
        rw [hde] at h; exact h
      clear hoe hsz hde hv x4 hlt5 hbk x3
      generalize bt (pk (en x)) = EB2 at *
      have hle' : ¬ ((s.size : Nat) : Int) < ((EB2.size : Nat) : Int) := by omega
      obtain ⟨m, hm⟩ : ∃ m, m = x.length := ⟨_, rfl⟩
      rw [← hm] at x1 hqe ⊢
      have HM : Hid (m = x.length) := hm
      clear hm
      go_wp2_with fail
      refine hqe.mono ?_
      rintro e w6 ⟨rfl, hb6⟩
      have hqd2 := HQ w6
      have HB6 : Hid (Below w5.heap.size w5 w6) := hb6
      clear hqe HQ hb6
      go_wp2_with fail
      refine hqd2.mono ?_
      rintro e w7 ⟨⟨v7, rfl, hv7⟩, hb7⟩
      obtain ⟨ya, yc, rfl, y1, y2, y3, y4⟩ := IL.own hv7 rfl
      have HB57 : Hid (Below w5.heap.size w5 w7) := HB6.out.trans (hb7.mono HB6.out.size)
      have hsm2 := Same_q w7 (fun b => b < w5.heap.size) _ xa ya x m xc yc (HX.out.keep (fun b hb _ => HB57.out.block b hb) HB57.out.size (fun _ h _ => h)) y4 HM.out.symm x1 x2 (by rw [HM.out]; exact y1) y2
      rw [← HM.out]
      clear hqd2 hv7 hb7 y4 HX y1 y3
      go_wp2_with fail
      refine hsm2.mono ?_
      rintro e w8 ⟨rfl, q8, hw8⟩
      have HB8 : Hid (Below w.heap.size w w8) := by rw [hw8]; exact below_drewN (HB5.out.trans (HB57.out.mono HB5.out.size)) _
      clear hsm2 hw8
      go_wp2_with fail
      go_ret
      exact ⟨rfl, HB8.out⟩
    · have hd' : ((dc (tb s)).2 != 0) = true := by simpa using hd
      obtain ⟨va, vc, rfl, v1, v2⟩ := own_form hv
      generalize (dc (tb s)).2 = ER at *
      generalize (dc (tb s)).1 = XS at *
      clear hd hv
      go_wp2_with fail
      go_ret
      exact ⟨rfl, HB5.out⟩
end Go.Proofs.Ytdlcnbfiklbiiaa.Co
