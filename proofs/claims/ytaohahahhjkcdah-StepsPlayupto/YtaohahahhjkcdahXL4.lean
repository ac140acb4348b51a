/- The law StepsPlay: its walk. -/
import Derived.Test.YtaohahahhjkcdahX12
import Derived.Test.YtaohahahhjkcdahX13
import Derived.Test.YtaohahahhjkcdahX15
import Derived.Test.YtaohahahhjkcdahXL1
namespace Go.Proofs.Ytaohahahhjkcdah.X
open Go.RowKit Go.Maps Go.Sort
set_option linter.unusedVariables false
set_option linter.unusedSimpArgs false

theorem M.py_get (E : List Z.M.Ev) : ∀ (T : List (Int × Int)) (a : Int) (k : Nat) (t : Int × Int), T[k]? = some t → (M.py E a T)[k]? = some (M.pd1 E (M.ap E a (T.take k)) t) := by
  intro T
  induction T with
  | nil => intro a k t h; simp at h
  | cons x r ih =>
    intro a k t h
    cases k with
    | zero => simp at h; subst h; rfl
    | succ k => exact ih (M.pd1 E a x).p k t (by simpa using h)
theorem M.sk1_bd {a s : Int} (h0 : 0 ≤ a) (h1 : a ≤ 1125899906842624) : 0 ≤ (M.sk1 a s).2 ∧ (M.sk1 a s).2 ≤ 1125899906842624 := by
  unfold M.sk1 M.sk
  split
  · split
    · exact ⟨h0, h1⟩
    · simp only; omega
  · exact ⟨h0, h1⟩
theorem M.nx_bd {E : List Z.M.Ev} {a x : Int} (h0 : 0 ≤ a) (h1 : a ≤ 1125899906842624) : 0 ≤ (M.nx E a x).2.2 ∧ (M.nx E a x).2.2 ≤ 1125899906842624 := by
  unfold M.nx
  split
  · exact ⟨h0, h1⟩
  · split
    · simp only; omega
    · exact ⟨h0, h1⟩
theorem M.ap_bd (E : List Z.M.Ev) : ∀ (T : List (Int × Int)) (a : Int), 0 ≤ a → a ≤ 1125899906842624 → 0 ≤ M.ap E a T ∧ M.ap E a T ≤ 1125899906842624 := by
  intro T
  induction T with
  | nil => intro a h0 h1; exact ⟨h0, h1⟩
  | cons x r ih =>
    intro a h0 h1
    have s := M.sk1_bd (s := x.1) h0 h1
    have n := M.nx_bd (E := E) (x := x.2) s.1 s.2
    exact ih _ n.1 n.2
set_option maxRecDepth 20000 in
set_option maxHeartbeats 4000000 in
theorem play_walk (l : List M.Sc) (ao : Option Addr) (c : Nat) (T : List (Int × Int)) (tao : Option Addr) (tc : Nat) (w : World) (hL : LL w (· < w.heap.size) ao l) (hc : l.length ≤ c) (hcm : c ≤ 9223372036854775807) (hT : TL w (· < w.heap.size) tao T) (htc : T.length ≤ tc) (htm : tc ≤ 9223372036854775807) (hTn : T.length ≤ 1048576) :
    Calls Try.prog 3 #[.slice ao l.length c, .slice tao T.length tc] w fun e w' => e = .returned (.bool true) ∧ Below w.heap.size w w' := by
  have HL : Hid (LL w (· < w.heap.size) ao l) := hL
  have HT : Hid (TL w (· < w.heap.size) tao T) := hT
  have H1 := Long_any l w ao c hL hc hcm
  have H2 := fun (W : World) (hb : Below w.heap.size w W) => refLong_any l W ao c (HL.out.to hb hb.size) hc hcm
  have H3 := fun (W : World) (hb : Below w.heap.size w W) => Play_at l T W ao c tao tc (HL.out.to hb hb.size) hc hcm ⟨fun hn => by
    obtain ⟨b, off, g1, g2, g3⟩ := (HT.out.keep (Kp.below hb)).at' hn
    exact ⟨b, off, g1, Nat.lt_of_lt_of_le g2 hb.size, g3⟩⟩ htc htm hTn
  have HRt : Hid ((M.cks l 1 0 0).1 = 0 → (∀ s ∈ l, M.Ok s) ∧ M.tots l ≤ 1125899906842624) := fun h => by
    obtain ⟨_, _, _, _, g5, g6⟩ := M.cks_right (by omega) (by omega) (by omega) h
    exact ⟨g6, by omega⟩
  obtain ⟨VE, hVE⟩ : ∃ V, V = (M.cks l 1 0 0).1 := ⟨_, rfl⟩
  obtain ⟨VV, hVV⟩ : ∃ V, V = (M.cks l 1 0 0).2.2 := ⟨_, rfl⟩
  have HVE : Hid (VE = (M.cks l 1 0 0).1) := hVE
  rw [← hVE] at H1 H2 HRt
  rw [← hVV] at H1 H2
  clear hL hT hVE hVV
  go_enter Try.func3, Try.ntmps3
  go_wp2_with fail
  refine H1.mono ?_
  rintro e w1 ⟨rfl, hb1⟩
  go_wp2_with fail
  refine (H2 _ hb1).mono ?_
  rintro e w2 ⟨rfl, hb2⟩
  have hb02 := hb1.trans (hb2.mono hb1.size)
  have hs1 : (VV != VV) = false := by simp
  have hs2 : (VE != VE) = false := by simp
  clear H1 H2 hb1 hb2
  go_wp2_with fail
  refine (H3 _ hb02).mono ?_
  rintro e w3 ⟨hb3, a3, n3, c3, rfl, j1, j2, j3, j4⟩
  have hb03 := hb02.trans (hb3.mono hb02.size)
  rw [← HVE.out] at j3 j4 ⊢
  have J4 : Hid (VE = 0 → n3 = T.length ∧ DL w3 (· < w3.heap.size) a3 (M.py (M.pls l 0) 0 T)) := j4
  have J3 : Hid (VE ≠ 0 → n3 = 0) := j3
  clear H3 hb3 j3 j4 HVE
  by_cases hz : VE = 0
  · obtain ⟨q1, q2⟩ := J4.out hz
    obtain ⟨hok, htot⟩ := HRt.out hz
    subst hz q1
    have hnn : ((T.length : Int) != (T.length : Int)) = false := by simp
    have HN := fun (W : World) (hb : Below w.heap.size w W) (a x : Int) (a0 : 0 ≤ a) (a1 : a ≤ 1125899906842624) (hx : x ≤ 9223372036854775807) => refNext_any l hok htot a x W ao c (HL.out.to hb hb.size) hc hcm a0 a1 hx
    have HQ : Hid (DL w3 (· < w3.heap.size) a3 (M.py (M.pls l 0) 0 T)) := q2
    have HG : Hid (∀ k t, T[k]? = some t → (M.py (M.pls l 0) 0 T)[k]? = some (M.pd1 (M.pls l 0) (M.ap (M.pls l 0) 0 (T.take k)) t)) := fun k t h => M.py_get (M.pls l 0) T 0 k t h
    have HAp : Hid (∀ k t, T[k]? = some t → M.ap (M.pls l 0) 0 (T.take (k + 1)) = (M.pd1 (M.pls l 0) (M.ap (M.pls l 0) 0 (T.take k)) t).p) := fun k t h => by
      show _ = _
      rw [M.take_one h]; exact (M.py_snoc (M.pls l 0) 0 (T.take k) t).2
    have HBd : Hid (∀ k, 0 ≤ M.ap (M.pls l 0) 0 (T.take k) ∧ M.ap (M.pls l 0) 0 (T.take k) ≤ 1125899906842624) := fun k => M.ap_bd (M.pls l 0) (T.take k) 0 (by omega) (by omega)
    have hpl := M.py_len (M.pls l 0) 0 T
    have HPL : Hid ((M.py (M.pls l 0) 0 T).length = T.length) := hpl
    clear J4 J3 HRt q2 hok htot HL hpl
    generalize M.pls l 0 = E at *
    go_wp2_with fail
    go_loopw [63, 10] (fun i x wr => ∃ (k : Nat), k ≤ T.length ∧ i = .int .i64 k ∧ x = .int .i64 (M.ap E 0 (T.take k)) ∧ Below w3.heap.size w3 wr) (fun i _ _ => T.length - (intOf i).toNat)
    case atStart => exact ⟨0, by omega, rfl, rfl, Below.refl _ _⟩
    case round =>
      obtain ⟨k, hkn, rfl, rfl, hbr⟩ := hrel
      have zr := hbr.size
      have hb0r := hb03.trans (hbr.mono hb03.size)
      by_cases hlt : k < T.length
      · have hlt' : (k : Int) < (T.length : Int) := by omega
        obtain ⟨t, ht⟩ : ∃ t, T[k]? = some t := ⟨_, List.getElem?_eq_getElem hlt⟩
        obtain ⟨b, off, rfl, hbB, q0⟩ := (HT.out.keep (Kp.below hb0r)).at' (by omega)
        obtain ⟨r0, r1, r2⟩ := q0 k t ht
        have bz : b < wr.heap.size := by have := hb0r.size; omega
        have w3' : IntKind.i64.wrap ((k : Int) + 1) = (k : Int) + 1 := wid (by omega) (by omega)
        obtain ⟨bd0, bd1⟩ := HBd.out k
        have eg := HG.out k t ht
        have ea := HAp.out k t ht
        have hlen := HPL.out
        obtain ⟨b3, o3, rfl, l3, f3⟩ := HQ.out.at' (by omega)
        obtain ⟨ev3, x0, x1, x2, x3, x4⟩ := f3 k _ eg
        have EA : Hid (M.ap E 0 (T.take (k + 1)) = (M.pd1 E (M.ap E 0 (T.take k)) t).p) := ea
        clear eg ea f3 ht q0 HQ HG HAp HBd HPL hlen
        generalize M.ap E 0 (T.take k) = a at *
        obtain ⟨ts, tt⟩ := t
        have epd : M.pd1 E a (ts, tt) = ⟨(M.sk1 a ts).1, (M.nx E (M.sk1 a ts).2 tt).1, (M.nx E (M.sk1 a ts).2 tt).2.1, (M.nx E (M.sk1 a ts).2 tt).2.2⟩ := rfl
        rw [epd] at x0 x1 x3 x4 EA
        dsimp only at *
        have sb := M.sk1_bd (a := a) (s := ts) bd0 bd1
        have b3z : b3 < w3.heap.size := l3
        rcases (show 1125899906842624 < ts ∨ (¬ 1125899906842624 < ts ∧ 0 ≤ ts) ∨ (¬ 1125899906842624 < ts ∧ ¬ 0 ≤ ts) by omega) with d | ⟨d, d'⟩ | ⟨d, d'⟩
        · have eS : M.sk1 a ts = (3, a) := by unfold M.sk1 M.sk; rw [if_pos (by omega), if_pos (by omega)]
          rw [eS] at x0 x1 x3 x4 EA
          clear eS sb epd
          dsimp only at *
          have hbX : Below wr.heap.size wr (wr.alloc (Obj.cells #[.int .i64 ts, .int .i64 tt] 31)) := (Below.refl _ _).alloc (Nat.le_refl _) _
          have hb0X := hb0r.trans (hbX.mono hb0r.size)
          have HNx := HN _ hb0X a tt (by omega) (by omega) r2
          clear HN
          generalize M.nx E a tt = NX at *
          obtain ⟨NE, NL, NA⟩ := NX
          dsimp only at *
          go_wp2_with fail
          refine HNx.mono ?_
          rintro e w5 ⟨⟨v5, rfl, hev5⟩, hb5⟩
          have hb35 : Below w3.heap.size w3 w5 := (hbr.trans (hbX.mono zr)).trans (hb5.mono (by simp; omega))
          have hb05 := hb03.trans (hb35.mono hb03.size)
          have y0 := keepC hb35 b3z x0
          have y1 := keepC hb35 b3z x1
          have y2 := keepC hb35 b3z x2
          have y3 := keepC hb35 b3z x3
          have z5 : b3 < w5.heap.size := by have := hb35.size; omega
          have hSm := Same_evs (x4.keep (w' := w5) (S' := (· < w5.heap.size)) (Kp.below hb35) (fun b hb => Nat.lt_of_lt_of_le hb hb35.size)) hev5
          have n1 : (NE != NE) = false := by simp
          have n2 : (NA != NA) = false := by simp
          obtain ⟨va, vc, hve, _⟩ := x4
          obtain ⟨va5, vc5, hve5, _⟩ := hev5
          subst hve hve5
          clear x0 x1 x2 x3 hb5 HNx hbX hb0X r0 r1
          go_wp2_with fail
          refine hSm.mono ?_
          rintro e w6 ⟨rfl, hb6⟩
          have hb36 := hb35.trans (hb6.mono hb35.size)
          clear hSm hb6 y0 y1 y2 y3
          go_wp2_with fail
          go_roundw
          case rel => exact ⟨k + 1, by omega, by go_num, by rw [EA.out], hb36⟩
          case measure => simp [intOf]; omega
        · have eS : M.sk1 a ts = (0, ts) := M.sk1_yes d' (by omega)
          rw [eS] at x0 x1 x3 x4 EA
          clear eS sb epd
          dsimp only at *
          have hbX : Below wr.heap.size wr (wr.alloc (Obj.cells #[.int .i64 ts, .int .i64 tt] 31)) := (Below.refl _ _).alloc (Nat.le_refl _) _
          have hb0X := hb0r.trans (hbX.mono hb0r.size)
          have HNx := HN _ hb0X ts tt (by omega) (by omega) r2
          clear HN
          generalize M.nx E ts tt = NX at *
          obtain ⟨NE, NL, NA⟩ := NX
          dsimp only at *
          go_wp2_with fail
          refine HNx.mono ?_
          rintro e w5 ⟨⟨v5, rfl, hev5⟩, hb5⟩
          have hb35 : Below w3.heap.size w3 w5 := (hbr.trans (hbX.mono zr)).trans (hb5.mono (by simp; omega))
          have hb05 := hb03.trans (hb35.mono hb03.size)
          have y0 := keepC hb35 b3z x0
          have y1 := keepC hb35 b3z x1
          have y2 := keepC hb35 b3z x2
          have y3 := keepC hb35 b3z x3
          have z5 : b3 < w5.heap.size := by have := hb35.size; omega
          have hSm := Same_evs (x4.keep (w' := w5) (S' := (· < w5.heap.size)) (Kp.below hb35) (fun b hb => Nat.lt_of_lt_of_le hb hb35.size)) hev5
          have n1 : (NE != NE) = false := by simp
          have n2 : (NA != NA) = false := by simp
          obtain ⟨va, vc, hve, _⟩ := x4
          obtain ⟨va5, vc5, hve5, _⟩ := hev5
          subst hve hve5
          clear x0 x1 x2 x3 hb5 HNx hbX hb0X r0 r1
          go_wp2_with fail
          refine hSm.mono ?_
          rintro e w6 ⟨rfl, hb6⟩
          have hb36 := hb35.trans (hb6.mono hb35.size)
          clear hSm hb6 y0 y1 y2 y3
          go_wp2_with fail
          go_roundw
          case rel => exact ⟨k + 1, by omega, by go_num, by rw [EA.out], hb36⟩
          case measure => simp [intOf]; omega
        · have eS : M.sk1 a ts = (0, a) := M.sk1_no (by omega)
          rw [eS] at x0 x1 x3 x4 EA
          clear eS sb epd
          dsimp only at *
          have hbX : Below wr.heap.size wr (wr.alloc (Obj.cells #[.int .i64 ts, .int .i64 tt] 31)) := (Below.refl _ _).alloc (Nat.le_refl _) _
          have hb0X := hb0r.trans (hbX.mono hb0r.size)
          have HNx := HN _ hb0X a tt (by omega) (by omega) r2
          clear HN
          generalize M.nx E a tt = NX at *
          obtain ⟨NE, NL, NA⟩ := NX
          dsimp only at *
          go_wp2_with fail
          refine HNx.mono ?_
          rintro e w5 ⟨⟨v5, rfl, hev5⟩, hb5⟩
          have hb35 : Below w3.heap.size w3 w5 := (hbr.trans (hbX.mono zr)).trans (hb5.mono (by simp; omega))
          have hb05 := hb03.trans (hb35.mono hb03.size)
          have y0 := keepC hb35 b3z x0
          have y1 := keepC hb35 b3z x1
          have y2 := keepC hb35 b3z x2
          have y3 := keepC hb35 b3z x3
          have z5 : b3 < w5.heap.size := by have := hb35.size; omega
          have hSm := Same_evs (x4.keep (w' := w5) (S' := (· < w5.heap.size)) (Kp.below hb35) (fun b hb => Nat.lt_of_lt_of_le hb hb35.size)) hev5
          have n1 : (NE != NE) = false := by simp
          have n2 : (NA != NA) = false := by simp
          obtain ⟨va, vc, hve, _⟩ := x4
          obtain ⟨va5, vc5, hve5, _⟩ := hev5
          subst hve hve5
          clear x0 x1 x2 x3 hb5 HNx hbX hb0X r0 r1
          go_wp2_with fail
          refine hSm.mono ?_
          rintro e w6 ⟨rfl, hb6⟩
          have hb36 := hb35.trans (hb6.mono hb35.size)
          clear hSm hb6 y0 y1 y2 y3
          go_wp2_with fail
          go_roundw
          case rel => exact ⟨k + 1, by omega, by go_num, by rw [EA.out], hb36⟩
          case measure => simp [intOf]; omega
      · obtain rfl : k = T.length := by omega
        have hlt' : ¬ ((T.length : Nat) : Int) < T.length := by omega
        go_wp2_with fail
        go_ret
        exact ⟨rfl, hb0r⟩
  · have h0 := J3.out hz
    subst h0
    have hy : (VE != 0) = true := by simp [hz]
    have hs3 : (VE == VE) = true := by simp
    clear J4 J3 HRt hz HL HT
    go_wp2_with fail
    go_ret
    exact ⟨rfl, hb03⟩
end Go.Proofs.Ytaohahahhjkcdah.X
