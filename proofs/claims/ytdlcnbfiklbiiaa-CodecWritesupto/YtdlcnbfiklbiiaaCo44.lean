/- The document's Decode, at every text. -/
import Derived.Test.YtdlcnbfiklbiiaaCoMath5
import Derived.Test.YtdlcnbfiklbiiaaCo40
import Derived.Test.YtdlcnbfiklbiiaaCo42
import Derived.Test.YtdlcnbfiklbiiaaCo43
import Derived.Deep.Cut
namespace Go.Proofs.Ytdlcnbfiklbiiaa.Co
open Go.RowKit Go.Maps Go.Sort
set_option linter.unusedVariables false
set_option linter.unusedSimpArgs false

/-- Frames behind a frame. -/
def mra (many g : Nat) (R : Option (List Int × List Nat)) : Option (List Int × List Nat) := match R with
  | some q => ra many g q.1 q.2
  | none => none
theorem ra_m {many g : Nat} {out : List Int} {r : List Nat} : ra many (g + 1) out r = if out.length < many then mra many g (rr out (min (many - out.length) 256) r) else some (out, r) := by
  rw [ra_step]
  cases rr out (min (many - out.length) 256) r with
  | none => rfl
  | some q => rfl
theorem sokF1 (Y : Int) (h : Y < -32768) : (true && sok Y) = false := by unfold sok; simp; omega
theorem sokF2 (Y : Int) (h : 32767 < Y) : (true && sok Y) = false := by unfold sok; simp; omega
theorem sokD (Y : Int) (h : -32768 ≤ Y) : (true && sok Y) = decide (Y ≤ 32767) := by unfold sok; simp [h]
theorem sokT (Y : Int) (h : -32768 ≤ Y) (h2 : Y ≤ 32767) : (true && sok Y) = true := by unfold sok; simp; omega
set_option maxRecDepth 8000 in
set_option maxHeartbeats 16000000 in
theorem refDecode_any (s : ByteArray) (w : World) (hs : s.size ≤ 2097152) :
    Calls Try.prog 20 #[.string s] w fun e w' => (∃ v, e = .returned (.tuple #[v, .int .i64 (dc (tb s)).2]) ∧ w'.ownsRow w.heap.size 3 1 v (dc (tb s)).1.length (ints (dc (tb s)).1)) ∧ Below w.heap.size w w' := by
  have hqA := all_any s w (by omega)
  have hbits : bits2 (tb s) := u8_bits _
  have hlen := tb_len s
  generalize tb s = l at *
  obtain ⟨DD, hDD⟩ : ∃ DD, DD = dc l := ⟨_, rfl⟩
  rw [← hDD]
  have e24 := tk_rn l 0 24 (Nat.zero_le _)
  have l24 := tk_lt l 0 24 hbits
  have a24 := (tk_le l 0 24 (Nat.zero_le _)).1
  rw [List.drop_zero] at e24
  have hdef : DD = if (rn 24 l).1 = true then (if 1048576 < (rn 24 l).2.1 then ([], 5) else fin (ra (rn 24 l).2.1 ((rn 24 l).2.1 + 1) [] (rn 24 l).2.2)) else ([], 2) := hDD
  rw [← e24.1, ← e24.2.1] at hdef
  obtain ⟨N, hN⟩ : ∃ N, N = l.length := ⟨_, rfl⟩
  have HN : Hid (N = l.length) := hN
  have HLB : Hid (bits2 l) := hbits
  have hNb : N ≤ 16777216 := by omega
  clear hDD hbits hlen
  go_enter Try.func20, Try.ntmps20
  go_wp2_with fail
  refine hqA.mono ?_
  rintro e w1 ⟨v1, rfl, hv1, hb1⟩
  obtain ⟨xa, c, rfl, hc, hc2, _, hIL⟩ := IL.own (l := nts l) hv1 (nts_len l)
  rw [← hN] at hc a24 ⊢
  have HTK : Hid (∀ w' (a m : Nat), Below w1.heap.size w1 w' → a ≤ N → m ≤ 24 → Calls Try.prog 44 #[.slice xa N c, .int .i64 (a : Int), .int .i64 (m : Int)] w' fun e w2 => e = .returned (.tuple #[.int .i64 (((tk l a m).1 : Nat) : Int), .int .i64 (((tk l a m).2.1 : Nat) : Int), .bool (tk l a m).2.2]) ∧ Below w'.heap.size w' w2) := fun w' a m h h1 h2 => take_any l _ xa N c a m w' (hIL.bel h) hN.symm hc hc2 HLB.out (by omega) h2 (by omega)
  have HRC : Hid (∀ w' (a k : Nat), Below w1.heap.size w1 w' → a ≤ N → k ≤ 15 → Calls Try.prog 45 #[.slice xa N c, .int .i64 (a : Int), .int .i64 (k : Int)] w' fun e w2 => ∃ u, Ones l a u ∧ e = .returned (.tuple #[.int .i64 (((ri l a k u).1 : Nat) : Int), .int .i64 (((ri l a k u).2.1 : Nat) : Int), .bool (ri l a k u).2.2]) ∧ Below w'.heap.size w' w2) := fun w' a k h h1 h2 => rice_any l _ xa N c a k w' (hIL.bel h) hN.symm hc hc2 HLB.out h1 h2 (by omega)
  have HBW : Hid (∀ w', Below w1.heap.size w1 w' → Below w.heap.size w w') := fun w' h => hb1.trans (h.mono hb1.size)
  have HB1z : Hid (w.heap.size ≤ w1.heap.size) := hb1.size
  have HIL : Hid (∃ S, IL w1 S xa (nts l)) := ⟨_, hIL⟩
  have hqt := HTK.out w1 0 24 (Below.refl _ _) (by omega) (by omega)
  generalize tk l 0 24 = T at *
  obtain ⟨X, q0, ok⟩ := T
  simp only at hqt e24 l24 a24 hdef
  have hX : X < 16777216 := by simpa using l24
  clear hqA hv1 hIL hb1 hN l24
  cases ok with
  | false =>
    have HE : Hid (DD = ([], 2)) := hdef
    clear hdef e24
    go_wp2_with fail
    refine hqt.mono ?_
    rintro e w2 ⟨rfl, hb2⟩
    have HB2 := HBW.out _ hb2
    clear hqt hb2
    go_wp2_with fail
    go_returns
    exact ⟨⟨.slice none 0 0, by rw [HE.out]; rfl, by rw [HE.out]; exact World.ownsRow_nil _ _ _ _⟩, HB2⟩
  | true =>
    have hdef2 : DD = if 1048576 < X then ([], 5) else fin (ra X (X + 1) [] (rn 24 l).2.2) := hdef
    rw [← e24.2.2 rfl] at hdef2
    clear hdef e24
    by_cases hbig : 1048576 < X
    · have HE2 : Hid (DD = ([], 5)) := by show _ = _; rw [hdef2, if_pos hbig]
      have hbig' : (1048576 : Int) < (X : Int) := by omega
      clear hdef2
      go_wp2_with fail
      refine hqt.mono ?_
      rintro e w2 ⟨rfl, hb2⟩
      have HB2 := HBW.out _ hb2
      clear hqt hb2
      go_wp2_with fail
      go_returns
      exact ⟨⟨.slice none 0 0, by rw [HE2.out]; rfl, by rw [HE2.out]; exact World.ownsRow_nil _ _ _ _⟩, HB2⟩
    · have hbig' : ¬ (1048576 : Int) < (X : Int) := by omega
      obtain ⟨RA, hRA⟩ : ∃ RA, RA = ra X (X + 1) [] (l.drop q0) := ⟨_, rfl⟩
      rw [if_neg hbig, ← hRA] at hdef2
      have HE2 : Hid (DD = fin RA) := hdef2
      have HRA : Hid (RA = ra X (X + 1) [] (l.drop q0)) := hRA
      clear hdef2 hRA
      go_wp2_with fail
      refine hqt.mono ?_
      rintro e w2 ⟨rfl, hb2⟩
      have HBz2 : Hid (Below w1.heap.size w1 w2) := hb2
      clear hqt hb2
      go_wp2_with fail
      go_loopw [8, 6] (fun v a wr => ∃ (g : Nat) (o' : List Int) (q : Nat) (va : Option Addr) (n vc : Nat), v = .slice va n vc ∧ n ≤ vc ∧ vc ≤ 9223372036854775807 ∧ Hid (va = none → vc = 0) ∧ n ≤ X ∧ X < n + g ∧ a = .int .i64 (q : Int) ∧ q ≤ N ∧ Hid (o'.length = n ∧ (∀ x ∈ o', inR x)) ∧ Hid (RA = ra X g o' (l.drop q)) ∧ Hid (wr.ownsRow w1.heap.size 3 1 (.slice va n vc) n (ints o')) ∧ Hid (Below w1.heap.size w1 wr)) (fun v _ _ => X - slen v)
      case atStart => exact ⟨X + 1, [], q0, none, 0, 0, rfl, by omega, by omega, fun _ => rfl, by omega, by omega, rfl, a24, ⟨rfl, fun x hx => by cases hx⟩, HRA, World.ownsRow_nil _ _ _ _, HBz2⟩
      case round =>
        obtain ⟨g, o', q, va, n, vc, rfl, hv1, hv2, hv3, hnX, hgX, rfl, hqN, hL, hE, hO, hB⟩ := hrel
        obtain ⟨wo, hwo⟩ : ∃ y, y = wr := ⟨wr, rfl⟩
        subst hwo
        have HBo : Hid (Below w1.heap.size w1 wo) := hB
        have HO : Hid (wo.ownsRow w1.heap.size 3 1 (.slice va n vc) n (ints o')) := hO
        have hqN' : q ≤ l.length := by rw [← HN.out]; exact hqN
        clear hB hO HRA HBz2
        by_cases hlt : n < X
        · have hlt' : (n : Int) < (X : Int) := by omega
          obtain ⟨g', rfl⟩ : ∃ g', g = g' + 1 := ⟨g - 1, by omega⟩
          obtain ⟨L, hLg⟩ : ∃ L, L = min (X - n) 256 := ⟨_, rfl⟩
          have hL0 : 0 < L ∧ L ≤ 256 ∧ n + L ≤ X ∧ (L = 256 ∨ n + L = X) := by omega
          have hEs := hE.out
          rw [ra_m, hL.out.1, if_pos hlt, ← hLg] at hEs
          have hq1 := HTK.out wo q 2 HBo.out hqN (by omega)
          have l1 := tk_lt l q 2 HLB.out
          have a1 := (tk_le l q 2 hqN').1
          have hn1 := head_no1 l q o' L hqN'
          have hn2 := head_no2 l q o' L hqN'
          have hy := head_yes l q o' L HLB.out hqN'
          rw [← HN.out] at a1
          obtain ⟨RR, hRR⟩ : ∃ RR, RR = rr o' L (l.drop q) := ⟨_, rfl⟩
          rw [← hRR] at hEs hn1 hn2 hy
          generalize tk l q 2 = T1 at *
          obtain ⟨o, q1, k1⟩ := T1
          simp only at hq1 l1 a1 hn1 hn2 hy
          have HEs : Hid (RA = mra X g' RR) := hEs
          have l1' : o < 4 := by simpa using l1
          have wn : IntKind.i64.wrap ((n : Int) + 0) = (n : Int) := by rw [wid (by omega) (by omega)]; omega
          clear hE hLg hEs hRR l1
          cases k1 with
          | false =>
            have HEn : Hid (RA = none) := by show _ = _; rw [HEs.out, hn1 rfl]; rfl
            clear hn1 hn2 hy HEs
            go_wp2_with fail
            refine hq1.mono ?_
            rintro e w3 ⟨rfl, hb3⟩
            have HBt : Hid (Below w1.heap.size w1 w3) := HBo.out.trans (hb3.mono HBo.out.size)
            clear hq1 hb3
            go_wp2_with fail
            go_loopw [11, 7] (fun f b wi => f = .slice none 0 0 ∧ b = .bool false ∧ wi = w3) (fun f _ _ => 0)
            case atStart => exact ⟨rfl, rfl, rfl⟩
            case round =>
              obtain ⟨rfl, rfl, hwi⟩ := hrel
              subst hwi
              go_wp2_with (simp only [wn])
              go_returns
              exact ⟨⟨.slice none 0 0, by rw [HE2.out, HEn.out]; rfl, by rw [HE2.out, HEn.out]; exact World.ownsRow_nil _ _ _ _⟩, HBW.out _ HBt.out⟩
          | true =>
            have hq2 := fun w' (h : Below w1.heap.size w1 w') => HTK.out w' q1 4 h a1 (by omega)
            have l2 := tk_lt l q1 4 HLB.out
            have a2 := (tk_le l q1 4 (by rw [← HN.out]; exact a1)).1
            rw [← HN.out] at a2
            have hn2' := hn2 rfl
            have hy' := hy rfl
            clear hn1 hn2 hy
            generalize tk l q1 4 = T2 at *
            obtain ⟨k, q2, k2⟩ := T2
            simp only at hq2 l2 a2 hn2' hy'
            have l2' : k < 16 := by simpa using l2
            clear l2
            go_wp2_with fail
            refine hq1.mono ?_
            rintro e w3 ⟨rfl, hb3⟩
            have HBt3 : Hid (Below w1.heap.size w1 w3) := HBo.out.trans (hb3.mono HBo.out.size)
            have HB3 : Hid (Below wo.heap.size wo w3) := hb3
            clear hq1 hb3
            go_wp2_with fail
            refine (hq2 w3 HBt3.out).mono ?_
            rintro e w4 ⟨rfl, hb4⟩
            have HB4 : Hid (Below w1.heap.size w1 w4) := HBt3.out.trans (hb4.mono HBt3.out.size)
            have HB34 : Hid (Below wo.heap.size wo w4) := HB3.out.trans (hb4.mono HB3.out.size)
            clear hq2 hb4
            cases k2 with
            | false =>
              have HEn : Hid (RA = none) := by show _ = _; rw [HEs.out, hn2' rfl]; rfl
              clear hn2' hy' HEs
              go_wp2_with fail
              go_loopw [11, 7] (fun f b wi => f = .slice none 0 0 ∧ b = .bool false ∧ wi = w4) (fun f _ _ => 0)
              case atStart => exact ⟨rfl, rfl, rfl⟩
              case round =>
                obtain ⟨rfl, rfl, hwi⟩ := hrel
                subst hwi
                go_wp2_with (simp only [wn])
                go_returns
                exact ⟨⟨.slice none 0 0, by rw [HE2.out, HEn.out]; rfl, by rw [HE2.out, HEn.out]; exact World.ownsRow_nil _ _ _ _⟩, HBW.out _ HB4.out⟩
            | true =>
              have HRS : Hid (RR = rs o k L o' 0 (l.drop q2)) := hy' rfl
              have HO4 : Hid (w4.ownsRow w1.heap.size 3 1 (.slice va n vc) n (ints o')) := own_step HO.out (fun b hb => HB34.out.block b (own_lt HO.out b hb))
              have hFI0 : Hid (FI l o k L RR o' [] 0 q2 true) := ⟨by omega, rfl, by rw [← HN.out]; exact a2, fun _ => ⟨fun x hx => (by cases hx), by rw [HRS.out, List.append_nil]; rfl⟩, fun h => (by cases h)⟩
              clear hn2' hy' wn HB34 HB3 HBt3
              go_wp2_with fail
              go_loopw [11, 6, 7] (fun f a b wi => ∃ (p : List Int) (m qi : Nat) (okb : Bool) (fa : Option Addr) (fc : Nat), f = .slice fa m fc ∧ m ≤ fc ∧ fc ≤ 9223372036854775807 ∧ Hid (fa = none → fc = 0) ∧ a = .int .i64 (qi : Int) ∧ qi ≤ N ∧ b = .bool okb ∧ m ≤ L ∧ Hid (FI l o k L RR o' p m qi okb) ∧ Hid (wi.ownsRow w4.heap.size 3 1 (.slice fa m fc) m (ints p)) ∧ Hid (Below w4.heap.size w4 wi)) (fun f _ _ _ => L - slen f)
              case atStart => exact ⟨[], 0, q2, true, none, 0, rfl, by omega, by omega, fun _ => rfl, rfl, a2, rfl, by omega, hFI0, World.ownsRow_nil _ _ _ _, Below.refl _ _⟩
              case round =>
                obtain ⟨p, m, qi, okb, fa, fc, rfl, hf1, hf2, hf3, rfl, hqi, rfl, hm, hFI, hOf, hBi⟩ := hrel
                obtain ⟨wi, hwi⟩ : ∃ y, y = wr := ⟨wr, rfl⟩
                subst hwi
                obtain ⟨nm, hnm⟩ : ∃ nm, nm = n + m := ⟨_, rfl⟩
                have wnm : IntKind.i64.wrap ((n : Int) + (m : Int)) = (nm : Int) := by rw [wid (by omega) (by omega)]; omega
                have HBi : Hid (Below w4.heap.size w4 wi) := hBi
                have HBi1 : Hid (Below w1.heap.size w1 wi) := HB4.out.trans (hBi.out.mono HB4.out.size)
                have HOf : Hid (wi.ownsRow w4.heap.size 3 1 (.slice fa m fc) m (ints p)) := hOf
                have hqi' : qi ≤ l.length := by rw [← HN.out]; exact hqi
                have hILp : ∃ S, IL wi S fa p := by
                  obtain ⟨a, c', h1, _, _, _, h5⟩ := IL.own HOf.out hFI.out.len
                  cases h1
                  exact ⟨_, h5⟩
                obtain ⟨Sp, hILp⟩ := hILp
                have HILp : Hid (IL wi Sp fa p) := hILp
                clear hBi hOf hILp
                by_cases hgo : m < L ∧ okb = true
                · obtain ⟨hmL, rfl⟩ := hgo
                  have g1 : (m : Int) < 256 := by omega
                  have g2 : (nm : Int) < (X : Int) := by omega
                  by_cases hmo : m < o
                  case' pos =>
                    have hmo' : (m : Int) < (o : Int) := by omega
                    have hq16 := HTK.out wi qi 16 HBi1.out hqi (by omega)
                    have hd := D1.first l o k o' p m qi HLB.out hqi' hmo
                    have l16 := tk_lt l qi 16 HLB.out
                    generalize tk l qi 16 = T at *
                    obtain ⟨t1, Q2, K2⟩ := T
                    simp only at hq16 hd l16
                    have l16' : t1 < 65536 := by simpa using l16
                    obtain ⟨Y, hY⟩ : ∃ Y, Y = (t1 : Int) - 32768 := ⟨_, rfl⟩
                    rw [← hY] at hd
                    have wY : IntKind.i64.wrap ((t1 : Int) - 32768) = Y := by rw [wid (by omega) (by omega)]; omega
                    have wY2 : (t1 : Int) - 32768 = Y := hY.symm
                    have HD : Hid (D1 l o k o' p m qi Y Q2 K2) := hd
                    clear hd l16 hY
                    go_wp2_with (simp only [wnm])
                    refine hq16.mono ?_
                    rintro e w6 ⟨rfl, hb6⟩
                    clear hq16
                    go_upto_region 21 with (simp only [wY])
                  case' neg =>
                    have hmo' : ¬ (m : Int) < (o : Int) := by omega
                    have hqr := HRC.out wi qi k HBi1.out hqi (by omega)
                    have hp := (hFI.out.yes rfl).1
                    have hge := ge_in p hp m o
                    go_wp2_with (simp only [wnm])
                    refine hqr.mono ?_
                    rintro e w5 ⟨u, hu, rfl, hb5⟩
                    have hd := D1.other l o k u o' p m qi HLB.out hqi' hmo (by omega) hp hFI.out.len hu
                    have hri := ri_lt l qi k u HLB.out hu.on (by omega)
                    rw [← HN.out] at hri
                    have hILp5 := HILp.out.bel hb5
                    generalize ri l qi k u = T at hd hri ⊢
                    obtain ⟨t1, Q2, K2⟩ := T
                    simp only at hd hri ⊢
                    have htb : t1 ≤ 1099511627776 := by omega
                    have hun := un_in t1
                    have hqb := back_any t1 w5 htb
                    have hqn := next_any p _ fa m fc o (un t1) w5 hILp5 hFI.out.len hf1 hf2 hp (by omega) (by omega) (by omega) (by omega)
                    obtain ⟨Y, hY⟩ : ∃ Y, Y = ge p m o + un t1 := ⟨_, rfl⟩
                    rw [← hY] at hd hqn
                    generalize un t1 = U at *
                    have HD : Hid (D1 l o k o' p m qi Y Q2 K2) := hd
                    clear hd hY hILp5 hp hqr
                    go_wp2_with fail
                    refine hqb.mono ?_
                    rintro e w5' ⟨rfl, rfl⟩
                    clear hqb
                    go_wp2_with fail
                    refine hqn.mono ?_
                    rintro e w6 ⟨rfl, hb6'⟩
                    have hb6 : Below wi.heap.size wi w6 := hb5.trans (hb6'.mono hb5.size)
                    clear hqn hb5 hb6' hun hri htb hge
                    go_upto_region 21 with fail
                  all_goals
                    have HB6 : Hid (Below w4.heap.size w4 w6) := HBi.out.trans (hb6.mono HBi.out.size)
                    have hO6 := own_step (w' := w6) HOf.out (fun b hb => hb6.block b (own_lt HOf.out b hb))
                    have hb7 : Below w6.heap.size w6 (w6.alloc (.cells #[.int .i64 Y] 3)) := (Below.refl _ _).alloc (Nat.le_refl _) _
                    have hO7 := own_step (w' := w6.alloc (.cells #[.int .i64 Y] 3)) hO6 (fun b hb => hb7.block b (own_lt hO6 b hb))
                    have HNx : Hid (∀ b, (K2 && sok Y) = b → FI l o k L RR o' (p ++ [Y]) (m + 1) Q2 b) := fun b hb => by rw [← hb]; exact hFI.out.next hmL HD.out
                    have HQ2 : Q2 ≤ N := by have := HD.out.at'; rw [← HN.out] at this; exact this
                    have hcs : K2 = false ∨ (K2 = true ∧ Y < -32768) ∨ (K2 = true ∧ 32767 < Y) ∨ (K2 = true ∧ -32768 ≤ Y ∧ Y ≤ 32767) := by cases K2 <;> simp <;> omega
                    have hLen : (p ++ [Y]).length = m + 1 := by rw [List.length_append, hFI.out.len]; rfl
                    have HLen : Hid ((p ++ [Y]).length = m + 1) := hLen
                    clear hO6 hb6 hFI HOf HBi HBi1 HILp hLen
                    obtain rfl | ⟨rfl, y1⟩ | ⟨rfl, y1⟩ | ⟨rfl, y1, y2⟩ := hcs
                    case' inr.inl =>
                      have y3 : ¬ -32768 ≤ Y := by omega
                    case' inr.inr.inl =>
                      have y3 : -32768 ≤ Y := by omega
                      have y4 : ¬ Y ≤ 32767 := by omega
                    all_goals first | (exfalso; omega) | skip
                    all_goals
                      go_wp2_with (first | (at_builtin; refine wpList_append_1 23 3 (.int .i64 0) 8 Try.underlying23 infoI rfl rfl (.tmp 94) (.tmp 96) rfl w4.heap.size _ _ _ rfl hO7 w6.heap.size (.int .i64 Y) rfl (by simp [go_sem]) rfl (by omega) (by omega) (by have := HB6.out.size; simp; omega) ?_; intro v' w8 k1 k2; have HO8 : Hid (w8.ownsRow w4.heap.size 3 1 v' (m + 1) (ints (p ++ [Y]))) := (by show World.ownsRow _ _ _ _ _ _ _; unfold ints at *; simpa using k1); have HB8 : Hid (Below w4.heap.size w4 w8) := (HB6.out.trans (hb7.mono HB6.out.size)).trans (k2.bel (by have := HB6.out.size; simp; omega) (fun q hq => own_block hO7 q hq)); clear k1 k2 hO7 hb7))
                      all_goals
                       obtain ⟨fa8, fc8, rfl, f81, f82, f83, _⟩ := IL.own HO8.out HLen.out
                       go_roundw
                       case rel => exact ⟨p ++ [Y], m + 1, Q2, _, fa8, fc8, rfl, f81, f82, f83, rfl, HQ2, rfl, by omega, (by first | exact HNx.out _ rfl | exact HNx.out _ (sokF1 Y y1) | exact HNx.out _ (sokF2 Y y1) | exact HNx.out _ (sokT Y y1 y2) | exact HNx.out _ (sokD Y y1) | exact HNx.out _ (sokD Y y3)), HO8, HB8⟩
                       case measure => simp [slen]; omega
                · by_cases hok : okb = true
                  · subst hok
                    have hmL : m = L := by
                      have : ¬ m < L := fun h => hgo ⟨h, rfl⟩
                      omega
                    have hm1 : 0 < m ∧ n + m ≤ X := by omega
                    have hLc : ¬ m < 256 ∨ (m < 256 ∧ ¬ nm < X) := by omega
                    have HmL : Hid (m = L) := hmL
                    clear hmL
                    have hyy := (hFI.out.yes rfl)
                    have HRRe : Hid (RA = ra X g' (o' ++ p) (l.drop qi)) := by
                      show _ = _
                      rw [HEs.out, hyy.2, show L - m = 0 by have := HmL.out; omega]; rfl
                    have hOi := own_step (w' := wi) HO4.out (fun b hb => HBi.out.block b (own_lt HO4.out b hb))
                    have hLall : Hid ((o' ++ p).length = n + m ∧ ∀ x ∈ o' ++ p, inR x) := ⟨by rw [List.length_append, hL.out.1, hFI.out.len], fun x hx => by
                      rcases List.mem_append.1 hx with h | h
                      · exact hL.out.2 x h
                      · exact hyy.1 x h⟩
                    have hzi := HBi1.out.size
                    have hpl := hFI.out.len
                    have hil := HILp.out
                    clear hyy HO4 HOf hFI0 hFI hgo
                    obtain y1 | ⟨y1, y2⟩ := hLc
                    case' inl =>
                      have y1' : ¬ (m : Int) < 256 := by omega
                    case' inr =>
                      have y1' : (m : Int) < 256 := by omega
                      have y2' : ¬ (nm : Int) < (X : Int) := by omega
                    all_goals
                      go_wp2_with (first | (simp only [wnm]; done) | (at_builtin; refine wpList_append_il rfl (.tmp 100) (.tmp 101) rfl w1.heap.size _ n (ints o') rfl hOi _ p m hpl fa fc rfl hf1 hf3.out hil (by omega) (by omega) ?_; intro v' w8 k1 k2; have HO8 : Hid (w8.ownsRow w1.heap.size 3 1 v' (n + m) (ints (o' ++ p))) := (by show World.ownsRow _ _ _ _ _ _ _; unfold ints at *; rw [List.map_append]; exact k1); have HB8 : Hid (Below w1.heap.size w1 w8) := HBi1.out.trans (k2.bel (by omega) (fun q hq => own_block hOi q hq)); clear k1 k2 hOi hil))
                      obtain ⟨va8, vc8, rfl, f81, f82, f83, _⟩ := IL.own HO8.out hLall.out.1
                      go_roundw
                      case rel => exact ⟨g', o' ++ p, qi, va8, n + m, vc8, rfl, f81, f82, f83, by omega, by omega, rfl, hqi, hLall, HRRe, HO8, HB8⟩
                      case measure => simp [slen]; omega
                  · have hok' : okb = false := by simpa using hok
                    subst hok'
                    have HEn : Hid (RA = none) := by show _ = _; rw [HEs.out, hFI.out.no rfl]; rfl
                    have HBi1' := HBi1
                    clear hFI HOf HILp hFI0 HO4 hgo
                    have hLc : ¬ m < 256 ∨ (m < 256 ∧ ¬ nm < X) ∨ (m < 256 ∧ nm < X) := by omega
                    obtain y1 | ⟨y1, y2⟩ | ⟨y1, y2⟩ := hLc
                    case' inl =>
                      have y1' : ¬ (m : Int) < 256 := by omega
                    case' inr.inl =>
                      have y1' : (m : Int) < 256 := by omega
                      have y2' : ¬ (nm : Int) < (X : Int) := by omega
                    case' inr.inr =>
                      have y1' : (m : Int) < 256 := by omega
                      have y2' : (nm : Int) < (X : Int) := by omega
                    all_goals
                      go_wp2_with (simp only [wnm])
                      go_returns
                      exact ⟨⟨.slice none 0 0, by rw [HE2.out, HEn.out]; rfl, by rw [HE2.out, HEn.out]; exact World.ownsRow_nil _ _ _ _⟩, HBW.out _ HBi1.out⟩
        · have hnX2 : n = X := by omega
          subst hnX2
          have hlt' : ¬ (n : Int) < (n : Int) := by omega
          obtain ⟨g', rfl⟩ : ∃ g', g = g' + 1 := ⟨g - 1, by omega⟩
          have HEe : Hid (RA = some (o', l.drop q)) := by show _ = _; rw [hE.out, ra_m, hL.out.1, if_neg hlt]
          have HDD : ∀ b, en0 (l.drop q) = b → Hid (DD = if b = true then (o', 0) else ([], 2)) := fun b hb => by
            show _ = _
            rw [HE2.out, HEe.out, ← hb]; rfl
          obtain ⟨D, hD⟩ : ∃ D, D = N - q := ⟨_, rfl⟩
          have wD : IntKind.i64.wrap ((N : Int) - (q : Int)) = (D : Int) := by rw [wid (by omega) (by omega)]; omega
          clear hE
          by_cases h7 : 7 < D
          · have h7' : (7 : Int) < (D : Int) := by omega
            have HD := HDD false (en0_long l q (by rw [← HN.out]; omega))
            clear HDD
            go_wp2_with (simp only [wD])
            go_returns
            exact ⟨⟨.slice none 0 0, by rw [HD.out]; rfl, by rw [HD.out]; exact World.ownsRow_nil _ _ _ _⟩, HBW.out _ HBo.out⟩
          · have h7' : ¬ (7 : Int) < (D : Int) := by omega
            have HDt := fun h => HDD true (en0_zero l q HLB.out (by rw [← HN.out]; omega) h)
            have HDf := fun i h1 h2 h3 => HDD false (en0_one l q i h1 h2 h3)
            rw [← HN.out] at HDt HDf
            have HDt' : Hid ((∀ i, q ≤ i → i < N → l.getD i 0 ≠ 1) → DD = (o', 0)) := fun h => (HDt h).out
            have HDf' : Hid (∀ i, q ≤ i → i < N → l.getD i 0 = 1 → DD = ([], 2)) := fun i h1 h2 h3 => (HDf i h1 h2 h3).out
            clear HDD HDt HDf hD
            go_wp2_with (simp only [wD])
            go_loopw [6] (fun a wi => ∃ i : Nat, a = .int .i64 (i : Int) ∧ q ≤ i ∧ i ≤ N ∧ Hid (∀ j, q ≤ j → j < i → l.getD j 0 ≠ 1) ∧ wi = wo) (fun a _ => N - (intOf a).toNat)
            case atStart => exact ⟨q, rfl, Nat.le_refl _, hqN, fun j h1 h2 => by omega, rfl⟩
            case round =>
              obtain ⟨i, rfl, hi1, hi2, hall, hwi⟩ := hrel
              subst hwi
              by_cases hin : i < N
              · have hin' : (i : Int) < (N : Int) := by omega
                obtain ⟨S, hIS⟩ := HIL.out
                obtain ⟨b, off, rfl, lb, _, _⟩ := hIS.at' (by rw [nts_len, ← HN.out]; omega)
                have cx := (hIS.bel HBo.out).nt i (by rw [← HN.out]; exact hin)
                have lbr := lt_cell cx
                have hx := getD_lt2 l HLB.out i
                obtain ⟨x, hxe⟩ : ∃ x, x = l.getD i 0 := ⟨_, rfl⟩
                have HX : Hid (x = l.getD i 0) := hxe
                rw [← hxe] at cx hx
                clear hxe hIS lb
                by_cases h1 : x = 1
                · subst h1
                  have HD : Hid (DD = ([], 2)) := HDf'.out i hi1 hin HX.out.symm
                  go_wp2_with fail
                  go_returns
                  exact ⟨⟨.slice none 0 0, by rw [HD.out]; rfl, by rw [HD.out]; exact World.ownsRow_nil _ _ _ _⟩, HBW.out _ HBo.out⟩
                · have hx0 : x = 0 := by omega
                  subst hx0
                  have w5 : IntKind.i64.wrap ((i : Int) + 1) = (i : Int) + 1 := wid (by omega) (by omega)
                  have hall2 : Hid (∀ j, q ≤ j → j < i + 1 → l.getD j 0 ≠ 1) := fun j h1 h2 => by
                    by_cases e : j = i
                    · rw [e, ← HX.out]; decide
                    · exact hall.out j h1 (by omega)
                  go_wp2_with fail
                  go_roundw
                  case rel => exact ⟨i + 1, by go_num, by omega, by omega, hall2, by first | rfl | trivial⟩
                  case measure => simp [intOf]; omega
              · obtain rfl : i = N := by omega
                have hin' : ¬ (i : Int) < (i : Int) := by omega
                have HD : Hid (DD = (o', 0)) := HDt'.out hall.out
                have hOf : Hid (wr.ownsRow w.heap.size 3 1 (.slice va n vc) n (ints o')) := own_base HO.out HB1z.out
                go_wp2_with fail
                go_returns
                exact ⟨⟨.slice va n vc, by rw [HD.out]; rfl, by rw [HD.out]; show World.ownsRow _ _ _ _ _ o'.length _; rw [hL.out.1]; exact hOf.out⟩, HBW.out _ HBo.out⟩
end Go.Proofs.Ytdlcnbfiklbiiaa.Co
