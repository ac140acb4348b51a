/- What the program's wait comes to. -/
import Derived.Test.YthfjbjcdhgajfagZ7
namespace Go.Proofs.Ythfjbjcdhgajfag.Z
open Go.RowKit
set_option linter.unusedVariables false
set_option linter.unusedSimpArgs false

/-- A reader went on: where it stands is what is left. -/
structure Rd (w w' : World) (p : Nat) (s : ByteArray) (r : List Nat) : Prop where
  at' : ∃ j, Rt w' p s j ∧ At s j r
  tk : TK w p w'
theorem M.rw_nil {j acc : Nat} : M.rw' j acc [] = (false, 0, []) := by cases j <;> rfl
theorem M.rw_bad {j acc c : Nat} {t : List Nat} (h : (j = 3 ∧ c = 128) ∨ (j = 0 ∧ 128 ≤ c)) : M.rw' (j + 1) acc (c :: t) = (false, 0, c :: t) := by rw [M.rw', if_pos h]
set_option maxRecDepth 20000 in
set_option maxHeartbeats 4000000 in
theorem wait_any (p k : Nat) (s : ByteArray) (r : List Nat) (w : World) (hR : Rt w p s k) (ha : At s k r) (hs : s.size ≤ maxLen) :
    Calls Try.prog 43 #[.pointer (some ⟨p, 0, none⟩)] w fun e w' => e = .returned (.tuple #[.int .i64 (((M.rw' 4 0 r).2.1 : Nat) : Int), .bool (M.rw' 4 0 r).1]) ∧ Rd w w' p s (M.rw' 4 0 r).2.2 := by
  have hs' : s.size ≤ 9223372036854775807 := by unfold maxLen at hs; omega
  obtain ⟨R, hR0⟩ : ∃ R, R = M.rw' 4 0 r := ⟨_, rfl⟩
  rw [← hR0]
  have HR0 : Hid (R = M.rw' 4 0 r) := hR0
  clear hR0
  go_enter Try.func43, Try.ntmps43
  go_wp2_with fail
  go_loopw [8, 4] (fun i a wr => ∃ (I : Int) (j acc kk : Nat) (r' : List Nat), i = .int .i64 I ∧ a = .int .i64 (acc : Int) ∧ Rt wr p s kk ∧ At s kk r' ∧ TK w p wr ∧ Hid (R = M.rw' j acc r') ∧ Hid ((I = 0 ∧ j = 4 ∧ acc = 0) ∨ (I = 1 ∧ j = 3 ∧ acc ≤ 127) ∨ (I = 2 ∧ j = 2 ∧ acc ≤ 16383) ∨ (I = 3 ∧ j = 1 ∧ acc ≤ 2097151) ∨ (I = 4 ∧ j = 0))) (fun i _ _ => (4 - intOf i).toNat)
  case atStart => exact ⟨0, 4, 0, k, r, rfl, rfl, hR, ha, TK.refl _ _, HR0, Or.inl ⟨rfl, rfl, rfl⟩⟩
  case round =>
    obtain ⟨I, j, acc, kk, r', rfl, rfl, hRr, har, hTK, hE, hj⟩ := hrel
    clear HR0 hR ha
    have HP := peek_any p kk s r' wr hRr har hs
    rcases hj.out with ⟨rfl, rfl, hacc⟩ | ⟨rfl, rfl, hacc⟩ | ⟨rfl, rfl, hacc⟩ | ⟨rfl, rfl, hacc⟩ | ⟨rfl, rfl⟩
    · clear hj
      subst hacc
      cases r' with
      | nil =>
        have hV : R = (false, 0, []) := by rw [hE.out, M.rw_nil]
        subst hV
        replace HP : Calls Try.prog 47 #[.pointer (some ⟨p, 0, none⟩)] wr fun e w' => e = .returned (.tuple #[.int .i64 0, .bool false]) ∧ Below wr.heap.size wr w' := HP
        clear hE
        go_wp2_with fail
        refine HP.mono ?_
        rintro e w1 ⟨rfl, hb⟩
        go_wp2_with fail
        go_returns
        exact ⟨rfl, ⟨⟨kk, hRr.step hb, har⟩, hTK.trans (TK.below hb hRr.lt)⟩⟩
      | cons c t =>
        obtain ⟨hk, e1, ha2, hc⟩ := har.cons
        replace HP : Calls Try.prog 47 #[.pointer (some ⟨p, 0, none⟩)] wr fun e w' => e = .returned (.tuple #[.int .i64 (c : Int), .bool true]) ∧ Below wr.heap.size wr w' := HP
        clear e1
        by_cases hbad : c = 128
        · have hV : R = (false, 0, c :: t) := by rw [hE.out, M.rw_bad (Or.inl ⟨rfl, hbad⟩)]
          subst hV
          subst hbad
          clear hE
          go_wp2_with fail
          refine HP.mono ?_
          rintro e w1 ⟨rfl, hb⟩
          go_wp2_with fail
          go_returns
          exact ⟨rfl, ⟨⟨kk, hRr.step hb, har⟩, hTK.trans (TK.below hb hRr.lt)⟩⟩
        have hb128 : ((c : Int) == 128) = false := by simp; omega
        have w3 : IntKind.i64.wrap ((kk : Int) + 1) = (kk : Int) + 1 := wid (by omega) (by omega)
        have hj1 : ((kk + 1 : Nat) : Int) = (kk : Int) + 1 := by omega
        have hmod : Hid ((c : Int) % 128 = ((0 * 128 + c % 128 : Nat) : Int)) := by show _ = _; omega
        by_cases hlt : c < 128
        · have hlt' : (c : Int) < 128 := by omega
          have hV : R = (true, 0 * 128 + c % 128, t) := by rw [hE.out, M.rw_last hlt, Nat.mod_eq_of_lt hlt]
          have hx : Hid (((R.2.1 : Nat) : Int) = (c : Int) % 128 ∧ R.1 = true ∧ R.2.2 = t) := ⟨by rw [hV]; exact hmod.out.symm, by rw [hV], by rw [hV]⟩
          clear hE hV hmod
          go_wp2_with fail
          refine HP.mono ?_
          rintro e w1 ⟨rfl, hb⟩
          have hR1 := hRr.step hb
          have c1 := hR1.c1
          have f1 := hR1.f1
          have lt1 := hR1.lt
          have HR : Hid (Rt w1 p s kk) := hR1
          have HT : Hid (TK w p w1) := hTK.trans (TK.below hb hRr.lt)
          clear hR1 hb HP hRr hTK
          go_wp2_with fail
          go_returns
          refine ⟨by rw [hx.out.1, hx.out.2.1]; rfl, ⟨⟨kk + 1, ?_, by rw [hx.out.2.2]; exact ha2⟩, HT.out.trans (TK.set _ _ _)⟩⟩
          rw [← hj1]
          exact HR.out.set (kk + 1)
        · have hlt' : ¬ (c : Int) < 128 := by omega
          have hV : Hid (R = M.rw' 3 (0 * 128 + c % 128) t) := by show _ = _; rw [hE.out, M.rw_more (by omega) (by omega) (by omega)]
          clear hE
          go_wp2_with fail
          refine HP.mono ?_
          rintro e w1 ⟨rfl, hb⟩
          have hR1 := hRr.step hb
          have c1 := hR1.c1
          have f1 := hR1.f1
          have lt1 := hR1.lt
          have HR : Hid (Rt w1 p s kk) := hR1
          have HT : Hid (TK w p w1) := hTK.trans (TK.below hb hRr.lt)
          clear hR1 hb HP hRr hTK
          go_wp2_with fail
          go_roundw
          case rel =>
            refine ⟨1, 3, 0 * 128 + c % 128, kk + 1, t, rfl, by rw [← hmod.out], ?_, ha2, HT.out.trans (TK.set _ _ _), hV, Or.inr (Or.inl ⟨rfl, rfl, by omega⟩)⟩
            rw [← hj1]
            exact HR.out.set (kk + 1)
          case measure => simp [intOf]
    · clear hj
      cases r' with
      | nil =>
        have hV : R = (false, 0, []) := by rw [hE.out, M.rw_nil]
        subst hV
        replace HP : Calls Try.prog 47 #[.pointer (some ⟨p, 0, none⟩)] wr fun e w' => e = .returned (.tuple #[.int .i64 0, .bool false]) ∧ Below wr.heap.size wr w' := HP
        clear hE
        go_wp2_with fail
        refine HP.mono ?_
        rintro e w1 ⟨rfl, hb⟩
        go_wp2_with fail
        go_returns
        exact ⟨rfl, ⟨⟨kk, hRr.step hb, har⟩, hTK.trans (TK.below hb hRr.lt)⟩⟩
      | cons c t =>
        obtain ⟨hk, e1, ha2, hc⟩ := har.cons
        replace HP : Calls Try.prog 47 #[.pointer (some ⟨p, 0, none⟩)] wr fun e w' => e = .returned (.tuple #[.int .i64 (c : Int), .bool true]) ∧ Below wr.heap.size wr w' := HP
        clear e1
        have w3 : IntKind.i64.wrap ((kk : Int) + 1) = (kk : Int) + 1 := wid (by omega) (by omega)
        have hj1 : ((kk + 1 : Nat) : Int) = (kk : Int) + 1 := by omega
        have hmod : Hid ((acc : Int) * 128 + (c : Int) % 128 = ((acc * 128 + c % 128 : Nat) : Int)) := by show _ = _; omega
        by_cases hlt : c < 128
        · have hlt' : (c : Int) < 128 := by omega
          have hV : R = (true, acc * 128 + c % 128, t) := by rw [hE.out, M.rw_last hlt, Nat.mod_eq_of_lt hlt]
          have hx : Hid (((R.2.1 : Nat) : Int) = (acc : Int) * 128 + (c : Int) % 128 ∧ R.1 = true ∧ R.2.2 = t) := ⟨by rw [hV]; exact hmod.out.symm, by rw [hV], by rw [hV]⟩
          clear hE hV hmod
          go_wp2_with fail
          refine HP.mono ?_
          rintro e w1 ⟨rfl, hb⟩
          have hR1 := hRr.step hb
          have c1 := hR1.c1
          have f1 := hR1.f1
          have lt1 := hR1.lt
          have HR : Hid (Rt w1 p s kk) := hR1
          have HT : Hid (TK w p w1) := hTK.trans (TK.below hb hRr.lt)
          clear hR1 hb HP hRr hTK
          go_wp2_with fail
          go_returns
          refine ⟨by rw [hx.out.1, hx.out.2.1]; rfl, ⟨⟨kk + 1, ?_, by rw [hx.out.2.2]; exact ha2⟩, HT.out.trans (TK.set _ _ _)⟩⟩
          rw [← hj1]
          exact HR.out.set (kk + 1)
        · have hlt' : ¬ (c : Int) < 128 := by omega
          have hV : Hid (R = M.rw' 2 (acc * 128 + c % 128) t) := by show _ = _; rw [hE.out, M.rw_more (by omega) (by omega) (by omega)]
          clear hE
          go_wp2_with fail
          refine HP.mono ?_
          rintro e w1 ⟨rfl, hb⟩
          have hR1 := hRr.step hb
          have c1 := hR1.c1
          have f1 := hR1.f1
          have lt1 := hR1.lt
          have HR : Hid (Rt w1 p s kk) := hR1
          have HT : Hid (TK w p w1) := hTK.trans (TK.below hb hRr.lt)
          clear hR1 hb HP hRr hTK
          go_wp2_with fail
          go_roundw
          case rel =>
            refine ⟨2, 2, acc * 128 + c % 128, kk + 1, t, rfl, by rw [← hmod.out], ?_, ha2, HT.out.trans (TK.set _ _ _), hV, Or.inr (Or.inr (Or.inl ⟨rfl, rfl, by omega⟩))⟩
            rw [← hj1]
            exact HR.out.set (kk + 1)
          case measure => simp [intOf]
    · clear hj
      cases r' with
      | nil =>
        have hV : R = (false, 0, []) := by rw [hE.out, M.rw_nil]
        subst hV
        replace HP : Calls Try.prog 47 #[.pointer (some ⟨p, 0, none⟩)] wr fun e w' => e = .returned (.tuple #[.int .i64 0, .bool false]) ∧ Below wr.heap.size wr w' := HP
        clear hE
        go_wp2_with fail
        refine HP.mono ?_
        rintro e w1 ⟨rfl, hb⟩
        go_wp2_with fail
        go_returns
        exact ⟨rfl, ⟨⟨kk, hRr.step hb, har⟩, hTK.trans (TK.below hb hRr.lt)⟩⟩
      | cons c t =>
        obtain ⟨hk, e1, ha2, hc⟩ := har.cons
        replace HP : Calls Try.prog 47 #[.pointer (some ⟨p, 0, none⟩)] wr fun e w' => e = .returned (.tuple #[.int .i64 (c : Int), .bool true]) ∧ Below wr.heap.size wr w' := HP
        clear e1
        have w3 : IntKind.i64.wrap ((kk : Int) + 1) = (kk : Int) + 1 := wid (by omega) (by omega)
        have hj1 : ((kk + 1 : Nat) : Int) = (kk : Int) + 1 := by omega
        have hmod : Hid ((acc : Int) * 128 + (c : Int) % 128 = ((acc * 128 + c % 128 : Nat) : Int)) := by show _ = _; omega
        by_cases hlt : c < 128
        · have hlt' : (c : Int) < 128 := by omega
          have hV : R = (true, acc * 128 + c % 128, t) := by rw [hE.out, M.rw_last hlt, Nat.mod_eq_of_lt hlt]
          have hx : Hid (((R.2.1 : Nat) : Int) = (acc : Int) * 128 + (c : Int) % 128 ∧ R.1 = true ∧ R.2.2 = t) := ⟨by rw [hV]; exact hmod.out.symm, by rw [hV], by rw [hV]⟩
          clear hE hV hmod
          go_wp2_with fail
          refine HP.mono ?_
          rintro e w1 ⟨rfl, hb⟩
          have hR1 := hRr.step hb
          have c1 := hR1.c1
          have f1 := hR1.f1
          have lt1 := hR1.lt
          have HR : Hid (Rt w1 p s kk) := hR1
          have HT : Hid (TK w p w1) := hTK.trans (TK.below hb hRr.lt)
          clear hR1 hb HP hRr hTK
          go_wp2_with fail
          go_returns
          refine ⟨by rw [hx.out.1, hx.out.2.1]; rfl, ⟨⟨kk + 1, ?_, by rw [hx.out.2.2]; exact ha2⟩, HT.out.trans (TK.set _ _ _)⟩⟩
          rw [← hj1]
          exact HR.out.set (kk + 1)
        · have hlt' : ¬ (c : Int) < 128 := by omega
          have hV : Hid (R = M.rw' 1 (acc * 128 + c % 128) t) := by show _ = _; rw [hE.out, M.rw_more (by omega) (by omega) (by omega)]
          clear hE
          go_wp2_with fail
          refine HP.mono ?_
          rintro e w1 ⟨rfl, hb⟩
          have hR1 := hRr.step hb
          have c1 := hR1.c1
          have f1 := hR1.f1
          have lt1 := hR1.lt
          have HR : Hid (Rt w1 p s kk) := hR1
          have HT : Hid (TK w p w1) := hTK.trans (TK.below hb hRr.lt)
          clear hR1 hb HP hRr hTK
          go_wp2_with fail
          go_roundw
          case rel =>
            refine ⟨3, 1, acc * 128 + c % 128, kk + 1, t, rfl, by rw [← hmod.out], ?_, ha2, HT.out.trans (TK.set _ _ _), hV, Or.inr (Or.inr (Or.inr (Or.inl ⟨rfl, rfl, by omega⟩)))⟩
            rw [← hj1]
            exact HR.out.set (kk + 1)
          case measure => simp [intOf]
    · clear hj
      cases r' with
      | nil =>
        have hV : R = (false, 0, []) := by rw [hE.out, M.rw_nil]
        subst hV
        replace HP : Calls Try.prog 47 #[.pointer (some ⟨p, 0, none⟩)] wr fun e w' => e = .returned (.tuple #[.int .i64 0, .bool false]) ∧ Below wr.heap.size wr w' := HP
        clear hE
        go_wp2_with fail
        refine HP.mono ?_
        rintro e w1 ⟨rfl, hb⟩
        go_wp2_with fail
        go_returns
        exact ⟨rfl, ⟨⟨kk, hRr.step hb, har⟩, hTK.trans (TK.below hb hRr.lt)⟩⟩
      | cons c t =>
        obtain ⟨hk, e1, ha2, hc⟩ := har.cons
        replace HP : Calls Try.prog 47 #[.pointer (some ⟨p, 0, none⟩)] wr fun e w' => e = .returned (.tuple #[.int .i64 (c : Int), .bool true]) ∧ Below wr.heap.size wr w' := HP
        clear e1
        by_cases hbad : 128 ≤ c
        · have hV : R = (false, 0, c :: t) := by rw [hE.out, M.rw_bad (Or.inr ⟨rfl, hbad⟩)]
          subst hV
          have hge : (128 : Int) ≤ c := by omega
          have hge2 : ¬ (c : Int) < 128 := by omega
          clear hE
          go_wp2_with fail
          refine HP.mono ?_
          rintro e w1 ⟨rfl, hb⟩
          go_wp2_with fail
          go_returns
          exact ⟨rfl, ⟨⟨kk, hRr.step hb, har⟩, hTK.trans (TK.below hb hRr.lt)⟩⟩
        have hge : ¬ (128 : Int) ≤ c := by omega
        have w3 : IntKind.i64.wrap ((kk : Int) + 1) = (kk : Int) + 1 := wid (by omega) (by omega)
        have hj1 : ((kk + 1 : Nat) : Int) = (kk : Int) + 1 := by omega
        have hmod : Hid ((acc : Int) * 128 + (c : Int) % 128 = ((acc * 128 + c % 128 : Nat) : Int)) := by show _ = _; omega
        by_cases hlt : c < 128
        · have hlt' : (c : Int) < 128 := by omega
          have hV : R = (true, acc * 128 + c % 128, t) := by rw [hE.out, M.rw_last hlt, Nat.mod_eq_of_lt hlt]
          have hx : Hid (((R.2.1 : Nat) : Int) = (acc : Int) * 128 + (c : Int) % 128 ∧ R.1 = true ∧ R.2.2 = t) := ⟨by rw [hV]; exact hmod.out.symm, by rw [hV], by rw [hV]⟩
          clear hE hV hmod
          go_wp2_with fail
          refine HP.mono ?_
          rintro e w1 ⟨rfl, hb⟩
          have hR1 := hRr.step hb
          have c1 := hR1.c1
          have f1 := hR1.f1
          have lt1 := hR1.lt
          have HR : Hid (Rt w1 p s kk) := hR1
          have HT : Hid (TK w p w1) := hTK.trans (TK.below hb hRr.lt)
          clear hR1 hb HP hRr hTK
          go_wp2_with fail
          go_returns
          refine ⟨by rw [hx.out.1, hx.out.2.1]; rfl, ⟨⟨kk + 1, ?_, by rw [hx.out.2.2]; exact ha2⟩, HT.out.trans (TK.set _ _ _)⟩⟩
          rw [← hj1]
          exact HR.out.set (kk + 1)
        · exact absurd hbad (by omega)
    · have hV : R = (false, 0, r') := hE.out
      subst hV
      clear hE hj HP
      go_wp2_with fail
      go_returns
      exact ⟨rfl, ⟨⟨kk, hRr, har⟩, hTK⟩⟩
end Go.Proofs.Ythfjbjcdhgajfag.Z
