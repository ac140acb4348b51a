/- What the document's Unpack comes to. -/
import Derived.Test.YthfjbjcdhgajfagZ15
import Derived.Deep.CutBlock
import Derived.Deep.DeepCutAuto
namespace Go.Proofs.Ythfjbjcdhgajfag.Z
open Go.RowKit Go.Maps
set_option linter.unusedVariables false
set_option linter.unusedSimpArgs false

set_option maxRecDepth 20000 in
set_option maxHeartbeats 16000000 in
theorem refUnpack_any (s : ByteArray) (w : World) (hs : s.size ≤ maxLen) :
    Calls Try.prog 23 #[.string s] w fun e w' => (∃ v, e = .returned (.tuple #[v, .agg #[.int .i64 (M.un 4096 M.z0 (tx s)).2.1, .int .i64 (fa s (M.un 4096 M.z0 (tx s)))]]) ∧ OE w' w.heap.size v (M.un 4096 M.z0 (tx s)).1) ∧ Below w.heap.size w w' := by
  have hs' : s.size ≤ 9223372036854775807 := by unfold maxLen at hs; omega
  have hmf := mkfun
  obtain ⟨U, hU⟩ : ∃ U, U = M.un 4096 M.z0 (tx s) := ⟨_, rfl⟩
  rw [← hU]
  have HU : Hid (U = M.pre [] (M.un 4096 M.z0 (tx s))) := by show _ = _; rw [M.pre_un]; exact hU
  clear hU
  have hfa : Hid (∀ E r k, At s k r → E ≠ 0 → fa s ([], E, r) = (k : Int)) := fun E r k ha hE => by
    unfold fa
    rw [if_neg hE]
    have := ha.left
    simp only
    omega
  go_enter Try.func23, Try.ntmps23
  go_wp2_with fail
  have hup : Uq w.heap.size ((w.alloc (.cells #[.int .i64 0, .int .i64 0] 42)).alloc (.cells #[.int .i64 0] 3)) 0 := by
    refine ⟨?_, by simp, by simp [go_sem], by simp [go_sem]⟩
    unfold FB
    rw [heap_alloc_old _ _ (by simp), heap_alloc_new]
  have hb0 : Below w.heap.size w ((w.alloc (.cells #[.int .i64 0, .int .i64 0] 42)).alloc (.cells #[.int .i64 0] 3)) := by go_grown
  generalize (w.alloc (.cells #[.int .i64 0, .int .i64 0] 42)).alloc (.cells #[.int .i64 0] 3) = W0 at *
  go_loopw [4, 6, 7] (fun o la st wr => ∃ (es : List M.Ev) (f k S : Nat) (LT : Int) (r : List Nat), OE wr (w.heap.size + 1 + 1) o es ∧ la = .int .i64 LT ∧ LT = (M.lst M.z0 es).t ∧ st = .int .i64 (S : Int) ∧ es.length + f = 4096 ∧ Uq w.heap.size wr k ∧ At s k r ∧ Below w.heap.size w wr ∧ Hid (U = M.pre es (M.un f (M.lst M.z0 es) r)) ∧ Ahd (M.lst M.z0 es) es.length ∧ Sq S (M.lst M.z0 es)) (fun _ _ _ wr => s.size - (intOf (cv wr (w.heap.size + 1) 0)).toNat)
  case atStart => exact ⟨[], 4096, 0, 0, 0, tx s, OE.nil _ _, rfl, rfl, rfl, rfl, hup, ⟨rfl, by omega⟩, hb0, HU, ⟨fun h => absurd h (by decide), Int.le_refl _, by decide⟩, ⟨rfl, rfl, by omega⟩⟩
  case round =>
    obtain ⟨es, f, k, S, LT, r, ho, rfl, hLT, rfl, hlen, hu, ha, hbr, hE, hA, hSq⟩ := hrel
    clear hup hb0 HU
    have c0 := hu.c
    have f0 := hu.f
    have lt1 := hu.lt
    obtain ⟨q0, q1, g0, g1, ltf⟩ := hu.fb.c
    have hm : Hid ((intOf (cv wr (w.heap.size + 1) 0)).toNat = k) := by show _ = _; rw [cv_is c0]; simp [intOf]
    have hown := own_block ho
    have hown2 := own_lt ho
    obtain ⟨ao, oc, rfl, ho1, ho2, _⟩ := ho.le
    by_cases hr : r = []
    · subst hr
      have hk := ha.nil
      subst hk
      have hV : Hid (U = (es, 0, [])) := by show _ = _; rw [hE.out, M.un_nil, M.pre_ok]
      have hlt' : ¬ ((s.size : Nat) : Int) < s.size := by omega
      clear hE hfa hLT
      go_wp2_with fail
      refine bodyPost_ret (v := .tuple #[.slice ao es.length oc, .agg #[.int .i64 0, .int .i64 0]]) (by simp [results, Try.results23, go_sem, q0, q1]) rfl ⟨⟨.slice ao es.length oc, ?_, ?_⟩, ?_⟩
      · rw [hV.out]; rfl
      · rw [hV.out]
        exact ((ho.other (by simp; omega)).other (by simp; omega)).base (by omega)
      · exact (hbr.setCell (by simp) _).setCell (by simp) _
    have hkl : k < s.size := by
      have := ha.left
      have : r.length ≠ 0 := fun h => hr (List.length_eq_zero_iff.1 h)
      omega
    have hlt' : (k : Int) < s.size := by omega
    cases f with
    | zero =>
      have hV : Hid (U = ([], 5, r)) := by show _ = _; rw [hE.out, M.un_many hr, M.pre_bad (by decide)]
      have h4 : (es.length : Int) = 4096 := by omega
      have hF := hfa.out 5 r k ha (by decide)
      clear hE hfa hLT
      go_wp2_with fail
      go_region
      go_wp2_with fail
      refine bodyPost_ret (v := .tuple #[.slice none 0 0, .agg #[.int .i64 5, .int .i64 (k : Int)]]) (by simp [results, Try.results23, go_sem, q0, q1]) rfl ⟨⟨.slice none 0 0, ?_, ?_⟩, ?_⟩
      · rw [hV.out, hF]
      · rw [hV.out]; exact OE.nil _ _
      · have hd : ∀ n, Below w.heap.size w (wr.drewN n) := fun n => hbr.trans ⟨rfl, rfl, rfl, Nat.le_refl _, fun _ _ => rfl⟩
        first | exact (hbr.setCell (by simp) _).setCell (by simp) _ | exact ((hd _).setCell (by simp) _).setCell (by simp) _
    | succ f =>
      have h4 : ((es.length : Int) == 4096) = false := by simp; omega
      have hA' := hA.hi
      have HBad : Hid (∀ r' k', M.re (M.lst M.z0 es) r = (false, M.z0, r') → At s k' r' → U = ([], 2, r') ∧ fa s ([], 2, r') = (k' : Int)) := fun r' k' hq ha' => ⟨by rw [hE.out, M.un_bad hr (by rw [hq]), hq, M.pre_bad (by decide)], hfa.out 2 r' k' ha' (by decide)⟩
      have HOk : Hid (∀ e r', M.re (M.lst M.z0 es) r = (true, e, r') → U = M.pre (es ++ [e]) (M.un f e r') ∧ Ahd e (es.length + 1) ∧ r'.length < r.length) := fun e r' hq => ⟨by rw [hE.out, M.un_on hr (by rw [hq]), hq, M.pre_pre], hA.next ha.bytes hq, by have := M.re_len (M.lst M.z0 es) r (by rw [hq]); rw [hq] at this; exact this⟩
      have HLs : Hid (∀ e, M.lst M.z0 (es ++ [e]) = e) := fun e => M.lst_snoc _ _ _
      have hbyt : Hid (∀ x ∈ r, x < 256) := ha.bytes
      have hal : Hid (k = s.size - r.length ∧ r.length ≤ s.size) := ha.left
      have hAlo := hA.lo
      clear hE hfa hA
      generalize M.lst M.z0 es = AH at *
      obtain ⟨at', ak, ac, aa, ab⟩ := AH
      obtain ⟨hSk, hSc, hShi⟩ := hSq
      simp only at hSk hSc hLT hAlo hA'
      subst hLT
      obtain ⟨R, hR0⟩ : ∃ R, R = M.rw' 4 0 r := ⟨_, rfl⟩
      have HR0 : Hid (R = M.rw' 4 0 r) := hR0
      subst hSk hSc
      clear hR0
      obtain ⟨WR, hWR⟩ : ∃ x, x = wr := ⟨wr, rfl⟩
      subst hWR
      have hRw : Rw w WR.heap.size WR k (.slice ao es.length oc) es := ⟨hu, ho, hown2, Nat.le_refl _, lt1, hbr⟩
      have HRw : Hid (Rw w WR.heap.size WR k (.slice ao es.length oc) es) := hRw
      clear hu ho hRw hown2 hown hbr q0 q1 g0 g1 ltf
      have HRr : Hid (R = M.rw' 4 0 r) := HR0
      go_upto_block 2 with fail
      go_cut [9, 10] (fun n _ wx => ∃ (N j : Nat) (l1 : List Nat), n = .int .i64 (N : Int) ∧ Hid (R = (true, N, l1)) ∧ Rw w WR.heap.size wx j (.slice ao es.length oc) es ∧ At s j l1 ∧ N ≤ 268435455)
      case first =>
        go_wp2_with fail
        go_loopw [10, 9] (fun i a wq => ∃ (I : Int) (j acc kk : Nat) (r' : List Nat), i = .int .i64 I ∧ a = .int .i64 (acc : Int) ∧ Rw w WR.heap.size wq kk (.slice ao es.length oc) es ∧ At s kk r' ∧ Hid (R = M.rw' j acc r') ∧ Hid ((I = 0 ∧ j = 4 ∧ acc = 0) ∨ (I = 1 ∧ j = 3 ∧ acc ≤ 127) ∨ (I = 2 ∧ j = 2 ∧ acc ≤ 16383) ∨ (I = 3 ∧ j = 1 ∧ acc ≤ 2097151))) (fun i _ _ => (4 - intOf i).toNat)
        case atStart => exact ⟨0, 4, 0, k, r, rfl, rfl, HRw.out, ha, HR0, Or.inl ⟨rfl, rfl, rfl⟩⟩
        case round =>
          obtain ⟨I, j, acc, kk, r', rfl, rfl, hRr, har, hE, hj⟩ := hrel
          clear HRw HR0 ha hal hbyt hm
          have c0 := hRr.uq.c
          have f0 := hRr.uq.f
          have lt1 := hRr.uq.lt
          have HR1 : Hid (Rw w WR.heap.size wr kk (.slice ao es.length oc) es) := hRr
          clear hRr
          rcases hj.out with ⟨rfl, rfl, hacc⟩ | ⟨rfl, rfl, hacc⟩ | ⟨rfl, rfl, hacc⟩ | ⟨rfl, rfl, hacc⟩
          · clear hj
            subst hacc
            cases r' with
            | nil =>
              have hk := har.nil
              subst hk
              have hre : Hid (M.rw' 4 0 r = (false, 0, [])) := by show _ = _; rw [← HRr.out, hE.out, M.rw_nil]
              clear hE
              go_wp2_with fail
              refine (bad_any w.heap.size (s.size) _ (HR1.out).uq).mono ?_
              rintro x9 w9 ⟨rfl, hb9⟩
              have u9 := (HR1.out).uq.keep hb9
              have hbl9 : Below w.heap.size w w9 := (HR1.out).bel.trans (hb9.mono (HR1.out).bel.size)
              obtain ⟨hV9, hF9⟩ := HBad.out _ _ (M.re_no hre.out) (har)
              have HV9 : Hid (U = _) := hV9
              obtain ⟨p0, p1, p2, p3, p4⟩ := u9.fb.c
              clear hV9 hb9 u9 HBad HOk
              go_wp2_with fail
              refine bodyPost_ret (v := .tuple #[.slice none 0 0, .agg #[.int .i64 2, .int .i64 (s.size : Int)]]) (by simp [results, Try.results23, go_sem, p0, p1]) rfl ⟨⟨.slice none 0 0, ?_, ?_⟩, ?_⟩
              · rw [HV9.out, hF9] <;> first | done | rfl | (push_cast; rfl)
              · rw [HV9.out]; exact OE.nil _ _
              · exact (hbl9.setCell (by simp) _).setCell (by simp) _
            | cons c t =>
              obtain ⟨hk, e1, ha2, hc⟩ := har.cons
              have hne : ((kk : Int) == (s.size : Int)) = false := by simp; omega
              have hkl2 : (kk : Int) < s.size := by omega
              by_cases hbad : c = 128
              · have hre : Hid (M.rw' 4 0 r = (false, 0, c :: t)) := by show _ = _; rw [← HRr.out, hE.out, M.rw_bad (Or.inl ⟨rfl, hbad⟩)]
                have hb1 : ((c : Int) == 128) = true := by simp; omega
                have har' : Hid (At s kk (c :: t)) := har
                clear hE hbad har
                go_wp2_with fail
                refine (bad_any w.heap.size (kk) _ (HR1.out).uq).mono ?_
                rintro x9 w9 ⟨rfl, hb9⟩
                have u9 := (HR1.out).uq.keep hb9
                have hbl9 : Below w.heap.size w w9 := (HR1.out).bel.trans (hb9.mono (HR1.out).bel.size)
                obtain ⟨hV9, hF9⟩ := HBad.out _ _ (M.re_no hre.out) (har'.out)
                have HV9 : Hid (U = _) := hV9
                obtain ⟨p0, p1, p2, p3, p4⟩ := u9.fb.c
                clear hV9 hb9 u9 HBad HOk
                go_wp2_with fail
                refine bodyPost_ret (v := .tuple #[.slice none 0 0, .agg #[.int .i64 2, .int .i64 (kk : Int)]]) (by simp [results, Try.results23, go_sem, p0, p1]) rfl ⟨⟨.slice none 0 0, ?_, ?_⟩, ?_⟩
                · rw [HV9.out, hF9] <;> first | done | rfl | (push_cast; rfl)
                · rw [HV9.out]; exact OE.nil _ _
                · exact (hbl9.setCell (by simp) _).setCell (by simp) _
              have hb1 : ((c : Int) == 128) = false := by simp; omega
              have w3 : IntKind.i64.wrap ((kk : Int) + 1) = (kk : Int) + 1 := wid (by omega) (by omega)
              have hj1 : Hid (((kk + 1 : Nat) : Int) = (kk : Int) + 1) := by show _ = _; omega
              have hmod : Hid ((c : Int) % 128 = ((0 * 128 + c % 128 : Nat) : Int)) := by show _ = _; omega
              clear har
              by_cases hlt : c < 128
              · have hlt2 : (c : Int) < 128 := by omega
                have hV : Hid (R = (true, 0 * 128 + c % 128, t)) := by show _ = _; rw [hE.out, M.rw_last hlt, Nat.mod_eq_of_lt hlt]
                have hbd : 0 * 128 + c % 128 ≤ 268435455 := by omega
                clear hE
                go_wp2_with fail
                go_meet
                refine ⟨0 * 128 + c % 128, kk + 1, t, by rw [hmod.out], hV, ?_, ha2, hbd⟩
                have := HR1.out.at (kk + 1)
                rw [hj1.out] at this
                exact this
              · have hlt2 : ¬ (c : Int) < 128 := by omega
                have hV : Hid (R = M.rw' 3 (0 * 128 + c % 128) t) := by show _ = _; rw [hE.out, M.rw_more (by omega) (by omega) (by omega)]
                clear hE
                go_wp2_with fail
                go_roundw
                case rel =>
                  refine ⟨1, 3, 0 * 128 + c % 128, kk + 1, t, rfl, by rw [hmod.out], ?_, ha2, hV, Or.inr (Or.inl ⟨rfl, rfl, by omega⟩)⟩
                  have := HR1.out.at (kk + 1)
                  rw [hj1.out] at this
                  exact this
                case measure => simp [intOf]
          · clear hj
            cases r' with
            | nil =>
              have hk := har.nil
              subst hk
              have hre : Hid (M.rw' 4 0 r = (false, 0, [])) := by show _ = _; rw [← HRr.out, hE.out, M.rw_nil]
              clear hE
              go_wp2_with fail
              refine (bad_any w.heap.size (s.size) _ (HR1.out).uq).mono ?_
              rintro x9 w9 ⟨rfl, hb9⟩
              have u9 := (HR1.out).uq.keep hb9
              have hbl9 : Below w.heap.size w w9 := (HR1.out).bel.trans (hb9.mono (HR1.out).bel.size)
              obtain ⟨hV9, hF9⟩ := HBad.out _ _ (M.re_no hre.out) (har)
              have HV9 : Hid (U = _) := hV9
              obtain ⟨p0, p1, p2, p3, p4⟩ := u9.fb.c
              clear hV9 hb9 u9 HBad HOk
              go_wp2_with fail
              refine bodyPost_ret (v := .tuple #[.slice none 0 0, .agg #[.int .i64 2, .int .i64 (s.size : Int)]]) (by simp [results, Try.results23, go_sem, p0, p1]) rfl ⟨⟨.slice none 0 0, ?_, ?_⟩, ?_⟩
              · rw [HV9.out, hF9] <;> first | done | rfl | (push_cast; rfl)
              · rw [HV9.out]; exact OE.nil _ _
              · exact (hbl9.setCell (by simp) _).setCell (by simp) _
            | cons c t =>
              obtain ⟨hk, e1, ha2, hc⟩ := har.cons
              have hne : ((kk : Int) == (s.size : Int)) = false := by simp; omega
              have hkl2 : (kk : Int) < s.size := by omega
              have w3 : IntKind.i64.wrap ((kk : Int) + 1) = (kk : Int) + 1 := wid (by omega) (by omega)
              have hj1 : Hid (((kk + 1 : Nat) : Int) = (kk : Int) + 1) := by show _ = _; omega
              have hmod : Hid (128 * (acc : Int) + (c : Int) % 128 = ((acc * 128 + c % 128 : Nat) : Int)) := by show _ = _; omega
              clear har
              by_cases hlt : c < 128
              · have hlt2 : (c : Int) < 128 := by omega
                have hV : Hid (R = (true, acc * 128 + c % 128, t)) := by show _ = _; rw [hE.out, M.rw_last hlt, Nat.mod_eq_of_lt hlt]
                have hbd : acc * 128 + c % 128 ≤ 268435455 := by omega
                clear hE
                go_wp2_with fail
                go_meet
                refine ⟨acc * 128 + c % 128, kk + 1, t, by rw [hmod.out], hV, ?_, ha2, hbd⟩
                have := HR1.out.at (kk + 1)
                rw [hj1.out] at this
                exact this
              · have hlt2 : ¬ (c : Int) < 128 := by omega
                have hV : Hid (R = M.rw' 2 (acc * 128 + c % 128) t) := by show _ = _; rw [hE.out, M.rw_more (by omega) (by omega) (by omega)]
                clear hE
                go_wp2_with fail
                go_roundw
                case rel =>
                  refine ⟨2, 2, acc * 128 + c % 128, kk + 1, t, rfl, by rw [hmod.out], ?_, ha2, hV, Or.inr (Or.inr (Or.inl ⟨rfl, rfl, by omega⟩))⟩
                  have := HR1.out.at (kk + 1)
                  rw [hj1.out] at this
                  exact this
                case measure => simp [intOf]
          · clear hj
            cases r' with
            | nil =>
              have hk := har.nil
              subst hk
              have hre : Hid (M.rw' 4 0 r = (false, 0, [])) := by show _ = _; rw [← HRr.out, hE.out, M.rw_nil]
              clear hE
              go_wp2_with fail
              refine (bad_any w.heap.size (s.size) _ (HR1.out).uq).mono ?_
              rintro x9 w9 ⟨rfl, hb9⟩
              have u9 := (HR1.out).uq.keep hb9
              have hbl9 : Below w.heap.size w w9 := (HR1.out).bel.trans (hb9.mono (HR1.out).bel.size)
              obtain ⟨hV9, hF9⟩ := HBad.out _ _ (M.re_no hre.out) (har)
              have HV9 : Hid (U = _) := hV9
              obtain ⟨p0, p1, p2, p3, p4⟩ := u9.fb.c
              clear hV9 hb9 u9 HBad HOk
              go_wp2_with fail
              refine bodyPost_ret (v := .tuple #[.slice none 0 0, .agg #[.int .i64 2, .int .i64 (s.size : Int)]]) (by simp [results, Try.results23, go_sem, p0, p1]) rfl ⟨⟨.slice none 0 0, ?_, ?_⟩, ?_⟩
              · rw [HV9.out, hF9] <;> first | done | rfl | (push_cast; rfl)
              · rw [HV9.out]; exact OE.nil _ _
              · exact (hbl9.setCell (by simp) _).setCell (by simp) _
            | cons c t =>
              obtain ⟨hk, e1, ha2, hc⟩ := har.cons
              have hne : ((kk : Int) == (s.size : Int)) = false := by simp; omega
              have hkl2 : (kk : Int) < s.size := by omega
              have w3 : IntKind.i64.wrap ((kk : Int) + 1) = (kk : Int) + 1 := wid (by omega) (by omega)
              have hj1 : Hid (((kk + 1 : Nat) : Int) = (kk : Int) + 1) := by show _ = _; omega
              have hmod : Hid (128 * (acc : Int) + (c : Int) % 128 = ((acc * 128 + c % 128 : Nat) : Int)) := by show _ = _; omega
              clear har
              by_cases hlt : c < 128
              · have hlt2 : (c : Int) < 128 := by omega
                have hV : Hid (R = (true, acc * 128 + c % 128, t)) := by show _ = _; rw [hE.out, M.rw_last hlt, Nat.mod_eq_of_lt hlt]
                have hbd : acc * 128 + c % 128 ≤ 268435455 := by omega
                clear hE
                go_wp2_with fail
                go_meet
                refine ⟨acc * 128 + c % 128, kk + 1, t, by rw [hmod.out], hV, ?_, ha2, hbd⟩
                have := HR1.out.at (kk + 1)
                rw [hj1.out] at this
                exact this
              · have hlt2 : ¬ (c : Int) < 128 := by omega
                have hV : Hid (R = M.rw' 1 (acc * 128 + c % 128) t) := by show _ = _; rw [hE.out, M.rw_more (by omega) (by omega) (by omega)]
                clear hE
                go_wp2_with fail
                go_roundw
                case rel =>
                  refine ⟨3, 1, acc * 128 + c % 128, kk + 1, t, rfl, by rw [hmod.out], ?_, ha2, hV, Or.inr (Or.inr (Or.inr ⟨rfl, rfl, by omega⟩))⟩
                  have := HR1.out.at (kk + 1)
                  rw [hj1.out] at this
                  exact this
                case measure => simp [intOf]
          · clear hj
            cases r' with
            | nil =>
              have hk := har.nil
              subst hk
              have hre : Hid (M.rw' 4 0 r = (false, 0, [])) := by show _ = _; rw [← HRr.out, hE.out, M.rw_nil]
              clear hE
              go_wp2_with fail
              refine (bad_any w.heap.size (s.size) _ (HR1.out).uq).mono ?_
              rintro x9 w9 ⟨rfl, hb9⟩
              have u9 := (HR1.out).uq.keep hb9
              have hbl9 : Below w.heap.size w w9 := (HR1.out).bel.trans (hb9.mono (HR1.out).bel.size)
              obtain ⟨hV9, hF9⟩ := HBad.out _ _ (M.re_no hre.out) (har)
              have HV9 : Hid (U = _) := hV9
              obtain ⟨p0, p1, p2, p3, p4⟩ := u9.fb.c
              clear hV9 hb9 u9 HBad HOk
              go_wp2_with fail
              refine bodyPost_ret (v := .tuple #[.slice none 0 0, .agg #[.int .i64 2, .int .i64 (s.size : Int)]]) (by simp [results, Try.results23, go_sem, p0, p1]) rfl ⟨⟨.slice none 0 0, ?_, ?_⟩, ?_⟩
              · rw [HV9.out, hF9] <;> first | done | rfl | (push_cast; rfl)
              · rw [HV9.out]; exact OE.nil _ _
              · exact (hbl9.setCell (by simp) _).setCell (by simp) _
            | cons c t =>
              obtain ⟨hk, e1, ha2, hc⟩ := har.cons
              have hne : ((kk : Int) == (s.size : Int)) = false := by simp; omega
              have hkl2 : (kk : Int) < s.size := by omega
              by_cases hbad : 128 ≤ c
              · have hre : Hid (M.rw' 4 0 r = (false, 0, c :: t)) := by show _ = _; rw [← HRr.out, hE.out, M.rw_bad (Or.inr ⟨rfl, hbad⟩)]
                have hb1 : (128 : Int) ≤ (c : Int) := by omega
                have har' : Hid (At s kk (c :: t)) := har
                clear hE hbad har
                go_wp2_with fail
                refine (bad_any w.heap.size (kk) _ (HR1.out).uq).mono ?_
                rintro x9 w9 ⟨rfl, hb9⟩
                have u9 := (HR1.out).uq.keep hb9
                have hbl9 : Below w.heap.size w w9 := (HR1.out).bel.trans (hb9.mono (HR1.out).bel.size)
                obtain ⟨hV9, hF9⟩ := HBad.out _ _ (M.re_no hre.out) (har'.out)
                have HV9 : Hid (U = _) := hV9
                obtain ⟨p0, p1, p2, p3, p4⟩ := u9.fb.c
                clear hV9 hb9 u9 HBad HOk
                go_wp2_with fail
                refine bodyPost_ret (v := .tuple #[.slice none 0 0, .agg #[.int .i64 2, .int .i64 (kk : Int)]]) (by simp [results, Try.results23, go_sem, p0, p1]) rfl ⟨⟨.slice none 0 0, ?_, ?_⟩, ?_⟩
                · rw [HV9.out, hF9] <;> first | done | rfl | (push_cast; rfl)
                · rw [HV9.out]; exact OE.nil _ _
                · exact (hbl9.setCell (by simp) _).setCell (by simp) _
              have hb1 : ¬ (128 : Int) ≤ (c : Int) := by omega
              have w3 : IntKind.i64.wrap ((kk : Int) + 1) = (kk : Int) + 1 := wid (by omega) (by omega)
              have hj1 : Hid (((kk + 1 : Nat) : Int) = (kk : Int) + 1) := by show _ = _; omega
              have hmod : Hid (128 * (acc : Int) + (c : Int) % 128 = ((acc * 128 + c % 128 : Nat) : Int)) := by show _ = _; omega
              clear har
              by_cases hlt : c < 128
              · have hlt2 : (c : Int) < 128 := by omega
                have hV : Hid (R = (true, acc * 128 + c % 128, t)) := by show _ = _; rw [hE.out, M.rw_last hlt, Nat.mod_eq_of_lt hlt]
                have hbd : acc * 128 + c % 128 ≤ 268435455 := by omega
                clear hE
                go_wp2_with fail
                go_meet
                refine ⟨acc * 128 + c % 128, kk + 1, t, by rw [hmod.out], hV, ?_, ha2, hbd⟩
                have := HR1.out.at (kk + 1)
                rw [hj1.out] at this
                exact this
              · exact absurd hbad (by omega)
      case rest =>
        obtain ⟨N, j, l1, rfl, hRN, hRw, haj, hN⟩ := hcut
        rename World => WC
        have hre0 : Hid (M.re ⟨LT, (S : Int) / 16, (S : Int) % 16, aa, ab⟩ r = M.re2 ⟨LT, (S : Int) / 16, (S : Int) % 16, aa, ab⟩ N l1) := M.re_of (HRr.out.symm.trans hRN.out)
        clear HRw HR0 HRr hRN ha
        have c0 := hRw.uq.c
        have f0 := hRw.uq.f
        have lt1 := hRw.uq.lt
        have wl : IntKind.i64.wrap (LT + (N : Int)) = LT + (N : Int) := wid (by omega) (by omega)
        have HR1 : Hid (Rw w WR.heap.size WC j (.slice ao es.length oc) es) := hRw
        clear hRw
        have HDS := Data_any ((S : Int) / 16)
        have HDS0 : Hid (M.isK ((S : Int) / 16) = false → M.dt ((S : Int) / 16) = 0) := M.dt_none
        cases l1 with
        | nil =>
          have hnil := haj.nil
          have hq : ((j : Int) == (s.size : Int)) = true := by simp; omega
          have hq2 : ¬ (j : Int) < s.size := by omega
          have HRE : Hid (M.re ⟨LT, (S : Int) / 16, (S : Int) % 16, aa, ab⟩ r = (false, M.z0, [])) := by show _ = _; rw [hre0.out, M.re2_nil]
          clear hnil hre0
          generalize M.dt ((S : Int) / 16) = D at *
          by_cases hD : D = 0
          · have hD0 : (D == 0) = true := by simp [hD]
            clear hD HDS0
            go_wp2_with fail
            refine (HDS _).mono ?_
            rintro x9 w9 ⟨rfl, hw9⟩
            rw [hw9]
            clear hw9
            go_wp2_with fail
            refine (bad_any w.heap.size (j) _ ((HR1.out.alloc _)).uq).mono ?_
            rintro x9 w9 ⟨rfl, hb9⟩
            have u9 := ((HR1.out.alloc _)).uq.keep hb9
            have hbl9 : Below w.heap.size w w9 := ((HR1.out.alloc _)).bel.trans (hb9.mono ((HR1.out.alloc _)).bel.size)
            obtain ⟨hV9, hF9⟩ := HBad.out _ _ (HRE.out) (haj)
            have HV9 : Hid (U = _) := hV9
            obtain ⟨p0, p1, p2, p3, p4⟩ := u9.fb.c
            clear hV9 hb9 u9 HBad HOk
            go_wp2_with fail
            refine bodyPost_ret (v := .tuple #[.slice none 0 0, .agg #[.int .i64 2, .int .i64 (j : Int)]]) (by simp [results, Try.results23, go_sem, p0, p1]) rfl ⟨⟨.slice none 0 0, ?_, ?_⟩, ?_⟩
            · rw [HV9.out, hF9] <;> first | done | rfl | (push_cast; rfl)
            · rw [HV9.out]; exact OE.nil _ _
            · exact (hbl9.setCell (by simp) _).setCell (by simp) _
          · have hD0 : (D == 0) = false := by simp [hD]
            clear hD HDS0
            go_wp2_with fail
            refine (HDS _).mono ?_
            rintro x9 w9 ⟨rfl, hw9⟩
            rw [hw9]
            clear hw9
            go_wp2_with fail
            refine (bad_any w.heap.size (j) _ ((HR1.out.alloc _)).uq).mono ?_
            rintro x9 w9 ⟨rfl, hb9⟩
            have u9 := ((HR1.out.alloc _)).uq.keep hb9
            have hbl9 : Below w.heap.size w w9 := ((HR1.out.alloc _)).bel.trans (hb9.mono ((HR1.out.alloc _)).bel.size)
            obtain ⟨hV9, hF9⟩ := HBad.out _ _ (HRE.out) (haj)
            have HV9 : Hid (U = _) := hV9
            obtain ⟨p0, p1, p2, p3, p4⟩ := u9.fb.c
            clear hV9 hb9 u9 HBad HOk
            go_wp2_with fail
            refine bodyPost_ret (v := .tuple #[.slice none 0 0, .agg #[.int .i64 2, .int .i64 (j : Int)]]) (by simp [results, Try.results23, go_sem, p0, p1]) rfl ⟨⟨.slice none 0 0, ?_, ?_⟩, ?_⟩
            · rw [HV9.out, hF9] <;> first | done | rfl | (push_cast; rfl)
            · rw [HV9.out]; exact OE.nil _ _
            · exact (hbl9.setCell (by simp) _).setCell (by simp) _
        | cons x t =>
          obtain ⟨hk, e1, ha2, hx⟩ := haj.cons
          have hne : ((j : Int) == (s.size : Int)) = false := by simp; omega
          have hkl2 : (j : Int) < s.size := by omega
          have w3 : IntKind.i64.wrap ((j : Int) + 1) = (j : Int) + 1 := wid (by omega) (by omega)
          by_cases hlt : x < 128
          · have hge : ¬ (128 : Int) ≤ (x : Int) := by omega
            have hre1 := hre0.out.trans (M.re2_low hlt)
            cases hK : M.isK ((S : Int) / 16)
            · have HRE : Hid (M.re ⟨LT, (S : Int) / 16, (S : Int) % 16, aa, ab⟩ r = (false, M.z0, x :: t)) := by show _ = _; rw [hre1, if_pos hK]
              have HA9 : Hid (At s j (x :: t)) := haj
              rw [HDS0.out hK] at HDS
              clear hre0 hre1 HDS0 haj ha2 hK
              go_wp2_with fail
              refine (HDS _).mono ?_
              rintro x9 w9 ⟨rfl, hw9⟩
              rw [hw9]
              clear hw9
              go_wp2_with fail
              refine (bad_any w.heap.size (j) _ ((HR1.out.alloc _)).uq).mono ?_
              rintro x9 w9 ⟨rfl, hb9⟩
              have u9 := ((HR1.out.alloc _)).uq.keep hb9
              have hbl9 : Below w.heap.size w w9 := ((HR1.out.alloc _)).bel.trans (hb9.mono ((HR1.out.alloc _)).bel.size)
              obtain ⟨hV9, hF9⟩ := HBad.out _ _ (HRE.out) (HA9.out)
              have HV9 : Hid (U = _) := hV9
              obtain ⟨p0, p1, p2, p3, p4⟩ := u9.fb.c
              clear hV9 hb9 u9 HBad HOk
              go_wp2_with fail
              refine bodyPost_ret (v := .tuple #[.slice none 0 0, .agg #[.int .i64 2, .int .i64 (j : Int)]]) (by simp [results, Try.results23, go_sem, p0, p1]) rfl ⟨⟨.slice none 0 0, ?_, ?_⟩, ?_⟩
              · rw [HV9.out, hF9] <;> first | done | rfl | (push_cast; rfl)
              · rw [HV9.out]; exact OE.nil _ _
              · exact (hbl9.setCell (by simp) _).setCell (by simp) _
            · have hre2 : Hid (M.re ⟨LT, (S : Int) / 16, (S : Int) % 16, aa, ab⟩ r = M.re4 ⟨LT, (S : Int) / 16, (S : Int) % 16, aa, ab⟩ N ((S : Int) / 16) ((S : Int) % 16) x t) := by show _ = _; rw [hre1, if_neg (by simp only; rw [hK]; decide)]
              obtain ⟨D, hDv⟩ : ∃ D, D = M.dt ((S : Int) / 16) := ⟨_, rfl⟩
              rw [← hDv] at HDS
              have hD0 : (D == 0) = false := by rw [hDv]; unfold M.dt; rw [hK]; split <;> rfl
              clear hre0 hre1 HDS0 haj
              by_cases ck : (S : Int) / 16 = 12
              · have hD2 : (D == 2) = false := by rw [hDv]; unfold M.dt; rw [if_pos ck]; decide
                have hre := (hre2.out).trans (M.re4_one ck)
                have HRE : Hid _ := hre
                clear ck hDv hre
                go_wp2_with fail
                refine (HDS _).mono ?_
                rintro x9 w9 ⟨rfl, hw9⟩
                rw [hw9]
                clear hw9
                go_wp2_with fail
                refine (HDS _).mono ?_
                rintro x9 w9 ⟨rfl, hw9⟩
                rw [hw9]
                clear hw9
                have hRA : Rw w WR.heap.size (WC.setCell ⟨w.heap.size + 1, 0, none⟩ (.int .i64 ((j : Int) + 1))) (j + 1) (.slice ao es.length oc) es := (HR1.out.at' (j + 1) (J := (j : Int) + 1) (by omega))
                obtain ⟨hU5, hA5, hl5⟩ := HOk.out ⟨LT + (N : Int), (S : Int) / 16, (S : Int) % 16, (x : Int), 0⟩ t (HRE.out)
                have HU5 : Hid (U = _) := hU5
                have HL5 := HLs.out ⟨LT + (N : Int), (S : Int) / 16, (S : Int) % 16, (x : Int), 0⟩
                have HL6 : Hid (M.lst M.z0 (es ++ [⟨LT + (N : Int), (S : Int) / 16, (S : Int) % 16, (x : Int), 0⟩]) = ⟨LT + (N : Int), (S : Int) / 16, (S : Int) % 16, (x : Int), 0⟩) := HL5
                have hE5 : ∀ W : World, E5 (W.alloc (.cells #[.int .i64 (LT + (N : Int)), .int .i64 ((S : Int) / 16), .int .i64 ((S : Int) % 16), .int .i64 (x : Int), .int .i64 0] 62)) W.heap.size 0 ⟨LT + (N : Int), (S : Int) / 16, (S : Int) % 16, (x : Int), 0⟩ := fun W => ⟨by simp [go_sem], by simp [go_sem], by simp [go_sem], by simp [go_sem], by simp [go_sem]⟩
                have hE5 := hE5 (((WC.setCell ⟨w.heap.size + 1, 0, none⟩ (.int .i64 ((j : Int) + 1)))).alloc (.cells #[.int .i64 (LT + (N : Int)), .int .i64 ((S : Int) / 16), .int .i64 ((S : Int) % 16), .int .i64 (x : Int), .int .i64 0] 62))
                simp only [World.size_alloc, World.size_setCell] at hE5
                have hes5 : es.length ≤ 1000000 := by omega
                clear hU5 HL5 HBad HOk HLs
                go_wp2_with (at_builtin; refine wpList_append_ev rfl (.tmp 163) (.tmp 165) rfl (w.heap.size + 1 + 1) _ es rfl ((hRA.alloc _).alloc _).oe (WC.heap.size + 1) ⟨LT + (N : Int), (S : Int) / 16, (S : Int) % 16, (x : Int), 0⟩ rfl hE5 hes5 ?c2 ?_)
                case c2 => have := ((hRA.alloc (.cells #[.int .i64 (LT + (N : Int)), .int .i64 ((S : Int) / 16), .int .i64 ((S : Int) % 16), .int .i64 (x : Int), .int .i64 0] 62)).alloc (.cells #[.int .i64 (LT + (N : Int)), .int .i64 ((S : Int) / 16), .int .i64 ((S : Int) % 16), .int .i64 (x : Int), .int .i64 0] 62)).uq.lt; omega
                intro V4 w4 ho4 hg4
                have hR4 := (hRA.alloc (.cells #[.int .i64 (LT + (N : Int)), .int .i64 ((S : Int) / 16), .int .i64 ((S : Int) % 16), .int .i64 (x : Int), .int .i64 0] 62)).alloc (.cells #[.int .i64 (LT + (N : Int)), .int .i64 ((S : Int) / 16), .int .i64 ((S : Int) % 16), .int .i64 (x : Int), .int .i64 0] 62)
                have hob : ∀ b, (Value.slice ao es.length oc).ownBlock = some b → w.heap.size + 1 < b := fun b hb => own_block hR4.oe b hb
                have hu4 : Uq w.heap.size w4 (j + 1) := hR4.uq.gw hg4 hob
                have hb4 : Below w.heap.size w w4 := hR4.bel.trans (hg4.bel (by have := hR4.bel.size; omega) (fun b hb => by have := hob b hb; omega))
                have hcv : Hid ((intOf (cv w4 (w.heap.size + 1) 0)).toNat = j + 1) := by show _ = _; rw [cv_is hu4.c]; simp only [intOf]; omega
                clear hR4 hob hRA hg4 hE5
                go_wp2_with fail
                go_roundw
                case rel =>
                  have hrel9 : ∃ (es' : List M.Ev) (f' k' S' : Nat) (LT' : Int) (r' : List Nat), OE w4 (w.heap.size + 1 + 1) V4 es' ∧ Value.int IntKind.i64 (LT + (N : Int)) = .int .i64 LT' ∧ LT' = (M.lst M.z0 es').t ∧ Value.int IntKind.i64 (S : Int) = .int .i64 (S' : Int) ∧ es'.length + f' = 4096 ∧ Uq w.heap.size w4 k' ∧ At s k' r' ∧ Below w.heap.size w w4 ∧ Hid (U = M.pre es' (M.un f' (M.lst M.z0 es') r')) ∧ Ahd (M.lst M.z0 es') es'.length ∧ Sq S' (M.lst M.z0 es') :=
                    ⟨es ++ [⟨LT + (N : Int), (S : Int) / 16, (S : Int) % 16, (x : Int), 0⟩], f, j + 1, S, LT + (N : Int), t, ho4, rfl, by rw [HL6.out], rfl, by simp; omega, hu4, ha2, hb4, by show U = _; rw [HL6.out]; exact HU5.out, by rw [HL6.out]; simpa using hA5, by rw [HL6.out]; exact ⟨by first | rfl | (simp only; omega), by first | rfl | (simp only; omega), by omega⟩⟩
                  first
                    | exact hrel9
                    | ((repeat apply Exists.intro); exact ⟨hrel9, rfl⟩)
                case measure =>
                  have := hal.out
                  have := (ha2).left
                  rw [hm.out]
                  rw [hcv.out]
                  omega
              · have hD2 : (D == 2) = true := by rw [hDv]; unfold M.dt; rw [if_neg ck, if_pos hK]; decide
                cases t with
                | nil =>
                  have hre := (hre2.out).trans (M.re4_nil ck)
                  have HRE : Hid _ := hre
                  have hnil := ha2.nil
                  have hq : ((j : Int) + 1 == (s.size : Int)) = true := by simp; omega
                  clear ck hDv hre hnil
                  go_wp2_with fail
                  refine (HDS _).mono ?_
                  rintro x9 w9 ⟨rfl, hw9⟩
                  rw [hw9]
                  clear hw9
                  go_wp2_with fail
                  refine (HDS _).mono ?_
                  rintro x9 w9 ⟨rfl, hw9⟩
                  rw [hw9]
                  clear hw9
                  go_wp2_with fail
                  refine (bad_any w.heap.size (j + 1) _ (((HR1.out.at' (j + 1) (J := (j : Int) + 1) (by omega)).alloc _)).uq).mono ?_
                  rintro x9 w9 ⟨rfl, hb9⟩
                  have u9 := (((HR1.out.at' (j + 1) (J := (j : Int) + 1) (by omega)).alloc _)).uq.keep hb9
                  have hbl9 : Below w.heap.size w w9 := (((HR1.out.at' (j + 1) (J := (j : Int) + 1) (by omega)).alloc _)).bel.trans (hb9.mono (((HR1.out.at' (j + 1) (J := (j : Int) + 1) (by omega)).alloc _)).bel.size)
                  obtain ⟨hV9, hF9⟩ := HBad.out _ _ (HRE.out) (ha2)
                  have HV9 : Hid (U = _) := hV9
                  obtain ⟨p0, p1, p2, p3, p4⟩ := u9.fb.c
                  clear hV9 hb9 u9 HBad HOk
                  go_wp2_with fail
                  refine bodyPost_ret (v := .tuple #[.slice none 0 0, .agg #[.int .i64 2, .int .i64 (j + 1 : Int)]]) (by simp [results, Try.results23, go_sem, p0, p1]) rfl ⟨⟨.slice none 0 0, ?_, ?_⟩, ?_⟩
                  · rw [HV9.out, hF9] <;> first | done | rfl | (push_cast; rfl)
                  · rw [HV9.out]; exact OE.nil _ _
                  · exact (hbl9.setCell (by simp) _).setCell (by simp) _
                | cons y yr =>
                  obtain ⟨hky, ey, hay, hby⟩ := ha2.cons
                  have hq : ((j : Int) + 1 == (s.size : Int)) = false := by simp; omega
                  have hkly : (j : Int) + 1 < s.size := by omega
                  have wy9 : IntKind.i64.wrap ((j : Int) + 1 + 1) = (j : Int) + 1 + 1 := wid (by omega) (by omega)
                  by_cases hlty : y < 128
                  · have hgey : ¬ (128 : Int) ≤ (y : Int) := by omega
                    have hre := (hre2.out).trans (M.re4_low ck hlty)
                    have HRE : Hid _ := hre
                    clear ck hDv hre
                    go_wp2_with fail
                    refine (HDS _).mono ?_
                    rintro x9 w9 ⟨rfl, hw9⟩
                    rw [hw9]
                    clear hw9
                    go_wp2_with fail
                    refine (HDS _).mono ?_
                    rintro x9 w9 ⟨rfl, hw9⟩
                    rw [hw9]
                    clear hw9
                    have hRA : Rw w WR.heap.size ((WC.setCell ⟨w.heap.size + 1, 0, none⟩ (.int .i64 ((j : Int) + 1))).setCell ⟨w.heap.size + 1, 0, none⟩ (.int .i64 ((j : Int) + 1 + 1))) (j + 1 + 1) (.slice ao es.length oc) es := ((HR1.out.at' (j + 1) (J := (j : Int) + 1) (by omega)).at' (j + 1 + 1) (J := (j : Int) + 1 + 1) (by omega))
                    obtain ⟨hU5, hA5, hl5⟩ := HOk.out ⟨LT + (N : Int), (S : Int) / 16, (S : Int) % 16, (x : Int), (y : Int)⟩ yr (HRE.out)
                    have HU5 : Hid (U = _) := hU5
                    have HL5 := HLs.out ⟨LT + (N : Int), (S : Int) / 16, (S : Int) % 16, (x : Int), (y : Int)⟩
                    have HL6 : Hid (M.lst M.z0 (es ++ [⟨LT + (N : Int), (S : Int) / 16, (S : Int) % 16, (x : Int), (y : Int)⟩]) = ⟨LT + (N : Int), (S : Int) / 16, (S : Int) % 16, (x : Int), (y : Int)⟩) := HL5
                    have hE5 : ∀ W : World, E5 (W.alloc (.cells #[.int .i64 (LT + (N : Int)), .int .i64 ((S : Int) / 16), .int .i64 ((S : Int) % 16), .int .i64 (x : Int), .int .i64 (y : Int)] 62)) W.heap.size 0 ⟨LT + (N : Int), (S : Int) / 16, (S : Int) % 16, (x : Int), (y : Int)⟩ := fun W => ⟨by simp [go_sem], by simp [go_sem], by simp [go_sem], by simp [go_sem], by simp [go_sem]⟩
                    have hE5 := hE5 ((((WC.setCell ⟨w.heap.size + 1, 0, none⟩ (.int .i64 ((j : Int) + 1))).setCell ⟨w.heap.size + 1, 0, none⟩ (.int .i64 ((j : Int) + 1 + 1)))).alloc (.cells #[.int .i64 (LT + (N : Int)), .int .i64 ((S : Int) / 16), .int .i64 ((S : Int) % 16), .int .i64 (x : Int), .int .i64 (y : Int)] 62))
                    simp only [World.size_alloc, World.size_setCell] at hE5
                    have hes5 : es.length ≤ 1000000 := by omega
                    clear hU5 HL5 HBad HOk HLs
                    go_wp2_with (at_builtin; refine wpList_append_ev rfl (.tmp 163) (.tmp 165) rfl (w.heap.size + 1 + 1) _ es rfl ((hRA.alloc _).alloc _).oe (WC.heap.size + 1) ⟨LT + (N : Int), (S : Int) / 16, (S : Int) % 16, (x : Int), (y : Int)⟩ rfl hE5 hes5 ?c2 ?_)
                    case c2 => have := ((hRA.alloc (.cells #[.int .i64 (LT + (N : Int)), .int .i64 ((S : Int) / 16), .int .i64 ((S : Int) % 16), .int .i64 (x : Int), .int .i64 (y : Int)] 62)).alloc (.cells #[.int .i64 (LT + (N : Int)), .int .i64 ((S : Int) / 16), .int .i64 ((S : Int) % 16), .int .i64 (x : Int), .int .i64 (y : Int)] 62)).uq.lt; omega
                    intro V4 w4 ho4 hg4
                    have hR4 := (hRA.alloc (.cells #[.int .i64 (LT + (N : Int)), .int .i64 ((S : Int) / 16), .int .i64 ((S : Int) % 16), .int .i64 (x : Int), .int .i64 (y : Int)] 62)).alloc (.cells #[.int .i64 (LT + (N : Int)), .int .i64 ((S : Int) / 16), .int .i64 ((S : Int) % 16), .int .i64 (x : Int), .int .i64 (y : Int)] 62)
                    have hob : ∀ b, (Value.slice ao es.length oc).ownBlock = some b → w.heap.size + 1 < b := fun b hb => own_block hR4.oe b hb
                    have hu4 : Uq w.heap.size w4 (j + 1 + 1) := hR4.uq.gw hg4 hob
                    have hb4 : Below w.heap.size w w4 := hR4.bel.trans (hg4.bel (by have := hR4.bel.size; omega) (fun b hb => by have := hob b hb; omega))
                    have hcv : Hid ((intOf (cv w4 (w.heap.size + 1) 0)).toNat = j + 1 + 1) := by show _ = _; rw [cv_is hu4.c]; simp only [intOf]; omega
                    clear hR4 hob hRA hg4 hE5
                    go_wp2_with fail
                    go_roundw
                    case rel =>
                      have hrel9 : ∃ (es' : List M.Ev) (f' k' S' : Nat) (LT' : Int) (r' : List Nat), OE w4 (w.heap.size + 1 + 1) V4 es' ∧ Value.int IntKind.i64 (LT + (N : Int)) = .int .i64 LT' ∧ LT' = (M.lst M.z0 es').t ∧ Value.int IntKind.i64 (S : Int) = .int .i64 (S' : Int) ∧ es'.length + f' = 4096 ∧ Uq w.heap.size w4 k' ∧ At s k' r' ∧ Below w.heap.size w w4 ∧ Hid (U = M.pre es' (M.un f' (M.lst M.z0 es') r')) ∧ Ahd (M.lst M.z0 es') es'.length ∧ Sq S' (M.lst M.z0 es') :=
                        ⟨es ++ [⟨LT + (N : Int), (S : Int) / 16, (S : Int) % 16, (x : Int), (y : Int)⟩], f, j + 1 + 1, S, LT + (N : Int), yr, ho4, rfl, by rw [HL6.out], rfl, by simp; omega, hu4, hay, hb4, by show U = _; rw [HL6.out]; exact HU5.out, by rw [HL6.out]; simpa using hA5, by rw [HL6.out]; exact ⟨by first | rfl | (simp only; omega), by first | rfl | (simp only; omega), by omega⟩⟩
                      first
                        | exact hrel9
                        | ((repeat apply Exists.intro); exact ⟨hrel9, rfl⟩)
                    case measure =>
                      have := hal.out
                      have := (hay).left
                      rw [hm.out]
                      rw [hcv.out]
                      omega
                  · have hgey : (128 : Int) ≤ (y : Int) := by omega
                    have hre := (hre2.out).trans (M.re4_high ck hlty)
                    have HRE : Hid _ := hre
                    have HA9 : Hid (At s (j + 1) (y :: yr)) := ha2
                    clear ck hDv hre
                    go_wp2_with fail
                    refine (HDS _).mono ?_
                    rintro x9 w9 ⟨rfl, hw9⟩
                    rw [hw9]
                    clear hw9
                    go_wp2_with fail
                    refine (HDS _).mono ?_
                    rintro x9 w9 ⟨rfl, hw9⟩
                    rw [hw9]
                    clear hw9
                    go_wp2_with fail
                    refine (bad_any w.heap.size (j + 1) _ (((HR1.out.at' (j + 1) (J := (j : Int) + 1) (by omega)).alloc _)).uq).mono ?_
                    rintro x9 w9 ⟨rfl, hb9⟩
                    have u9 := (((HR1.out.at' (j + 1) (J := (j : Int) + 1) (by omega)).alloc _)).uq.keep hb9
                    have hbl9 : Below w.heap.size w w9 := (((HR1.out.at' (j + 1) (J := (j : Int) + 1) (by omega)).alloc _)).bel.trans (hb9.mono (((HR1.out.at' (j + 1) (J := (j : Int) + 1) (by omega)).alloc _)).bel.size)
                    obtain ⟨hV9, hF9⟩ := HBad.out _ _ (HRE.out) (HA9.out)
                    have HV9 : Hid (U = _) := hV9
                    obtain ⟨p0, p1, p2, p3, p4⟩ := u9.fb.c
                    clear hV9 hb9 u9 HBad HOk
                    go_wp2_with fail
                    refine bodyPost_ret (v := .tuple #[.slice none 0 0, .agg #[.int .i64 2, .int .i64 (j + 1 : Int)]]) (by simp [results, Try.results23, go_sem, p0, p1]) rfl ⟨⟨.slice none 0 0, ?_, ?_⟩, ?_⟩
                    · rw [HV9.out, hF9] <;> first | done | rfl | (push_cast; rfl)
                    · rw [HV9.out]; exact OE.nil _ _
                    · exact (hbl9.setCell (by simp) _).setCell (by simp) _
          · have hge : (128 : Int) ≤ (x : Int) := by omega
            have ec1 : ((x / 16 : Nat) : Int) = (x : Int) / 16 := by omega
            have ec2 : ((x % 16 : Nat) : Int) = (x : Int) % 16 := by omega
            have hre1 := hre0.out.trans (M.re2_high hlt)
            rw [ec1, ec2] at hre1
            simp only at hre1
            have HDX := Data_any ((x : Int) / 16)
            by_cases hsame : x = S
            · have hst : ((x : Int) == (S : Int)) = true := by simp [hsame]
              have HRE : Hid (M.re ⟨LT, (S : Int) / 16, (S : Int) % 16, aa, ab⟩ r = (false, M.z0, x :: t)) := by show _ = _; rw [hre1, if_pos (Or.inr ⟨by omega, by omega⟩)]
              have HA9 : Hid (At s j (x :: t)) := haj
              clear hre0 hre1 haj ha2 ec1 ec2 hsame
              go_wp2_with fail
              refine (bad_any w.heap.size (j) _ (HR1.out).uq).mono ?_
              rintro x9 w9 ⟨rfl, hb9⟩
              have u9 := (HR1.out).uq.keep hb9
              have hbl9 : Below w.heap.size w w9 := (HR1.out).bel.trans (hb9.mono (HR1.out).bel.size)
              obtain ⟨hV9, hF9⟩ := HBad.out _ _ (HRE.out) (HA9.out)
              have HV9 : Hid (U = _) := hV9
              obtain ⟨p0, p1, p2, p3, p4⟩ := u9.fb.c
              clear hV9 hb9 u9 HBad HOk
              go_wp2_with fail
              refine bodyPost_ret (v := .tuple #[.slice none 0 0, .agg #[.int .i64 2, .int .i64 (j : Int)]]) (by simp [results, Try.results23, go_sem, p0, p1]) rfl ⟨⟨.slice none 0 0, ?_, ?_⟩, ?_⟩
              · rw [HV9.out, hF9] <;> first | done | rfl | (push_cast; rfl)
              · rw [HV9.out]; exact OE.nil _ _
              · exact (hbl9.setCell (by simp) _).setCell (by simp) _
            have hst : ((x : Int) == (S : Int)) = false := by simp; omega
            cases hK : M.isK ((x : Int) / 16)
            · have HRE : Hid (M.re ⟨LT, (S : Int) / 16, (S : Int) % 16, aa, ab⟩ r = (false, M.z0, x :: t)) := by show _ = _; rw [hre1, if_pos (Or.inl hK)]
              have HA9 : Hid (At s j (x :: t)) := haj
              rw [M.dt_none hK] at HDX
              clear hre0 hre1 haj ha2 ec1 ec2 hsame hK
              go_wp2_with fail
              refine (HDX _).mono ?_
              rintro x9 w9 ⟨rfl, hw9⟩
              rw [hw9]
              clear hw9
              go_wp2_with fail
              refine (bad_any w.heap.size (j) _ (HR1.out).uq).mono ?_
              rintro x9 w9 ⟨rfl, hb9⟩
              have u9 := (HR1.out).uq.keep hb9
              have hbl9 : Below w.heap.size w w9 := (HR1.out).bel.trans (hb9.mono (HR1.out).bel.size)
              obtain ⟨hV9, hF9⟩ := HBad.out _ _ (HRE.out) (HA9.out)
              have HV9 : Hid (U = _) := hV9
              obtain ⟨p0, p1, p2, p3, p4⟩ := u9.fb.c
              clear hV9 hb9 u9 HBad HOk
              go_wp2_with fail
              refine bodyPost_ret (v := .tuple #[.slice none 0 0, .agg #[.int .i64 2, .int .i64 (j : Int)]]) (by simp [results, Try.results23, go_sem, p0, p1]) rfl ⟨⟨.slice none 0 0, ?_, ?_⟩, ?_⟩
              · rw [HV9.out, hF9] <;> first | done | rfl | (push_cast; rfl)
              · rw [HV9.out]; exact OE.nil _ _
              · exact (hbl9.setCell (by simp) _).setCell (by simp) _
            · have hre2 : Hid (M.re ⟨LT, (S : Int) / 16, (S : Int) % 16, aa, ab⟩ r = M.re3 ⟨LT, (S : Int) / 16, (S : Int) % 16, aa, ab⟩ N ((x : Int) / 16) ((x : Int) % 16) t) := by show _ = _; rw [hre1, if_neg (by intro q; rcases q with h | ⟨h1, h2⟩; exact absurd (hK.symm.trans h) (by decide); omega)]
              obtain ⟨D, hDv⟩ : ∃ D, D = M.dt ((x : Int) / 16) := ⟨_, rfl⟩
              rw [← hDv] at HDX
              have hD0 : (D == 0) = false := by rw [hDv]; unfold M.dt; rw [hK]; split <;> rfl
              clear hre0 hre1 HDS0 HDS haj ec1 ec2 hsame
              cases t with
              | nil =>
                have hnil := ha2.nil
                have hq : ((j : Int) + 1 == (s.size : Int)) = true := by simp; omega
                have HRE : Hid (M.re ⟨LT, (S : Int) / 16, (S : Int) % 16, aa, ab⟩ r = (false, M.z0, [])) := by show _ = _; rw [hre2.out, M.re3_nil]
                clear hre2 hnil hDv hK
                go_wp2_with fail
                refine (HDX _).mono ?_
                rintro x9 w9 ⟨rfl, hw9⟩
                rw [hw9]
                clear hw9
                go_wp2_with fail
                refine (HDX _).mono ?_
                rintro x9 w9 ⟨rfl, hw9⟩
                rw [hw9]
                clear hw9
                go_wp2_with fail
                refine (bad_any w.heap.size (j + 1) _ (((HR1.out.at' (j + 1) (J := (j : Int) + 1) (by omega)).alloc _)).uq).mono ?_
                rintro x9 w9 ⟨rfl, hb9⟩
                have u9 := (((HR1.out.at' (j + 1) (J := (j : Int) + 1) (by omega)).alloc _)).uq.keep hb9
                have hbl9 : Below w.heap.size w w9 := (((HR1.out.at' (j + 1) (J := (j : Int) + 1) (by omega)).alloc _)).bel.trans (hb9.mono (((HR1.out.at' (j + 1) (J := (j : Int) + 1) (by omega)).alloc _)).bel.size)
                obtain ⟨hV9, hF9⟩ := HBad.out _ _ (HRE.out) (ha2)
                have HV9 : Hid (U = _) := hV9
                obtain ⟨p0, p1, p2, p3, p4⟩ := u9.fb.c
                clear hV9 hb9 u9 HBad HOk
                go_wp2_with fail
                refine bodyPost_ret (v := .tuple #[.slice none 0 0, .agg #[.int .i64 2, .int .i64 (j + 1 : Int)]]) (by simp [results, Try.results23, go_sem, p0, p1]) rfl ⟨⟨.slice none 0 0, ?_, ?_⟩, ?_⟩
                · rw [HV9.out, hF9] <;> first | done | rfl | (push_cast; rfl)
                · rw [HV9.out]; exact OE.nil _ _
                · exact (hbl9.setCell (by simp) _).setCell (by simp) _
              | cons y t2 =>
                obtain ⟨hk2, e2, ha3, hy⟩ := ha2.cons
                have hne2 : ((j : Int) + 1 == (s.size : Int)) = false := by simp; omega
                have hkl3 : (j : Int) + 1 < s.size := by omega
                have w4 : IntKind.i64.wrap ((j : Int) + 1 + 1) = (j : Int) + 1 + 1 := wid (by omega) (by omega)
                by_cases hylt : y < 128
                · have hyge : ¬ (128 : Int) ≤ (y : Int) := by omega
                  have hre3 : Hid (M.re ⟨LT, (S : Int) / 16, (S : Int) % 16, aa, ab⟩ r = M.re4 ⟨LT, (S : Int) / 16, (S : Int) % 16, aa, ab⟩ N ((x : Int) / 16) ((x : Int) % 16) y t2) := by show _ = _; rw [hre2.out, M.re3_low hylt]
                  clear hre2 ha2
                  by_cases ck : (x : Int) / 16 = 12
                  · have hD2 : (D == 2) = false := by rw [hDv]; unfold M.dt; rw [if_pos ck]; decide
                    have hre := (hre3.out).trans (M.re4_one ck)
                    have HRE : Hid _ := hre
                    clear ck hDv hre
                    go_wp2_with fail
                    refine (HDX _).mono ?_
                    rintro x9 w9 ⟨rfl, hw9⟩
                    rw [hw9]
                    clear hw9
                    go_wp2_with fail
                    refine (HDX _).mono ?_
                    rintro x9 w9 ⟨rfl, hw9⟩
                    rw [hw9]
                    clear hw9
                    go_wp2_with fail
                    refine (HDX _).mono ?_
                    rintro x9 w9 ⟨rfl, hw9⟩
                    rw [hw9]
                    clear hw9
                    have hRA : Rw w WR.heap.size ((WC.setCell ⟨w.heap.size + 1, 0, none⟩ (.int .i64 ((j : Int) + 1))).setCell ⟨w.heap.size + 1, 0, none⟩ (.int .i64 ((j : Int) + 1 + 1))) (j + 1 + 1) (.slice ao es.length oc) es := ((HR1.out.at' (j + 1) (J := (j : Int) + 1) (by omega)).at' (j + 1 + 1) (J := (j : Int) + 1 + 1) (by omega))
                    obtain ⟨hU5, hA5, hl5⟩ := HOk.out ⟨LT + (N : Int), (x : Int) / 16, (x : Int) % 16, (y : Int), 0⟩ t2 (HRE.out)
                    have HU5 : Hid (U = _) := hU5
                    have HL5 := HLs.out ⟨LT + (N : Int), (x : Int) / 16, (x : Int) % 16, (y : Int), 0⟩
                    have HL6 : Hid (M.lst M.z0 (es ++ [⟨LT + (N : Int), (x : Int) / 16, (x : Int) % 16, (y : Int), 0⟩]) = ⟨LT + (N : Int), (x : Int) / 16, (x : Int) % 16, (y : Int), 0⟩) := HL5
                    have hE5 : ∀ W : World, E5 (W.alloc (.cells #[.int .i64 (LT + (N : Int)), .int .i64 ((x : Int) / 16), .int .i64 ((x : Int) % 16), .int .i64 (y : Int), .int .i64 0] 62)) W.heap.size 0 ⟨LT + (N : Int), (x : Int) / 16, (x : Int) % 16, (y : Int), 0⟩ := fun W => ⟨by simp [go_sem], by simp [go_sem], by simp [go_sem], by simp [go_sem], by simp [go_sem]⟩
                    have hE5 := hE5 ((((WC.setCell ⟨w.heap.size + 1, 0, none⟩ (.int .i64 ((j : Int) + 1))).setCell ⟨w.heap.size + 1, 0, none⟩ (.int .i64 ((j : Int) + 1 + 1)))).alloc (.cells #[.int .i64 (LT + (N : Int)), .int .i64 ((x : Int) / 16), .int .i64 ((x : Int) % 16), .int .i64 (y : Int), .int .i64 0] 62))
                    simp only [World.size_alloc, World.size_setCell] at hE5
                    have hes5 : es.length ≤ 1000000 := by omega
                    clear hU5 HL5 HBad HOk HLs
                    go_wp2_with (at_builtin; refine wpList_append_ev rfl (.tmp 163) (.tmp 165) rfl (w.heap.size + 1 + 1) _ es rfl ((hRA.alloc _).alloc _).oe (WC.heap.size + 1) ⟨LT + (N : Int), (x : Int) / 16, (x : Int) % 16, (y : Int), 0⟩ rfl hE5 hes5 ?c2 ?_)
                    case c2 => have := ((hRA.alloc (.cells #[.int .i64 (LT + (N : Int)), .int .i64 ((x : Int) / 16), .int .i64 ((x : Int) % 16), .int .i64 (y : Int), .int .i64 0] 62)).alloc (.cells #[.int .i64 (LT + (N : Int)), .int .i64 ((x : Int) / 16), .int .i64 ((x : Int) % 16), .int .i64 (y : Int), .int .i64 0] 62)).uq.lt; omega
                    intro V4 w4 ho4 hg4
                    have hR4 := (hRA.alloc (.cells #[.int .i64 (LT + (N : Int)), .int .i64 ((x : Int) / 16), .int .i64 ((x : Int) % 16), .int .i64 (y : Int), .int .i64 0] 62)).alloc (.cells #[.int .i64 (LT + (N : Int)), .int .i64 ((x : Int) / 16), .int .i64 ((x : Int) % 16), .int .i64 (y : Int), .int .i64 0] 62)
                    have hob : ∀ b, (Value.slice ao es.length oc).ownBlock = some b → w.heap.size + 1 < b := fun b hb => own_block hR4.oe b hb
                    have hu4 : Uq w.heap.size w4 (j + 1 + 1) := hR4.uq.gw hg4 hob
                    have hb4 : Below w.heap.size w w4 := hR4.bel.trans (hg4.bel (by have := hR4.bel.size; omega) (fun b hb => by have := hob b hb; omega))
                    have hcv : Hid ((intOf (cv w4 (w.heap.size + 1) 0)).toNat = j + 1 + 1) := by show _ = _; rw [cv_is hu4.c]; simp only [intOf]; omega
                    clear hR4 hob hRA hg4 hE5
                    go_wp2_with fail
                    go_roundw
                    case rel =>
                      have hrel9 : ∃ (es' : List M.Ev) (f' k' S' : Nat) (LT' : Int) (r' : List Nat), OE w4 (w.heap.size + 1 + 1) V4 es' ∧ Value.int IntKind.i64 (LT + (N : Int)) = .int .i64 LT' ∧ LT' = (M.lst M.z0 es').t ∧ Value.int IntKind.i64 (x : Int) = .int .i64 (S' : Int) ∧ es'.length + f' = 4096 ∧ Uq w.heap.size w4 k' ∧ At s k' r' ∧ Below w.heap.size w w4 ∧ Hid (U = M.pre es' (M.un f' (M.lst M.z0 es') r')) ∧ Ahd (M.lst M.z0 es') es'.length ∧ Sq S' (M.lst M.z0 es') :=
                        ⟨es ++ [⟨LT + (N : Int), (x : Int) / 16, (x : Int) % 16, (y : Int), 0⟩], f, j + 1 + 1, x, LT + (N : Int), t2, ho4, rfl, by rw [HL6.out], rfl, by simp; omega, hu4, ha3, hb4, by show U = _; rw [HL6.out]; exact HU5.out, by rw [HL6.out]; simpa using hA5, by rw [HL6.out]; exact ⟨by first | rfl | (simp only; omega), by first | rfl | (simp only; omega), by omega⟩⟩
                      first
                        | exact hrel9
                        | ((repeat apply Exists.intro); exact ⟨hrel9, rfl⟩)
                    case measure =>
                      have := hal.out
                      have := (ha3).left
                      rw [hm.out]
                      rw [hcv.out]
                      omega
                  · have hD2 : (D == 2) = true := by rw [hDv]; unfold M.dt; rw [if_neg ck, if_pos hK]; decide
                    cases t2 with
                    | nil =>
                      have hre := (hre3.out).trans (M.re4_nil ck)
                      have HRE : Hid _ := hre
                      have hnil := ha3.nil
                      have hq : ((j : Int) + 1 + 1 == (s.size : Int)) = true := by simp; omega
                      clear ck hDv hre hnil
                      go_wp2_with fail
                      refine (HDX _).mono ?_
                      rintro x9 w9 ⟨rfl, hw9⟩
                      rw [hw9]
                      clear hw9
                      go_wp2_with fail
                      refine (HDX _).mono ?_
                      rintro x9 w9 ⟨rfl, hw9⟩
                      rw [hw9]
                      clear hw9
                      go_wp2_with fail
                      refine (HDX _).mono ?_
                      rintro x9 w9 ⟨rfl, hw9⟩
                      rw [hw9]
                      clear hw9
                      go_wp2_with fail
                      refine (bad_any w.heap.size (j + 1 + 1) _ ((((HR1.out.at' (j + 1) (J := (j : Int) + 1) (by omega)).at' (j + 1 + 1) (J := (j : Int) + 1 + 1) (by omega)).alloc _)).uq).mono ?_
                      rintro x9 w9 ⟨rfl, hb9⟩
                      have u9 := ((((HR1.out.at' (j + 1) (J := (j : Int) + 1) (by omega)).at' (j + 1 + 1) (J := (j : Int) + 1 + 1) (by omega)).alloc _)).uq.keep hb9
                      have hbl9 : Below w.heap.size w w9 := ((((HR1.out.at' (j + 1) (J := (j : Int) + 1) (by omega)).at' (j + 1 + 1) (J := (j : Int) + 1 + 1) (by omega)).alloc _)).bel.trans (hb9.mono ((((HR1.out.at' (j + 1) (J := (j : Int) + 1) (by omega)).at' (j + 1 + 1) (J := (j : Int) + 1 + 1) (by omega)).alloc _)).bel.size)
                      obtain ⟨hV9, hF9⟩ := HBad.out _ _ (HRE.out) (ha3)
                      have HV9 : Hid (U = _) := hV9
                      obtain ⟨p0, p1, p2, p3, p4⟩ := u9.fb.c
                      clear hV9 hb9 u9 HBad HOk
                      go_wp2_with fail
                      refine bodyPost_ret (v := .tuple #[.slice none 0 0, .agg #[.int .i64 2, .int .i64 (j + 1 + 1 : Int)]]) (by simp [results, Try.results23, go_sem, p0, p1]) rfl ⟨⟨.slice none 0 0, ?_, ?_⟩, ?_⟩
                      · rw [HV9.out, hF9] <;> first | done | rfl | (push_cast; rfl)
                      · rw [HV9.out]; exact OE.nil _ _
                      · exact (hbl9.setCell (by simp) _).setCell (by simp) _
                    | cons v vr =>
                      obtain ⟨hkv, ev, hav, hbv⟩ := ha3.cons
                      have hq : ((j : Int) + 1 + 1 == (s.size : Int)) = false := by simp; omega
                      have hklv : (j : Int) + 1 + 1 < s.size := by omega
                      have wv9 : IntKind.i64.wrap ((j : Int) + 1 + 1 + 1) = (j : Int) + 1 + 1 + 1 := wid (by omega) (by omega)
                      by_cases hltv : v < 128
                      · have hgev : ¬ (128 : Int) ≤ (v : Int) := by omega
                        have hre := (hre3.out).trans (M.re4_low ck hltv)
                        have HRE : Hid _ := hre
                        clear ck hDv hre
                        go_wp2_with fail
                        refine (HDX _).mono ?_
                        rintro x9 w9 ⟨rfl, hw9⟩
                        rw [hw9]
                        clear hw9
                        go_wp2_with fail
                        refine (HDX _).mono ?_
                        rintro x9 w9 ⟨rfl, hw9⟩
                        rw [hw9]
                        clear hw9
                        go_wp2_with fail
                        refine (HDX _).mono ?_
                        rintro x9 w9 ⟨rfl, hw9⟩
                        rw [hw9]
                        clear hw9
                        have hRA : Rw w WR.heap.size (((WC.setCell ⟨w.heap.size + 1, 0, none⟩ (.int .i64 ((j : Int) + 1))).setCell ⟨w.heap.size + 1, 0, none⟩ (.int .i64 ((j : Int) + 1 + 1))).setCell ⟨w.heap.size + 1, 0, none⟩ (.int .i64 ((j : Int) + 1 + 1 + 1))) (j + 1 + 1 + 1) (.slice ao es.length oc) es := (((HR1.out.at' (j + 1) (J := (j : Int) + 1) (by omega)).at' (j + 1 + 1) (J := (j : Int) + 1 + 1) (by omega)).at' (j + 1 + 1 + 1) (J := (j : Int) + 1 + 1 + 1) (by omega))
                        obtain ⟨hU5, hA5, hl5⟩ := HOk.out ⟨LT + (N : Int), (x : Int) / 16, (x : Int) % 16, (y : Int), (v : Int)⟩ vr (HRE.out)
                        have HU5 : Hid (U = _) := hU5
                        have HL5 := HLs.out ⟨LT + (N : Int), (x : Int) / 16, (x : Int) % 16, (y : Int), (v : Int)⟩
                        have HL6 : Hid (M.lst M.z0 (es ++ [⟨LT + (N : Int), (x : Int) / 16, (x : Int) % 16, (y : Int), (v : Int)⟩]) = ⟨LT + (N : Int), (x : Int) / 16, (x : Int) % 16, (y : Int), (v : Int)⟩) := HL5
                        have hE5 : ∀ W : World, E5 (W.alloc (.cells #[.int .i64 (LT + (N : Int)), .int .i64 ((x : Int) / 16), .int .i64 ((x : Int) % 16), .int .i64 (y : Int), .int .i64 (v : Int)] 62)) W.heap.size 0 ⟨LT + (N : Int), (x : Int) / 16, (x : Int) % 16, (y : Int), (v : Int)⟩ := fun W => ⟨by simp [go_sem], by simp [go_sem], by simp [go_sem], by simp [go_sem], by simp [go_sem]⟩
                        have hE5 := hE5 (((((WC.setCell ⟨w.heap.size + 1, 0, none⟩ (.int .i64 ((j : Int) + 1))).setCell ⟨w.heap.size + 1, 0, none⟩ (.int .i64 ((j : Int) + 1 + 1))).setCell ⟨w.heap.size + 1, 0, none⟩ (.int .i64 ((j : Int) + 1 + 1 + 1)))).alloc (.cells #[.int .i64 (LT + (N : Int)), .int .i64 ((x : Int) / 16), .int .i64 ((x : Int) % 16), .int .i64 (y : Int), .int .i64 (v : Int)] 62))
                        simp only [World.size_alloc, World.size_setCell] at hE5
                        have hes5 : es.length ≤ 1000000 := by omega
                        clear hU5 HL5 HBad HOk HLs
                        go_wp2_with (at_builtin; refine wpList_append_ev rfl (.tmp 163) (.tmp 165) rfl (w.heap.size + 1 + 1) _ es rfl ((hRA.alloc _).alloc _).oe (WC.heap.size + 1) ⟨LT + (N : Int), (x : Int) / 16, (x : Int) % 16, (y : Int), (v : Int)⟩ rfl hE5 hes5 ?c2 ?_)
                        case c2 => have := ((hRA.alloc (.cells #[.int .i64 (LT + (N : Int)), .int .i64 ((x : Int) / 16), .int .i64 ((x : Int) % 16), .int .i64 (y : Int), .int .i64 (v : Int)] 62)).alloc (.cells #[.int .i64 (LT + (N : Int)), .int .i64 ((x : Int) / 16), .int .i64 ((x : Int) % 16), .int .i64 (y : Int), .int .i64 (v : Int)] 62)).uq.lt; omega
                        intro V4 w4 ho4 hg4
                        have hR4 := (hRA.alloc (.cells #[.int .i64 (LT + (N : Int)), .int .i64 ((x : Int) / 16), .int .i64 ((x : Int) % 16), .int .i64 (y : Int), .int .i64 (v : Int)] 62)).alloc (.cells #[.int .i64 (LT + (N : Int)), .int .i64 ((x : Int) / 16), .int .i64 ((x : Int) % 16), .int .i64 (y : Int), .int .i64 (v : Int)] 62)
                        have hob : ∀ b, (Value.slice ao es.length oc).ownBlock = some b → w.heap.size + 1 < b := fun b hb => own_block hR4.oe b hb
                        have hu4 : Uq w.heap.size w4 (j + 1 + 1 + 1) := hR4.uq.gw hg4 hob
                        have hb4 : Below w.heap.size w w4 := hR4.bel.trans (hg4.bel (by have := hR4.bel.size; omega) (fun b hb => by have := hob b hb; omega))
                        have hcv : Hid ((intOf (cv w4 (w.heap.size + 1) 0)).toNat = j + 1 + 1 + 1) := by show _ = _; rw [cv_is hu4.c]; simp only [intOf]; omega
                        clear hR4 hob hRA hg4 hE5
                        go_wp2_with fail
                        go_roundw
                        case rel =>
                          have hrel9 : ∃ (es' : List M.Ev) (f' k' S' : Nat) (LT' : Int) (r' : List Nat), OE w4 (w.heap.size + 1 + 1) V4 es' ∧ Value.int IntKind.i64 (LT + (N : Int)) = .int .i64 LT' ∧ LT' = (M.lst M.z0 es').t ∧ Value.int IntKind.i64 (x : Int) = .int .i64 (S' : Int) ∧ es'.length + f' = 4096 ∧ Uq w.heap.size w4 k' ∧ At s k' r' ∧ Below w.heap.size w w4 ∧ Hid (U = M.pre es' (M.un f' (M.lst M.z0 es') r')) ∧ Ahd (M.lst M.z0 es') es'.length ∧ Sq S' (M.lst M.z0 es') :=
                            ⟨es ++ [⟨LT + (N : Int), (x : Int) / 16, (x : Int) % 16, (y : Int), (v : Int)⟩], f, j + 1 + 1 + 1, x, LT + (N : Int), vr, ho4, rfl, by rw [HL6.out], rfl, by simp; omega, hu4, hav, hb4, by show U = _; rw [HL6.out]; exact HU5.out, by rw [HL6.out]; simpa using hA5, by rw [HL6.out]; exact ⟨by first | rfl | (simp only; omega), by first | rfl | (simp only; omega), by omega⟩⟩
                          first
                            | exact hrel9
                            | ((repeat apply Exists.intro); exact ⟨hrel9, rfl⟩)
                        case measure =>
                          have := hal.out
                          have := (hav).left
                          rw [hm.out]
                          rw [hcv.out]
                          omega
                      · have hgev : (128 : Int) ≤ (v : Int) := by omega
                        have hre := (hre3.out).trans (M.re4_high ck hltv)
                        have HRE : Hid _ := hre
                        have HA9 : Hid (At s (j + 1 + 1) (v :: vr)) := ha3
                        clear ck hDv hre
                        go_wp2_with fail
                        refine (HDX _).mono ?_
                        rintro x9 w9 ⟨rfl, hw9⟩
                        rw [hw9]
                        clear hw9
                        go_wp2_with fail
                        refine (HDX _).mono ?_
                        rintro x9 w9 ⟨rfl, hw9⟩
                        rw [hw9]
                        clear hw9
                        go_wp2_with fail
                        refine (HDX _).mono ?_
                        rintro x9 w9 ⟨rfl, hw9⟩
                        rw [hw9]
                        clear hw9
                        go_wp2_with fail
                        refine (bad_any w.heap.size (j + 1 + 1) _ ((((HR1.out.at' (j + 1) (J := (j : Int) + 1) (by omega)).at' (j + 1 + 1) (J := (j : Int) + 1 + 1) (by omega)).alloc _)).uq).mono ?_
                        rintro x9 w9 ⟨rfl, hb9⟩
                        have u9 := ((((HR1.out.at' (j + 1) (J := (j : Int) + 1) (by omega)).at' (j + 1 + 1) (J := (j : Int) + 1 + 1) (by omega)).alloc _)).uq.keep hb9
                        have hbl9 : Below w.heap.size w w9 := ((((HR1.out.at' (j + 1) (J := (j : Int) + 1) (by omega)).at' (j + 1 + 1) (J := (j : Int) + 1 + 1) (by omega)).alloc _)).bel.trans (hb9.mono ((((HR1.out.at' (j + 1) (J := (j : Int) + 1) (by omega)).at' (j + 1 + 1) (J := (j : Int) + 1 + 1) (by omega)).alloc _)).bel.size)
                        obtain ⟨hV9, hF9⟩ := HBad.out _ _ (HRE.out) (HA9.out)
                        have HV9 : Hid (U = _) := hV9
                        obtain ⟨p0, p1, p2, p3, p4⟩ := u9.fb.c
                        clear hV9 hb9 u9 HBad HOk
                        go_wp2_with fail
                        refine bodyPost_ret (v := .tuple #[.slice none 0 0, .agg #[.int .i64 2, .int .i64 (j + 1 + 1 : Int)]]) (by simp [results, Try.results23, go_sem, p0, p1]) rfl ⟨⟨.slice none 0 0, ?_, ?_⟩, ?_⟩
                        · rw [HV9.out, hF9] <;> first | done | rfl | (push_cast; rfl)
                        · rw [HV9.out]; exact OE.nil _ _
                        · exact (hbl9.setCell (by simp) _).setCell (by simp) _
                · have hyge : (128 : Int) ≤ (y : Int) := by omega
                  have HRE : Hid (M.re ⟨LT, (S : Int) / 16, (S : Int) % 16, aa, ab⟩ r = (false, M.z0, y :: t2)) := by show _ = _; rw [hre2.out, M.re3_high hylt]
                  have HA9 : Hid (At s (j + 1) (y :: t2)) := ha2
                  clear hre2 hDv hK ha2
                  go_wp2_with fail
                  refine (HDX _).mono ?_
                  rintro x9 w9 ⟨rfl, hw9⟩
                  rw [hw9]
                  clear hw9
                  go_wp2_with fail
                  refine (HDX _).mono ?_
                  rintro x9 w9 ⟨rfl, hw9⟩
                  rw [hw9]
                  clear hw9
                  go_wp2_with fail
                  refine (bad_any w.heap.size (j + 1) _ (((HR1.out.at' (j + 1) (J := (j : Int) + 1) (by omega)).alloc _)).uq).mono ?_
                  rintro x9 w9 ⟨rfl, hb9⟩
                  have u9 := (((HR1.out.at' (j + 1) (J := (j : Int) + 1) (by omega)).alloc _)).uq.keep hb9
                  have hbl9 : Below w.heap.size w w9 := (((HR1.out.at' (j + 1) (J := (j : Int) + 1) (by omega)).alloc _)).bel.trans (hb9.mono (((HR1.out.at' (j + 1) (J := (j : Int) + 1) (by omega)).alloc _)).bel.size)
                  obtain ⟨hV9, hF9⟩ := HBad.out _ _ (HRE.out) (HA9.out)
                  have HV9 : Hid (U = _) := hV9
                  obtain ⟨p0, p1, p2, p3, p4⟩ := u9.fb.c
                  clear hV9 hb9 u9 HBad HOk
                  go_wp2_with fail
                  refine bodyPost_ret (v := .tuple #[.slice none 0 0, .agg #[.int .i64 2, .int .i64 (j + 1 : Int)]]) (by simp [results, Try.results23, go_sem, p0, p1]) rfl ⟨⟨.slice none 0 0, ?_, ?_⟩, ?_⟩
                  · rw [HV9.out, hF9] <;> first | done | rfl | (push_cast; rfl)
                  · rw [HV9.out]; exact OE.nil _ _
                  · exact (hbl9.setCell (by simp) _).setCell (by simp) _
end Go.Proofs.Ythfjbjcdhgajfag.Z
