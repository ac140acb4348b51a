/- What the document's Named comes to where a name is looked for. -/
import Derived.Test.YtmccbokjigjpnaaDoorQN7
namespace Go.Proofs.YtmccbokjigjpnaaDoor
open Go.RowKit
set_option linter.unusedVariables false
set_option linter.unusedSimpArgs false

set_option maxRecDepth 20000 in
set_option maxHeartbeats 8000000 in
theorem refNamed_main0 (s : ByteArray) (F E : Nat) (w : World) (hs : s.size ≤ 140737488355328) (hl : M.Lets s F E) (hn : M.isN (s.extract E s.size) = true) (S : Int) (hN : M.valN (s.extract E s.size) = S + 1) (hF : F = 0) (s1 : 0 ≤ S) (s2 : S ≤ 200) (hEF : E ≠ F) (h6 : E - F ≤ 6) (Q : Ending → Prop)
    (HY : Hid (∀ x, M.NmQ S (M.wh S + x) s 0 → Q (.returned (.tuple #[.agg #[.int .i64 S, .int .i64 (M.wh S + x)], .int .i64 0]))))
    (HX : Hid ((∀ x, -7 ≤ x → x < 7 → ¬ M.NmQ S (M.wh S + x) s 0) → Q (.returned (.tuple #[.agg #[.int .i64 0, .int .i64 0], .int .i64 2])))) :
    Calls Tryd.prog 24 #[.string s] w fun e w' => Q e ∧ Below w.heap.size w w' := by
  have hst : ∀ X, Calls Tryd.prog 47 #[.string s, .int .i64 0, .string ⟨#[45]⟩] X fun e w' => e = .returned (.bool (M.sts s 0 ⟨#[45]⟩)) ∧ w' = X := fun X => starts_any s ⟨#[45]⟩ 0 X hs (by decide) (by omega)
  rw [hl.sg] at hst
  have hNum := fun X => Number_any (s.extract E s.size) X (by rw [ByteArray.size_extract]; omega)
  rw [hn, hN] at hNum
  replace hNum : ∀ X, Calls Tryd.prog 48 #[.string (s.extract E s.size)] X fun e w' => e = .returned (.tuple #[.int .i64 (S + 1), .bool true]) ∧ w' = X := hNum
  have HL : Hid (M.Lets s F E) := hl
  have b1 := hl.f1
  have b2 := hl.fe
  have b3 := hl.es
  have k0 : (0 : Int) ≤ (E : Nat) := by omega
  have k1 : ((E : Nat) : Int) ≤ s.size := by omega
  clear hl hn hN
  have HEF : Hid (E ≠ F) := hEF
  have h6' : (E : Int) ≤ 6 + F := by omega
  have hWh := fun w => White_any S w (by omega) (by omega)
  have hwb := M.wh_bd S
  clear hEF h6
  have I0 : (w.alloc (Obj.cells #[.int .i64 0, .int .i64 0] 25)).cell? ⟨w.heap.size, 0, none⟩ = some (.int .i64 0) := by simp [go_sem]
  obtain rfl : F = 0 := hF
  all_goals
    go_enter Tryd.func24, Tryd.ntmps24
    go_wp2_with (go_at_call 47; refine (hst _).mono ?_; rintro e w' ⟨rfl, hw⟩; rw [hw])
    go_loopw [4] (fun i wr => ∃ k : Nat, i = .int .i64 k ∧ k ≤ E ∧ Hid (∀ j, k ≤ j → j < E → M.isq (M.by s j)) ∧ wr = w.alloc (Obj.cells #[.int .i64 0, .int .i64 0] 25)) (fun i _ => E - (intOf i).toNat)
    case atStart => exact ⟨_, by first | rfl | go_num, by omega, fun j h1 h2 => HL.out.q j (by omega) h2, rfl⟩
    case round =>
      obtain ⟨k, rfl, hk2, hq, rfl⟩ := hrel
      by_cases hlt : k < E
      · have hks : k < s.size := by omega
        have hbk := M.by_is s k hks
        have hkI : (k : Int) < (s.size : Int) := by omega
        have hq2 : Hid (∀ j, k + 1 ≤ j → j < E → M.isq (M.by s j)) := fun j h1 h2 => hq.out j (by omega) h2
        rcases hq.out k (Nat.le_refl _) hlt with q | q | q | q | q
        all_goals
          rw [q] at hbk
          clear q hq
          go_wp2_with fail
          go_roundw
          case rel => exact ⟨k + 1, by go_num, by omega, hq2, by first | rfl | trivial | simp⟩
          case measure => simp [intOf]; omega
      · obtain rfl : k = E := by omega
        by_cases hE : k < s.size
        · have hbk := M.by_is s k hE
          have hkI : (k : Int) < (s.size : Int) := by omega
          have hne := HL.out.e hE
          have c1 : ((M.by s k : Int) == 80) = false := by simpa using fun h => hne (.inl (by omega))
          have c2 : ((M.by s k : Int) == 77) = false := by simpa using fun h => hne (.inr (.inl (by omega)))
          have c3 : ((M.by s k : Int) == 109) = false := by simpa using fun h => hne (.inr (.inr (.inl (by omega))))
          have c4 : ((M.by s k : Int) == 65) = false := by simpa using fun h => hne (.inr (.inr (.inr (.inl (by omega)))))
          have c5 : ((M.by s k : Int) == 100) = false := by simpa using fun h => hne (.inr (.inr (.inr (.inr (by omega)))))
          clear hne hq HL
          generalize M.by s k = B at *
          go_wp2_with (go_at_call 48; refine (hNum _).mono ?_; rintro e w' ⟨rfl, hw⟩; rw [hw])
          all_goals first
            | (exfalso; have hh := HEF.out; simp_all; done)
            | (exfalso; have hh := HEF.out; simp at *; omega)
            | skip
          go_loopw [8] (fun m wr => ∃ m0 : Int, m = .int .i64 m0 ∧ -7 ≤ m0 ∧ m0 ≤ 7 ∧ Hid (∀ x, -7 ≤ x → x < m0 → ¬ M.NmQ S (M.wh S + x) s 0) ∧ Below (w.heap.size + 1) (w.alloc (Obj.cells #[.int .i64 0, .int .i64 0] 25)) wr) (fun m _ => (7 - intOf m).toNat)
          case atStart => exact ⟨-7, rfl, by omega, by omega, fun x a b => by omega, Below.refl _ _⟩
          case round =>
            obtain ⟨m0, rfl, m1, m2, hno, hbr⟩ := hrel
            have zr := hbr.size
            simp at zr
            have h0r : Below w.heap.size w wr := Below.trans (by go_grown) (hbr.mono (by omega))
            have p0 : wr.cell? ⟨w.heap.size, 0, none⟩ = some (.int .i64 0) := keepC hbr (by omega) (by simp [go_sem])
            have p1 : wr.cell? ⟨w.heap.size, 1, none⟩ = some (.int .i64 0) := keepC hbr (by omega) (by simp [go_sem])
            have f0 : wr.frozen? ⟨w.heap.size, 0, none⟩ = false := keepF hbr (by omega) (by simp [go_sem])
            have f1 : wr.frozen? ⟨w.heap.size, 1, none⟩ = false := keepF hbr (by omega) (by simp [go_sem])
            have tr : w.heap.size < wr.heap.size := by omega
            by_cases hm : m0 ≤ 6
            · obtain ⟨T, Er, hnm⟩ := M.nm_some S (M.wh S + m0)
              have HM := fun w => refName_any S (M.wh S + m0) T Er w (by omega) (by omega) (by omega) (by omega) hnm
              obtain ⟨Hv, hHv⟩ : ∃ Hv, (M.wh S + m0) = Hv := ⟨_, rfl⟩
              have hno2 : (T ≠ s ∨ Er = 3) → Hid (∀ x, -7 ≤ x → x < m0 + 1 → ¬ M.NmQ S (M.wh S + x) s 0) := fun hc x a b hx => by
                by_cases e : x = m0
                · subst e
                  have := hx.one hnm
                  rcases hc with hc | hc
                  · exact hc this.1.symm
                  · omega
                · exact hno.out x a (by omega) hx
              rcases hnm.err with rfl | rfl
              · by_cases hT : T = s
                · have hQ : Hid (Q (.returned (.tuple #[.agg #[.int .i64 S, .int .i64 Hv], .int .i64 0]))) := by rw [← hHv]; exact HY.out m0 (by rw [← hT]; exact hnm)
                  subst hT
                  clear hno hno2 hnm HY HX
                  rw [hHv] at HM
                  generalize M.wh S = Wh at *
                  go_wp2_with (go_at_call 41; refine (hWh _).mono ?_; rintro e w' ⟨rfl, hw⟩; rw [hw])
                  refine (HM _).mono ?_
                  rintro e w5 ⟨rfl, hb5⟩
                  have z5 := hb5.size
                  simp at z5
                  have k5 : Below wr.heap.size wr w5 := Below.trans (by go_grown) (hb5.mono (by simp))
                  have kb : Below (w.heap.size + 1) (w.alloc (Obj.cells #[.int .i64 0, .int .i64 0] 25)) w5 := hbr.trans (k5.mono (by omega))
                  replace p0 := keepC k5 (by omega) p0
                  replace p1 := keepC k5 (by omega) p1
                  replace f0 := keepF k5 (by omega) f0
                  replace f1 := keepF k5 (by omega) f1
                  have r0 : w5.cell? ⟨wr.heap.size, 0, none⟩ = some (.int .i64 S) := keepC hb5 (by simp) (by simp [go_sem])
                  have r1 : w5.cell? ⟨wr.heap.size, 1, none⟩ = some (.int .i64 Hv) := keepC hb5 (by simp) (by simp [go_sem])
                  have t5 : wr.heap.size < w5.heap.size := by omega
                  have t6 : w.heap.size < w5.heap.size := by omega
                  clear hb5
                  go_wp2_with fail
                  have hb05 := h0r.trans (k5.mono h0r.size)
                  refine bodyPost_ret (v := .tuple #[.agg #[.int .i64 S, .int .i64 Hv], .int .i64 0]) (by simp [results, Tryd.results24, go_sem, p0, p1]) rfl ⟨hQ.out, ?_⟩
                  exact (hb05.setCell (by simp) _).setCell (by simp) _
                · have c1 : (T.toList == s.toList) = false := beq_false_of_ne (fun e => hT (by rw [ByteArray.toList_eq, ByteArray.toList_eq] at e; cases T; cases s; simp_all))
                  replace hno2 := hno2 (.inl hT)
                  clear hno hnm HY hT
                  rw [hHv] at HM
                  generalize M.wh S = Wh at *
                  go_wp2_with (go_at_call 41; refine (hWh _).mono ?_; rintro e w' ⟨rfl, hw⟩; rw [hw])
                  refine (HM _).mono ?_
                  rintro e w5 ⟨rfl, hb5⟩
                  have z5 := hb5.size
                  simp at z5
                  have k5 : Below wr.heap.size wr w5 := Below.trans (by go_grown) (hb5.mono (by simp))
                  have kb : Below (w.heap.size + 1) (w.alloc (Obj.cells #[.int .i64 0, .int .i64 0] 25)) w5 := hbr.trans (k5.mono (by omega))
                  replace p0 := keepC k5 (by omega) p0
                  replace p1 := keepC k5 (by omega) p1
                  replace f0 := keepF k5 (by omega) f0
                  replace f1 := keepF k5 (by omega) f1
                  have r0 : w5.cell? ⟨wr.heap.size, 0, none⟩ = some (.int .i64 S) := keepC hb5 (by simp) (by simp [go_sem])
                  have r1 : w5.cell? ⟨wr.heap.size, 1, none⟩ = some (.int .i64 Hv) := keepC hb5 (by simp) (by simp [go_sem])
                  have t5 : wr.heap.size < w5.heap.size := by omega
                  have t6 : w.heap.size < w5.heap.size := by omega
                  clear hb5
                  go_wp2_with fail
                  go_roundw
                  case rel => exact ⟨m0 + 1, by first | rfl | go_num, by omega, by omega, hno2, kb⟩
                  case measure => simp [intOf]; omega
              · replace hno2 := hno2 (.inr rfl)
                clear hno hnm HY
                rw [hHv] at HM
                generalize M.wh S = Wh at *
                go_wp2_with (go_at_call 41; refine (hWh _).mono ?_; rintro e w' ⟨rfl, hw⟩; rw [hw])
                refine (HM _).mono ?_
                rintro e w5 ⟨rfl, hb5⟩
                have z5 := hb5.size
                simp at z5
                have k5 : Below wr.heap.size wr w5 := Below.trans (by go_grown) (hb5.mono (by simp))
                have kb : Below (w.heap.size + 1) (w.alloc (Obj.cells #[.int .i64 0, .int .i64 0] 25)) w5 := hbr.trans (k5.mono (by omega))
                replace p0 := keepC k5 (by omega) p0
                replace p1 := keepC k5 (by omega) p1
                replace f0 := keepF k5 (by omega) f0
                replace f1 := keepF k5 (by omega) f1
                have r0 : w5.cell? ⟨wr.heap.size, 0, none⟩ = some (.int .i64 S) := keepC hb5 (by simp) (by simp [go_sem])
                have r1 : w5.cell? ⟨wr.heap.size, 1, none⟩ = some (.int .i64 Hv) := keepC hb5 (by simp) (by simp [go_sem])
                have t5 : wr.heap.size < w5.heap.size := by omega
                have t6 : w.heap.size < w5.heap.size := by omega
                clear hb5
                go_wp2_with fail
                go_roundw
                case rel => exact ⟨m0 + 1, by first | rfl | go_num, by omega, by omega, hno2, kb⟩
                case measure => simp [intOf]; omega
            · obtain rfl : m0 = 7 := by omega
              have hQ : Hid (Q (.returned (.tuple #[.agg #[.int .i64 0, .int .i64 0], .int .i64 2]))) := HX.out (fun x a b => hno.out x a b)
              clear hno HY HX
              go_wp2_with fail
              refine bodyPost_ret (v := .tuple #[.agg #[.int .i64 0, .int .i64 0], .int .i64 2]) (by simp [results, Tryd.results24, go_sem, p0, p1]) rfl ⟨hQ.out, ?_⟩
              exact (h0r.setCell (by simp) _).setCell (by simp) _
        · have hkI : ¬ (k : Int) < (s.size : Int) := by omega
          clear hq HL
          go_wp2_with (go_at_call 48; refine (hNum _).mono ?_; rintro e w' ⟨rfl, hw⟩; rw [hw])
          all_goals first
            | (exfalso; have hh := HEF.out; simp_all; done)
            | (exfalso; have hh := HEF.out; simp at *; omega)
            | skip
          go_loopw [8] (fun m wr => ∃ m0 : Int, m = .int .i64 m0 ∧ -7 ≤ m0 ∧ m0 ≤ 7 ∧ Hid (∀ x, -7 ≤ x → x < m0 → ¬ M.NmQ S (M.wh S + x) s 0) ∧ Below (w.heap.size + 1) (w.alloc (Obj.cells #[.int .i64 0, .int .i64 0] 25)) wr) (fun m _ => (7 - intOf m).toNat)
          case atStart => exact ⟨-7, rfl, by omega, by omega, fun x a b => by omega, Below.refl _ _⟩
          case round =>
            obtain ⟨m0, rfl, m1, m2, hno, hbr⟩ := hrel
            have zr := hbr.size
            simp at zr
            have h0r : Below w.heap.size w wr := Below.trans (by go_grown) (hbr.mono (by omega))
            have p0 : wr.cell? ⟨w.heap.size, 0, none⟩ = some (.int .i64 0) := keepC hbr (by omega) (by simp [go_sem])
            have p1 : wr.cell? ⟨w.heap.size, 1, none⟩ = some (.int .i64 0) := keepC hbr (by omega) (by simp [go_sem])
            have f0 : wr.frozen? ⟨w.heap.size, 0, none⟩ = false := keepF hbr (by omega) (by simp [go_sem])
            have f1 : wr.frozen? ⟨w.heap.size, 1, none⟩ = false := keepF hbr (by omega) (by simp [go_sem])
            have tr : w.heap.size < wr.heap.size := by omega
            by_cases hm : m0 ≤ 6
            · obtain ⟨T, Er, hnm⟩ := M.nm_some S (M.wh S + m0)
              have HM := fun w => refName_any S (M.wh S + m0) T Er w (by omega) (by omega) (by omega) (by omega) hnm
              obtain ⟨Hv, hHv⟩ : ∃ Hv, (M.wh S + m0) = Hv := ⟨_, rfl⟩
              have hno2 : (T ≠ s ∨ Er = 3) → Hid (∀ x, -7 ≤ x → x < m0 + 1 → ¬ M.NmQ S (M.wh S + x) s 0) := fun hc x a b hx => by
                by_cases e : x = m0
                · subst e
                  have := hx.one hnm
                  rcases hc with hc | hc
                  · exact hc this.1.symm
                  · omega
                · exact hno.out x a (by omega) hx
              rcases hnm.err with rfl | rfl
              · by_cases hT : T = s
                · have hQ : Hid (Q (.returned (.tuple #[.agg #[.int .i64 S, .int .i64 Hv], .int .i64 0]))) := by rw [← hHv]; exact HY.out m0 (by rw [← hT]; exact hnm)
                  subst hT
                  clear hno hno2 hnm HY HX
                  rw [hHv] at HM
                  generalize M.wh S = Wh at *
                  go_wp2_with (go_at_call 41; refine (hWh _).mono ?_; rintro e w' ⟨rfl, hw⟩; rw [hw])
                  refine (HM _).mono ?_
                  rintro e w5 ⟨rfl, hb5⟩
                  have z5 := hb5.size
                  simp at z5
                  have k5 : Below wr.heap.size wr w5 := Below.trans (by go_grown) (hb5.mono (by simp))
                  have kb : Below (w.heap.size + 1) (w.alloc (Obj.cells #[.int .i64 0, .int .i64 0] 25)) w5 := hbr.trans (k5.mono (by omega))
                  replace p0 := keepC k5 (by omega) p0
                  replace p1 := keepC k5 (by omega) p1
                  replace f0 := keepF k5 (by omega) f0
                  replace f1 := keepF k5 (by omega) f1
                  have r0 : w5.cell? ⟨wr.heap.size, 0, none⟩ = some (.int .i64 S) := keepC hb5 (by simp) (by simp [go_sem])
                  have r1 : w5.cell? ⟨wr.heap.size, 1, none⟩ = some (.int .i64 Hv) := keepC hb5 (by simp) (by simp [go_sem])
                  have t5 : wr.heap.size < w5.heap.size := by omega
                  have t6 : w.heap.size < w5.heap.size := by omega
                  clear hb5
                  go_wp2_with fail
                  have hb05 := h0r.trans (k5.mono h0r.size)
                  refine bodyPost_ret (v := .tuple #[.agg #[.int .i64 S, .int .i64 Hv], .int .i64 0]) (by simp [results, Tryd.results24, go_sem, p0, p1]) rfl ⟨hQ.out, ?_⟩
                  exact (hb05.setCell (by simp) _).setCell (by simp) _
                · have c1 : (T.toList == s.toList) = false := beq_false_of_ne (fun e => hT (by rw [ByteArray.toList_eq, ByteArray.toList_eq] at e; cases T; cases s; simp_all))
                  replace hno2 := hno2 (.inl hT)
                  clear hno hnm HY hT
                  rw [hHv] at HM
                  generalize M.wh S = Wh at *
                  go_wp2_with (go_at_call 41; refine (hWh _).mono ?_; rintro e w' ⟨rfl, hw⟩; rw [hw])
                  refine (HM _).mono ?_
                  rintro e w5 ⟨rfl, hb5⟩
                  have z5 := hb5.size
                  simp at z5
                  have k5 : Below wr.heap.size wr w5 := Below.trans (by go_grown) (hb5.mono (by simp))
                  have kb : Below (w.heap.size + 1) (w.alloc (Obj.cells #[.int .i64 0, .int .i64 0] 25)) w5 := hbr.trans (k5.mono (by omega))
                  replace p0 := keepC k5 (by omega) p0
                  replace p1 := keepC k5 (by omega) p1
                  replace f0 := keepF k5 (by omega) f0
                  replace f1 := keepF k5 (by omega) f1
                  have r0 : w5.cell? ⟨wr.heap.size, 0, none⟩ = some (.int .i64 S) := keepC hb5 (by simp) (by simp [go_sem])
                  have r1 : w5.cell? ⟨wr.heap.size, 1, none⟩ = some (.int .i64 Hv) := keepC hb5 (by simp) (by simp [go_sem])
                  have t5 : wr.heap.size < w5.heap.size := by omega
                  have t6 : w.heap.size < w5.heap.size := by omega
                  clear hb5
                  go_wp2_with fail
                  go_roundw
                  case rel => exact ⟨m0 + 1, by first | rfl | go_num, by omega, by omega, hno2, kb⟩
                  case measure => simp [intOf]; omega
              · replace hno2 := hno2 (.inr rfl)
                clear hno hnm HY
                rw [hHv] at HM
                generalize M.wh S = Wh at *
                go_wp2_with (go_at_call 41; refine (hWh _).mono ?_; rintro e w' ⟨rfl, hw⟩; rw [hw])
                refine (HM _).mono ?_
                rintro e w5 ⟨rfl, hb5⟩
                have z5 := hb5.size
                simp at z5
                have k5 : Below wr.heap.size wr w5 := Below.trans (by go_grown) (hb5.mono (by simp))
                have kb : Below (w.heap.size + 1) (w.alloc (Obj.cells #[.int .i64 0, .int .i64 0] 25)) w5 := hbr.trans (k5.mono (by omega))
                replace p0 := keepC k5 (by omega) p0
                replace p1 := keepC k5 (by omega) p1
                replace f0 := keepF k5 (by omega) f0
                replace f1 := keepF k5 (by omega) f1
                have r0 : w5.cell? ⟨wr.heap.size, 0, none⟩ = some (.int .i64 S) := keepC hb5 (by simp) (by simp [go_sem])
                have r1 : w5.cell? ⟨wr.heap.size, 1, none⟩ = some (.int .i64 Hv) := keepC hb5 (by simp) (by simp [go_sem])
                have t5 : wr.heap.size < w5.heap.size := by omega
                have t6 : w.heap.size < w5.heap.size := by omega
                clear hb5
                go_wp2_with fail
                go_roundw
                case rel => exact ⟨m0 + 1, by first | rfl | go_num, by omega, by omega, hno2, kb⟩
                case measure => simp [intOf]; omega
            · obtain rfl : m0 = 7 := by omega
              have hQ : Hid (Q (.returned (.tuple #[.agg #[.int .i64 0, .int .i64 0], .int .i64 2]))) := HX.out (fun x a b => hno.out x a b)
              clear hno HY HX
              go_wp2_with fail
              refine bodyPost_ret (v := .tuple #[.agg #[.int .i64 0, .int .i64 0], .int .i64 2]) (by simp [results, Tryd.results24, go_sem, p0, p1]) rfl ⟨hQ.out, ?_⟩
              exact (h0r.setCell (by simp) _).setCell (by simp) _
end Go.Proofs.YtmccbokjigjpnaaDoor
/- What the document's Named comes to where a name is looked for. -/
namespace Go.Proofs.YtmccbokjigjpnaaDoor
open Go.RowKit
set_option linter.unusedVariables false
set_option linter.unusedSimpArgs false

set_option maxRecDepth 20000 in
set_option maxHeartbeats 8000000 in
theorem refNamed_main1 (s : ByteArray) (F E : Nat) (w : World) (hs : s.size ≤ 140737488355328) (hl : M.Lets s F E) (hn : M.isN (s.extract E s.size) = true) (S : Int) (hN : M.valN (s.extract E s.size) = S + 1) (hF : F = 1) (s1 : 0 ≤ S) (s2 : S ≤ 200) (hEF : E ≠ F) (h6 : E - F ≤ 6) (Q : Ending → Prop)
    (HY : Hid (∀ x, M.NmQ (-S) (-(M.wh S + x)) s 0 → Q (.returned (.tuple #[.agg #[.int .i64 (-S), .int .i64 (-(M.wh S + x))], .int .i64 0]))))
    (HX : Hid ((∀ x, -7 ≤ x → x < 7 → ¬ M.NmQ (-S) (-(M.wh S + x)) s 0) → Q (.returned (.tuple #[.agg #[.int .i64 0, .int .i64 0], .int .i64 2])))) :
    Calls Tryd.prog 24 #[.string s] w fun e w' => Q e ∧ Below w.heap.size w w' := by
  have hst : ∀ X, Calls Tryd.prog 47 #[.string s, .int .i64 0, .string ⟨#[45]⟩] X fun e w' => e = .returned (.bool (M.sts s 0 ⟨#[45]⟩)) ∧ w' = X := fun X => starts_any s ⟨#[45]⟩ 0 X hs (by decide) (by omega)
  rw [hl.sg] at hst
  have hNum := fun X => Number_any (s.extract E s.size) X (by rw [ByteArray.size_extract]; omega)
  rw [hn, hN] at hNum
  replace hNum : ∀ X, Calls Tryd.prog 48 #[.string (s.extract E s.size)] X fun e w' => e = .returned (.tuple #[.int .i64 (S + 1), .bool true]) ∧ w' = X := hNum
  have HL : Hid (M.Lets s F E) := hl
  have b1 := hl.f1
  have b2 := hl.fe
  have b3 := hl.es
  have k0 : (0 : Int) ≤ (E : Nat) := by omega
  have k1 : ((E : Nat) : Int) ≤ s.size := by omega
  clear hl hn hN
  have HEF : Hid (E ≠ F) := hEF
  have h6' : (E : Int) ≤ 6 + F := by omega
  have hWh := fun w => White_any S w (by omega) (by omega)
  have hwb := M.wh_bd S
  clear hEF h6
  have I0 : (w.alloc (Obj.cells #[.int .i64 0, .int .i64 0] 25)).cell? ⟨w.heap.size, 0, none⟩ = some (.int .i64 0) := by simp [go_sem]
  obtain rfl : F = 1 := hF
  all_goals
    go_enter Tryd.func24, Tryd.ntmps24
    go_wp2_with (go_at_call 47; refine (hst _).mono ?_; rintro e w' ⟨rfl, hw⟩; rw [hw])
    go_loopw [4] (fun i wr => ∃ k : Nat, i = .int .i64 k ∧ k ≤ E ∧ Hid (∀ j, k ≤ j → j < E → M.isq (M.by s j)) ∧ wr = w.alloc (Obj.cells #[.int .i64 0, .int .i64 0] 25)) (fun i _ => E - (intOf i).toNat)
    case atStart => exact ⟨_, by first | rfl | go_num, by omega, fun j h1 h2 => HL.out.q j (by omega) h2, rfl⟩
    case round =>
      obtain ⟨k, rfl, hk2, hq, rfl⟩ := hrel
      by_cases hlt : k < E
      · have hks : k < s.size := by omega
        have hbk := M.by_is s k hks
        have hkI : (k : Int) < (s.size : Int) := by omega
        have hq2 : Hid (∀ j, k + 1 ≤ j → j < E → M.isq (M.by s j)) := fun j h1 h2 => hq.out j (by omega) h2
        rcases hq.out k (Nat.le_refl _) hlt with q | q | q | q | q
        all_goals
          rw [q] at hbk
          clear q hq
          go_wp2_with fail
          go_roundw
          case rel => exact ⟨k + 1, by go_num, by omega, hq2, by first | rfl | trivial | simp⟩
          case measure => simp [intOf]; omega
      · obtain rfl : k = E := by omega
        by_cases hE : k < s.size
        · have hbk := M.by_is s k hE
          have hkI : (k : Int) < (s.size : Int) := by omega
          have hne := HL.out.e hE
          have c1 : ((M.by s k : Int) == 80) = false := by simpa using fun h => hne (.inl (by omega))
          have c2 : ((M.by s k : Int) == 77) = false := by simpa using fun h => hne (.inr (.inl (by omega)))
          have c3 : ((M.by s k : Int) == 109) = false := by simpa using fun h => hne (.inr (.inr (.inl (by omega))))
          have c4 : ((M.by s k : Int) == 65) = false := by simpa using fun h => hne (.inr (.inr (.inr (.inl (by omega)))))
          have c5 : ((M.by s k : Int) == 100) = false := by simpa using fun h => hne (.inr (.inr (.inr (.inr (by omega)))))
          clear hne hq HL
          generalize M.by s k = B at *
          go_wp2_with (go_at_call 48; refine (hNum _).mono ?_; rintro e w' ⟨rfl, hw⟩; rw [hw])
          all_goals first
            | (exfalso; have hh := HEF.out; simp_all; done)
            | (exfalso; have hh := HEF.out; simp at *; omega)
            | skip
          go_loopw [8] (fun m wr => ∃ m0 : Int, m = .int .i64 m0 ∧ -7 ≤ m0 ∧ m0 ≤ 7 ∧ Hid (∀ x, -7 ≤ x → x < m0 → ¬ M.NmQ (-S) (-(M.wh S + x)) s 0) ∧ Below (w.heap.size + 1) (w.alloc (Obj.cells #[.int .i64 0, .int .i64 0] 25)) wr) (fun m _ => (7 - intOf m).toNat)
          case atStart => exact ⟨-7, rfl, by omega, by omega, fun x a b => by omega, Below.refl _ _⟩
          case round =>
            obtain ⟨m0, rfl, m1, m2, hno, hbr⟩ := hrel
            have zr := hbr.size
            simp at zr
            have h0r : Below w.heap.size w wr := Below.trans (by go_grown) (hbr.mono (by omega))
            have p0 : wr.cell? ⟨w.heap.size, 0, none⟩ = some (.int .i64 0) := keepC hbr (by omega) (by simp [go_sem])
            have p1 : wr.cell? ⟨w.heap.size, 1, none⟩ = some (.int .i64 0) := keepC hbr (by omega) (by simp [go_sem])
            have f0 : wr.frozen? ⟨w.heap.size, 0, none⟩ = false := keepF hbr (by omega) (by simp [go_sem])
            have f1 : wr.frozen? ⟨w.heap.size, 1, none⟩ = false := keepF hbr (by omega) (by simp [go_sem])
            have tr : w.heap.size < wr.heap.size := by omega
            by_cases hm : m0 ≤ 6
            · obtain ⟨T, Er, hnm⟩ := M.nm_some (-S) (-(M.wh S + m0))
              have HM := fun w => refName_any (-S) (-(M.wh S + m0)) T Er w (by omega) (by omega) (by omega) (by omega) hnm
              obtain ⟨Hv, hHv⟩ : ∃ Hv, (-(M.wh S + m0)) = Hv := ⟨_, rfl⟩
              have hno2 : (T ≠ s ∨ Er = 3) → Hid (∀ x, -7 ≤ x → x < m0 + 1 → ¬ M.NmQ (-S) (-(M.wh S + x)) s 0) := fun hc x a b hx => by
                by_cases e : x = m0
                · subst e
                  have := hx.one hnm
                  rcases hc with hc | hc
                  · exact hc this.1.symm
                  · omega
                · exact hno.out x a (by omega) hx
              rcases hnm.err with rfl | rfl
              · by_cases hT : T = s
                · have hQ : Hid (Q (.returned (.tuple #[.agg #[.int .i64 (-S), .int .i64 Hv], .int .i64 0]))) := by rw [← hHv]; exact HY.out m0 (by rw [← hT]; exact hnm)
                  subst hT
                  clear hno hno2 hnm HY HX
                  rw [hHv] at HM
                  generalize M.wh S = Wh at *
                  go_wp2_with (go_at_call 41; refine (hWh _).mono ?_; rintro e w' ⟨rfl, hw⟩; rw [hw])
                  refine (HM _).mono ?_
                  rintro e w5 ⟨rfl, hb5⟩
                  have z5 := hb5.size
                  simp at z5
                  have k5 : Below wr.heap.size wr w5 := Below.trans (by go_grown) (hb5.mono (by simp))
                  have kb : Below (w.heap.size + 1) (w.alloc (Obj.cells #[.int .i64 0, .int .i64 0] 25)) w5 := hbr.trans (k5.mono (by omega))
                  replace p0 := keepC k5 (by omega) p0
                  replace p1 := keepC k5 (by omega) p1
                  replace f0 := keepF k5 (by omega) f0
                  replace f1 := keepF k5 (by omega) f1
                  have r0 : w5.cell? ⟨wr.heap.size, 0, none⟩ = some (.int .i64 (-S)) := keepC hb5 (by simp) (by simp [go_sem])
                  have r1 : w5.cell? ⟨wr.heap.size, 1, none⟩ = some (.int .i64 Hv) := keepC hb5 (by simp) (by simp [go_sem])
                  have t5 : wr.heap.size < w5.heap.size := by omega
                  have t6 : w.heap.size < w5.heap.size := by omega
                  clear hb5
                  go_wp2_with fail
                  have hb05 := h0r.trans (k5.mono h0r.size)
                  refine bodyPost_ret (v := .tuple #[.agg #[.int .i64 (-S), .int .i64 Hv], .int .i64 0]) (by simp [results, Tryd.results24, go_sem, p0, p1]) rfl ⟨hQ.out, ?_⟩
                  exact (hb05.setCell (by simp) _).setCell (by simp) _
                · have c1 : (T.toList == s.toList) = false := beq_false_of_ne (fun e => hT (by rw [ByteArray.toList_eq, ByteArray.toList_eq] at e; cases T; cases s; simp_all))
                  replace hno2 := hno2 (.inl hT)
                  clear hno hnm HY hT
                  rw [hHv] at HM
                  generalize M.wh S = Wh at *
                  go_wp2_with (go_at_call 41; refine (hWh _).mono ?_; rintro e w' ⟨rfl, hw⟩; rw [hw])
                  refine (HM _).mono ?_
                  rintro e w5 ⟨rfl, hb5⟩
                  have z5 := hb5.size
                  simp at z5
                  have k5 : Below wr.heap.size wr w5 := Below.trans (by go_grown) (hb5.mono (by simp))
                  have kb : Below (w.heap.size + 1) (w.alloc (Obj.cells #[.int .i64 0, .int .i64 0] 25)) w5 := hbr.trans (k5.mono (by omega))
                  replace p0 := keepC k5 (by omega) p0
                  replace p1 := keepC k5 (by omega) p1
                  replace f0 := keepF k5 (by omega) f0
                  replace f1 := keepF k5 (by omega) f1
                  have r0 : w5.cell? ⟨wr.heap.size, 0, none⟩ = some (.int .i64 (-S)) := keepC hb5 (by simp) (by simp [go_sem])
                  have r1 : w5.cell? ⟨wr.heap.size, 1, none⟩ = some (.int .i64 Hv) := keepC hb5 (by simp) (by simp [go_sem])
                  have t5 : wr.heap.size < w5.heap.size := by omega
                  have t6 : w.heap.size < w5.heap.size := by omega
                  clear hb5
                  go_wp2_with fail
                  go_roundw
                  case rel => exact ⟨m0 + 1, by first | rfl | go_num, by omega, by omega, hno2, kb⟩
                  case measure => simp [intOf]; omega
              · replace hno2 := hno2 (.inr rfl)
                clear hno hnm HY
                rw [hHv] at HM
                generalize M.wh S = Wh at *
                go_wp2_with (go_at_call 41; refine (hWh _).mono ?_; rintro e w' ⟨rfl, hw⟩; rw [hw])
                refine (HM _).mono ?_
                rintro e w5 ⟨rfl, hb5⟩
                have z5 := hb5.size
                simp at z5
                have k5 : Below wr.heap.size wr w5 := Below.trans (by go_grown) (hb5.mono (by simp))
                have kb : Below (w.heap.size + 1) (w.alloc (Obj.cells #[.int .i64 0, .int .i64 0] 25)) w5 := hbr.trans (k5.mono (by omega))
                replace p0 := keepC k5 (by omega) p0
                replace p1 := keepC k5 (by omega) p1
                replace f0 := keepF k5 (by omega) f0
                replace f1 := keepF k5 (by omega) f1
                have r0 : w5.cell? ⟨wr.heap.size, 0, none⟩ = some (.int .i64 (-S)) := keepC hb5 (by simp) (by simp [go_sem])
                have r1 : w5.cell? ⟨wr.heap.size, 1, none⟩ = some (.int .i64 Hv) := keepC hb5 (by simp) (by simp [go_sem])
                have t5 : wr.heap.size < w5.heap.size := by omega
                have t6 : w.heap.size < w5.heap.size := by omega
                clear hb5
                go_wp2_with fail
                go_roundw
                case rel => exact ⟨m0 + 1, by first | rfl | go_num, by omega, by omega, hno2, kb⟩
                case measure => simp [intOf]; omega
            · obtain rfl : m0 = 7 := by omega
              have hQ : Hid (Q (.returned (.tuple #[.agg #[.int .i64 0, .int .i64 0], .int .i64 2]))) := HX.out (fun x a b => hno.out x a b)
              clear hno HY HX
              go_wp2_with fail
              refine bodyPost_ret (v := .tuple #[.agg #[.int .i64 0, .int .i64 0], .int .i64 2]) (by simp [results, Tryd.results24, go_sem, p0, p1]) rfl ⟨hQ.out, ?_⟩
              exact (h0r.setCell (by simp) _).setCell (by simp) _
        · have hkI : ¬ (k : Int) < (s.size : Int) := by omega
          clear hq HL
          go_wp2_with (go_at_call 48; refine (hNum _).mono ?_; rintro e w' ⟨rfl, hw⟩; rw [hw])
          all_goals first
            | (exfalso; have hh := HEF.out; simp_all; done)
            | (exfalso; have hh := HEF.out; simp at *; omega)
            | skip
          go_loopw [8] (fun m wr => ∃ m0 : Int, m = .int .i64 m0 ∧ -7 ≤ m0 ∧ m0 ≤ 7 ∧ Hid (∀ x, -7 ≤ x → x < m0 → ¬ M.NmQ (-S) (-(M.wh S + x)) s 0) ∧ Below (w.heap.size + 1) (w.alloc (Obj.cells #[.int .i64 0, .int .i64 0] 25)) wr) (fun m _ => (7 - intOf m).toNat)
          case atStart => exact ⟨-7, rfl, by omega, by omega, fun x a b => by omega, Below.refl _ _⟩
          case round =>
            obtain ⟨m0, rfl, m1, m2, hno, hbr⟩ := hrel
            have zr := hbr.size
            simp at zr
            have h0r : Below w.heap.size w wr := Below.trans (by go_grown) (hbr.mono (by omega))
            have p0 : wr.cell? ⟨w.heap.size, 0, none⟩ = some (.int .i64 0) := keepC hbr (by omega) (by simp [go_sem])
            have p1 : wr.cell? ⟨w.heap.size, 1, none⟩ = some (.int .i64 0) := keepC hbr (by omega) (by simp [go_sem])
            have f0 : wr.frozen? ⟨w.heap.size, 0, none⟩ = false := keepF hbr (by omega) (by simp [go_sem])
            have f1 : wr.frozen? ⟨w.heap.size, 1, none⟩ = false := keepF hbr (by omega) (by simp [go_sem])
            have tr : w.heap.size < wr.heap.size := by omega
            by_cases hm : m0 ≤ 6
            · obtain ⟨T, Er, hnm⟩ := M.nm_some (-S) (-(M.wh S + m0))
              have HM := fun w => refName_any (-S) (-(M.wh S + m0)) T Er w (by omega) (by omega) (by omega) (by omega) hnm
              obtain ⟨Hv, hHv⟩ : ∃ Hv, (-(M.wh S + m0)) = Hv := ⟨_, rfl⟩
              have hno2 : (T ≠ s ∨ Er = 3) → Hid (∀ x, -7 ≤ x → x < m0 + 1 → ¬ M.NmQ (-S) (-(M.wh S + x)) s 0) := fun hc x a b hx => by
                by_cases e : x = m0
                · subst e
                  have := hx.one hnm
                  rcases hc with hc | hc
                  · exact hc this.1.symm
                  · omega
                · exact hno.out x a (by omega) hx
              rcases hnm.err with rfl | rfl
              · by_cases hT : T = s
                · have hQ : Hid (Q (.returned (.tuple #[.agg #[.int .i64 (-S), .int .i64 Hv], .int .i64 0]))) := by rw [← hHv]; exact HY.out m0 (by rw [← hT]; exact hnm)
                  subst hT
                  clear hno hno2 hnm HY HX
                  rw [hHv] at HM
                  generalize M.wh S = Wh at *
                  go_wp2_with (go_at_call 41; refine (hWh _).mono ?_; rintro e w' ⟨rfl, hw⟩; rw [hw])
                  refine (HM _).mono ?_
                  rintro e w5 ⟨rfl, hb5⟩
                  have z5 := hb5.size
                  simp at z5
                  have k5 : Below wr.heap.size wr w5 := Below.trans (by go_grown) (hb5.mono (by simp))
                  have kb : Below (w.heap.size + 1) (w.alloc (Obj.cells #[.int .i64 0, .int .i64 0] 25)) w5 := hbr.trans (k5.mono (by omega))
                  replace p0 := keepC k5 (by omega) p0
                  replace p1 := keepC k5 (by omega) p1
                  replace f0 := keepF k5 (by omega) f0
                  replace f1 := keepF k5 (by omega) f1
                  have r0 : w5.cell? ⟨wr.heap.size, 0, none⟩ = some (.int .i64 (-S)) := keepC hb5 (by simp) (by simp [go_sem])
                  have r1 : w5.cell? ⟨wr.heap.size, 1, none⟩ = some (.int .i64 Hv) := keepC hb5 (by simp) (by simp [go_sem])
                  have t5 : wr.heap.size < w5.heap.size := by omega
                  have t6 : w.heap.size < w5.heap.size := by omega
                  clear hb5
                  go_wp2_with fail
                  have hb05 := h0r.trans (k5.mono h0r.size)
                  refine bodyPost_ret (v := .tuple #[.agg #[.int .i64 (-S), .int .i64 Hv], .int .i64 0]) (by simp [results, Tryd.results24, go_sem, p0, p1]) rfl ⟨hQ.out, ?_⟩
                  exact (hb05.setCell (by simp) _).setCell (by simp) _
                · have c1 : (T.toList == s.toList) = false := beq_false_of_ne (fun e => hT (by rw [ByteArray.toList_eq, ByteArray.toList_eq] at e; cases T; cases s; simp_all))
                  replace hno2 := hno2 (.inl hT)
                  clear hno hnm HY hT
                  rw [hHv] at HM
                  generalize M.wh S = Wh at *
                  go_wp2_with (go_at_call 41; refine (hWh _).mono ?_; rintro e w' ⟨rfl, hw⟩; rw [hw])
                  refine (HM _).mono ?_
                  rintro e w5 ⟨rfl, hb5⟩
                  have z5 := hb5.size
                  simp at z5
                  have k5 : Below wr.heap.size wr w5 := Below.trans (by go_grown) (hb5.mono (by simp))
                  have kb : Below (w.heap.size + 1) (w.alloc (Obj.cells #[.int .i64 0, .int .i64 0] 25)) w5 := hbr.trans (k5.mono (by omega))
                  replace p0 := keepC k5 (by omega) p0
                  replace p1 := keepC k5 (by omega) p1
                  replace f0 := keepF k5 (by omega) f0
                  replace f1 := keepF k5 (by omega) f1
                  have r0 : w5.cell? ⟨wr.heap.size, 0, none⟩ = some (.int .i64 (-S)) := keepC hb5 (by simp) (by simp [go_sem])
                  have r1 : w5.cell? ⟨wr.heap.size, 1, none⟩ = some (.int .i64 Hv) := keepC hb5 (by simp) (by simp [go_sem])
                  have t5 : wr.heap.size < w5.heap.size := by omega
                  have t6 : w.heap.size < w5.heap.size := by omega
                  clear hb5
                  go_wp2_with fail
                  go_roundw
                  case rel => exact ⟨m0 + 1, by first | rfl | go_num, by omega, by omega, hno2, kb⟩
                  case measure => simp [intOf]; omega
              · replace hno2 := hno2 (.inr rfl)
                clear hno hnm HY
                rw [hHv] at HM
                generalize M.wh S = Wh at *
                go_wp2_with (go_at_call 41; refine (hWh _).mono ?_; rintro e w' ⟨rfl, hw⟩; rw [hw])
                refine (HM _).mono ?_
                rintro e w5 ⟨rfl, hb5⟩
                have z5 := hb5.size
                simp at z5
                have k5 : Below wr.heap.size wr w5 := Below.trans (by go_grown) (hb5.mono (by simp))
                have kb : Below (w.heap.size + 1) (w.alloc (Obj.cells #[.int .i64 0, .int .i64 0] 25)) w5 := hbr.trans (k5.mono (by omega))
                replace p0 := keepC k5 (by omega) p0
                replace p1 := keepC k5 (by omega) p1
                replace f0 := keepF k5 (by omega) f0
                replace f1 := keepF k5 (by omega) f1
                have r0 : w5.cell? ⟨wr.heap.size, 0, none⟩ = some (.int .i64 (-S)) := keepC hb5 (by simp) (by simp [go_sem])
                have r1 : w5.cell? ⟨wr.heap.size, 1, none⟩ = some (.int .i64 Hv) := keepC hb5 (by simp) (by simp [go_sem])
                have t5 : wr.heap.size < w5.heap.size := by omega
                have t6 : w.heap.size < w5.heap.size := by omega
                clear hb5
                go_wp2_with fail
                go_roundw
                case rel => exact ⟨m0 + 1, by first | rfl | go_num, by omega, by omega, hno2, kb⟩
                case measure => simp [intOf]; omega
            · obtain rfl : m0 = 7 := by omega
              have hQ : Hid (Q (.returned (.tuple #[.agg #[.int .i64 0, .int .i64 0], .int .i64 2]))) := HX.out (fun x a b => hno.out x a b)
              clear hno HY HX
              go_wp2_with fail
              refine bodyPost_ret (v := .tuple #[.agg #[.int .i64 0, .int .i64 0], .int .i64 2]) (by simp [results, Tryd.results24, go_sem, p0, p1]) rfl ⟨hQ.out, ?_⟩
              exact (h0r.setCell (by simp) _).setCell (by simp) _
end Go.Proofs.YtmccbokjigjpnaaDoor
