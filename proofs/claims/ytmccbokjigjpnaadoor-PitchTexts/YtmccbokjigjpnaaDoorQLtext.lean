/- What the document's Named comes to: too many letters; and all ways in one word. -/
import Derived.Test.YtmccbokjigjpnaaDoorQN89
import Derived.Test.YtmccbokjigjpnaaDoorQD15
import Derived.Test.YtmccbokjigjpnaaDoorQD9v
import Derived.Test.YtmccbokjigjpnaaDoorQT3c
namespace Go.Proofs.YtmccbokjigjpnaaDoor
open Go.RowKit
set_option linter.unusedVariables false
set_option linter.unusedSimpArgs false

set_option maxRecDepth 20000 in
set_option maxHeartbeats 8000000 in
theorem refNamed_long0 (s : ByteArray) (F E : Nat) (w : World) (hs : s.size ≤ 140737488355328) (hl : M.Lets s F E) (hn : M.isN (s.extract E s.size) = true) (S : Int) (hN : M.valN (s.extract E s.size) = S + 1) (hF : F = 0) (s1 : 0 ≤ S) (s2 : S ≤ 200) (hlong : 6 < E - F) :
    Calls Tryd.prog 24 #[.string s] w fun e w' => e = .returned (.tuple #[.agg #[.int .i64 0, .int .i64 0], .int .i64 3]) ∧ Below w.heap.size w w' := by
  have hst : ∀ X, Calls Tryd.prog 47 #[.string s, .int .i64 0, .string ⟨#[45]⟩] X fun e w' => e = .returned (.bool (M.sts s 0 ⟨#[45]⟩)) ∧ w' = X := fun X => starts_any s ⟨#[45]⟩ 0 X hs (by decide) (by omega)
  rw [hl.sg] at hst
  have hNum := fun X => Number_any (s.extract E s.size) X (by rw [ByteArray.size_extract]; omega)
  rw [hn, hN] at hNum
  replace hNum : ∀ X, Calls Tryd.prog 48 #[.string (s.extract E s.size)] X fun e w' => e = .returned (.tuple #[.int .i64 (S + 1), .bool true]) ∧ w' = X := hNum
  have HL : Hid (M.Lets s F E) := hl
  have b1 := hl.f1
  have b2 := hl.fe
  have b3 := hl.es
  have k0 : (0 : Int) ≤ (E : Nat) := by omega
  have k1 : ((E : Nat) : Int) ≤ s.size := by omega
  clear hl hn hN
  have HEF : Hid (E ≠ F) := by show E ≠ F; omega
  have h7 : (6 : Int) < (E : Int) := by omega
  have h8 : ¬ (201 : Int) < S + 1 := by omega
  clear hlong
  have I0 : (w.alloc (Obj.cells #[.int .i64 0, .int .i64 0] 25)).cell? ⟨w.heap.size, 0, none⟩ = some (.int .i64 0) := by simp [go_sem]
  obtain rfl : F = 0 := hF
  all_goals
    go_enter Tryd.func24, Tryd.ntmps24
    go_wp2_with (go_at_call 47; refine (hst _).mono ?_; rintro e w' ⟨rfl, hw⟩; rw [hw])
    go_loopw [4] (fun i wr => ∃ k : Nat, i = .int .i64 k ∧ k ≤ E ∧ Hid (∀ j, k ≤ j → j < E → M.isq (M.by s j)) ∧ wr = w.alloc (Obj.cells #[.int .i64 0, .int .i64 0] 25)) (fun i _ => E - (intOf i).toNat)
    case atStart => exact ⟨_, by first | rfl | go_num, by omega, fun j h1 h2 => HL.out.q j (by omega) h2, rfl⟩
    case round =>
      obtain ⟨k, rfl, hk2, hq, rfl⟩ := hrel
      by_cases hlt : k < E
      · have hks : k < s.size := by omega
        have hbk := M.by_is s k hks
        have hkI : (k : Int) < (s.size : Int) := by omega
        have hq2 : Hid (∀ j, k + 1 ≤ j → j < E → M.isq (M.by s j)) := fun j h1 h2 => hq.out j (by omega) h2
        rcases hq.out k (Nat.le_refl _) hlt with q | q | q | q | q
        all_goals
          rw [q] at hbk
          clear q hq
          go_wp2_with fail
          go_roundw
          case rel => exact ⟨k + 1, by go_num, by omega, hq2, by first | rfl | trivial | simp⟩
          case measure => simp [intOf]; omega
      · obtain rfl : k = E := by omega
        by_cases hE : k < s.size
        · have hbk := M.by_is s k hE
          have hkI : (k : Int) < (s.size : Int) := by omega
          have hne := HL.out.e hE
          have c1 : ((M.by s k : Int) == 80) = false := by simpa using fun h => hne (.inl (by omega))
          have c2 : ((M.by s k : Int) == 77) = false := by simpa using fun h => hne (.inr (.inl (by omega)))
          have c3 : ((M.by s k : Int) == 109) = false := by simpa using fun h => hne (.inr (.inr (.inl (by omega))))
          have c4 : ((M.by s k : Int) == 65) = false := by simpa using fun h => hne (.inr (.inr (.inr (.inl (by omega)))))
          have c5 : ((M.by s k : Int) == 100) = false := by simpa using fun h => hne (.inr (.inr (.inr (.inr (by omega)))))
          clear hne hq HL
          generalize M.by s k = B at *
          go_wp2_with (go_at_call 48; refine (hNum _).mono ?_; rintro e w' ⟨rfl, hw⟩; rw [hw])
          all_goals first
            | (exfalso; have hh := HEF.out; simp_all; done)
            | (exfalso; have hh := HEF.out; simp at *; omega)
            | (refine bodyPost_ret (v := .tuple #[.agg #[.int .i64 0, .int .i64 0], .int .i64 3]) (by simp [results, Tryd.results24, go_sem]) rfl ⟨rfl, ?_⟩; go_grown)
        · have hkI : ¬ (k : Int) < (s.size : Int) := by omega
          clear hq HL
          go_wp2_with (go_at_call 48; refine (hNum _).mono ?_; rintro e w' ⟨rfl, hw⟩; rw [hw])
          all_goals first
            | (exfalso; have hh := HEF.out; simp_all; done)
            | (exfalso; have hh := HEF.out; simp at *; omega)
            | (refine bodyPost_ret (v := .tuple #[.agg #[.int .i64 0, .int .i64 0], .int .i64 3]) (by simp [results, Tryd.results24, go_sem]) rfl ⟨rfl, ?_⟩; go_grown)
set_option maxRecDepth 20000 in
set_option maxHeartbeats 8000000 in
theorem refNamed_long1 (s : ByteArray) (F E : Nat) (w : World) (hs : s.size ≤ 140737488355328) (hl : M.Lets s F E) (hn : M.isN (s.extract E s.size) = true) (S : Int) (hN : M.valN (s.extract E s.size) = S + 1) (hF : F = 1) (s1 : 0 ≤ S) (s2 : S ≤ 200) (hlong : 6 < E - F) :
    Calls Tryd.prog 24 #[.string s] w fun e w' => e = .returned (.tuple #[.agg #[.int .i64 0, .int .i64 0], .int .i64 3]) ∧ Below w.heap.size w w' := by
  have hst : ∀ X, Calls Tryd.prog 47 #[.string s, .int .i64 0, .string ⟨#[45]⟩] X fun e w' => e = .returned (.bool (M.sts s 0 ⟨#[45]⟩)) ∧ w' = X := fun X => starts_any s ⟨#[45]⟩ 0 X hs (by decide) (by omega)
  rw [hl.sg] at hst
  have hNum := fun X => Number_any (s.extract E s.size) X (by rw [ByteArray.size_extract]; omega)
  rw [hn, hN] at hNum
  replace hNum : ∀ X, Calls Tryd.prog 48 #[.string (s.extract E s.size)] X fun e w' => e = .returned (.tuple #[.int .i64 (S + 1), .bool true]) ∧ w' = X := hNum
  have HL : Hid (M.Lets s F E) := hl
  have b1 := hl.f1
  have b2 := hl.fe
  have b3 := hl.es
  have k0 : (0 : Int) ≤ (E : Nat) := by omega
  have k1 : ((E : Nat) : Int) ≤ s.size := by omega
  clear hl hn hN
  have HEF : Hid (E ≠ F) := by show E ≠ F; omega
  have h7 : (6 : Int) < (E : Int) - 1 := by omega
  have h8 : ¬ (201 : Int) < S + 1 := by omega
  clear hlong
  have I0 : (w.alloc (Obj.cells #[.int .i64 0, .int .i64 0] 25)).cell? ⟨w.heap.size, 0, none⟩ = some (.int .i64 0) := by simp [go_sem]
  obtain rfl : F = 1 := hF
  all_goals
    go_enter Tryd.func24, Tryd.ntmps24
    go_wp2_with (go_at_call 47; refine (hst _).mono ?_; rintro e w' ⟨rfl, hw⟩; rw [hw])
    go_loopw [4] (fun i wr => ∃ k : Nat, i = .int .i64 k ∧ k ≤ E ∧ Hid (∀ j, k ≤ j → j < E → M.isq (M.by s j)) ∧ wr = w.alloc (Obj.cells #[.int .i64 0, .int .i64 0] 25)) (fun i _ => E - (intOf i).toNat)
    case atStart => exact ⟨_, by first | rfl | go_num, by omega, fun j h1 h2 => HL.out.q j (by omega) h2, rfl⟩
    case round =>
      obtain ⟨k, rfl, hk2, hq, rfl⟩ := hrel
      by_cases hlt : k < E
      · have hks : k < s.size := by omega
        have hbk := M.by_is s k hks
        have hkI : (k : Int) < (s.size : Int) := by omega
        have hq2 : Hid (∀ j, k + 1 ≤ j → j < E → M.isq (M.by s j)) := fun j h1 h2 => hq.out j (by omega) h2
        rcases hq.out k (Nat.le_refl _) hlt with q | q | q | q | q
        all_goals
          rw [q] at hbk
          clear q hq
          go_wp2_with fail
          go_roundw
          case rel => exact ⟨k + 1, by go_num, by omega, hq2, by first | rfl | trivial | simp⟩
          case measure => simp [intOf]; omega
      · obtain rfl : k = E := by omega
        by_cases hE : k < s.size
        · have hbk := M.by_is s k hE
          have hkI : (k : Int) < (s.size : Int) := by omega
          have hne := HL.out.e hE
          have c1 : ((M.by s k : Int) == 80) = false := by simpa using fun h => hne (.inl (by omega))
          have c2 : ((M.by s k : Int) == 77) = false := by simpa using fun h => hne (.inr (.inl (by omega)))
          have c3 : ((M.by s k : Int) == 109) = false := by simpa using fun h => hne (.inr (.inr (.inl (by omega))))
          have c4 : ((M.by s k : Int) == 65) = false := by simpa using fun h => hne (.inr (.inr (.inr (.inl (by omega)))))
          have c5 : ((M.by s k : Int) == 100) = false := by simpa using fun h => hne (.inr (.inr (.inr (.inr (by omega)))))
          clear hne hq HL
          generalize M.by s k = B at *
          go_wp2_with (go_at_call 48; refine (hNum _).mono ?_; rintro e w' ⟨rfl, hw⟩; rw [hw])
          all_goals first
            | (exfalso; have hh := HEF.out; simp_all; done)
            | (exfalso; have hh := HEF.out; simp at *; omega)
            | (refine bodyPost_ret (v := .tuple #[.agg #[.int .i64 0, .int .i64 0], .int .i64 3]) (by simp [results, Tryd.results24, go_sem]) rfl ⟨rfl, ?_⟩; go_grown)
        · have hkI : ¬ (k : Int) < (s.size : Int) := by omega
          clear hq HL
          go_wp2_with (go_at_call 48; refine (hNum _).mono ?_; rintro e w' ⟨rfl, hw⟩; rw [hw])
          all_goals first
            | (exfalso; have hh := HEF.out; simp_all; done)
            | (exfalso; have hh := HEF.out; simp at *; omega)
            | (refine bodyPost_ret (v := .tuple #[.agg #[.int .i64 0, .int .i64 0], .int .i64 3]) (by simp [results, Tryd.results24, go_sem]) rfl ⟨rfl, ?_⟩; go_grown)

theorem refNamed_any (s : ByteArray) (F E : Nat) (w : World) (hs : s.size ≤ 140737488355328) (hl : M.Lets s F E) :
    Calls Tryd.prog 24 #[.string s] w fun e w' => NamedR s F E e ∧ Below w.heap.size w w' := by
  have f1 := hl.f1
  have f2 := hl.fe
  by_cases k : M.isN (s.extract E s.size) = true
  case neg =>
    have k' : M.isN (s.extract E s.size) = false := by simpa using k
    exact (refNamed_form s F E w hs hl k').mono fun e w' h => ⟨.inl ⟨.inr (.inl k'), h.1⟩, h.2⟩
  by_cases c1 : M.valN (s.extract E s.size) < 1
  · exact (refNamed_low s F E w hs hl k _ rfl c1).mono fun e w' h => ⟨.inl ⟨.inr (.inr c1), h.1⟩, h.2⟩
  by_cases c2 : E = F
  · exact (refNamed_none s F E w hs hl k _ rfl (by omega) c2).mono fun e w' h => ⟨.inl ⟨.inl c2, h.1⟩, h.2⟩
  have n1 : ¬ (E = F ∨ M.isN (s.extract E s.size) = false ∨ M.valN (s.extract E s.size) < 1) := by
    rintro (h | h | h)
    · exact c2 h
    · rw [k] at h; cases h
    · exact c1 h
  by_cases c3 : 201 < M.valN (s.extract E s.size)
  · exact (refNamed_high s F E w hs hl k _ rfl c3 c2).mono fun e w' h => ⟨.inr (.inl ⟨n1, .inl c3, h.1⟩), h.2⟩
  obtain ⟨S, hS⟩ : ∃ S, M.valN (s.extract E s.size) = S + 1 := ⟨M.valN (s.extract E s.size) - 1, by omega⟩
  have hS2 : M.valN (s.extract E s.size) - 1 = S := by omega
  by_cases c4 : 6 < E - F
  · rcases (show F = 0 ∨ F = 1 by omega) with hF | hF
    · exact (refNamed_long0 s F E w hs hl k S hS hF (by omega) (by omega) c4).mono fun e w' h => ⟨.inr (.inl ⟨n1, .inr c4, h.1⟩), h.2⟩
    · exact (refNamed_long1 s F E w hs hl k S hS hF (by omega) (by omega) c4).mono fun e w' h => ⟨.inr (.inl ⟨n1, .inr c4, h.1⟩), h.2⟩
  have n2 : ¬ (201 < M.valN (s.extract E s.size) ∨ 6 < E - F) := by omega
  have bd := fun h hn => M.named_one (S := S) (h := h) hl (by omega) (by omega) hn
  rcases (show F = 0 ∨ F = 1 by omega) with hF | hF
  · have e1 : ∀ x, M.sg' F x = x := fun x => by unfold M.sg'; rw [if_neg (by omega)]
    simp only [e1] at bd
    refine refNamed_main0 s F E w hs hl k S hS hF (by omega) (by omega) c2 (by omega) (NamedR s F E) ?_ ?_
    · intro x hx
      refine .inr (.inr ⟨n1, n2, .inl ⟨M.wh S + x, ?_, ?_⟩⟩)
      · rw [hS2, e1, e1]; exact hx
      · rw [hS2, e1, e1]
    · intro hx
      refine .inr (.inr ⟨n1, n2, .inr ⟨fun h hn => ?_, rfl⟩⟩)
      rw [hS2, e1, e1] at hn
      obtain ⟨b1, b2, _⟩ := bd h hn
      exact hx (h - M.wh S) b1 (by omega) (by rw [show M.wh S + (h - M.wh S) = h by omega]; exact hn)
  · have e1 : ∀ x, M.sg' F x = -x := fun x => by unfold M.sg'; rw [if_pos hF]
    simp only [e1] at bd
    refine refNamed_main1 s F E w hs hl k S hS hF (by omega) (by omega) c2 (by omega) (NamedR s F E) ?_ ?_
    · intro x hx
      refine .inr (.inr ⟨n1, n2, .inl ⟨M.wh S + x, ?_, ?_⟩⟩)
      · rw [hS2, e1, e1]; exact hx
      · rw [hS2, e1, e1]
    · intro hx
      refine .inr (.inr ⟨n1, n2, .inr ⟨fun h hn => ?_, rfl⟩⟩)
      rw [hS2, e1, e1] at hn
      obtain ⟨b1, b2, _⟩ := bd h hn
      exact hx (h - M.wh S) b1 (by omega) (by rw [show M.wh S + (h - M.wh S) = h by omega]; exact hn)
end Go.Proofs.YtmccbokjigjpnaaDoor
/- The law PitchTexts: its walk. -/
namespace Go.Proofs.YtmccbokjigjpnaaDoor
open Go.RowKit
set_option linter.unusedVariables false
set_option linter.unusedSimpArgs false

theorem prints (l a o : Int) (a1 : -9223372036854775808 ≤ a) (a2 : a ≤ 9223372036854775807) : ∃ (T : ByteArray) (E : Int),
    (∀ w, Sgs w → Pows w → Calls Tryd.prog 17 #[.agg #[.int .i64 l, .int .i64 a, .int .i64 o]] w fun e w' => e = .returned (.tuple #[.string T, .int .i64 E]) ∧ Below w.heap.size w w') ∧
    (∀ w, Calls Tryd.prog 18 #[.agg #[.int .i64 l, .int .i64 a, .int .i64 o]] w fun e w' => e = .returned (.tuple #[.string T, .int .i64 E]) ∧ Below w.heap.size w w') := by
  cases hr : M.rt l a o
  · exact ⟨_, _, fun w _ _ => Print_no l a o w hr, fun w => refPrint_no l a o w a1 a2 hr⟩
  · exact ⟨_, _, fun w h1 h2 => Print_yes l a o w h1 h2 hr, fun w => refPrint_yes l a o w hr⟩

set_option maxRecDepth 20000 in
set_option maxHeartbeats 4000000 in
theorem texts_walk (l a o i1 i2 : Int) (s : ByteArray) (w : World) (ht : Tab w) (hpw : Pows w) (hsg : Sgs w) (a1 : -9223372036854775808 ≤ a) (a2 : a ≤ 9223372036854775807) (b1 : -9223372036854775808 ≤ i1) (b2 : i1 ≤ 9223372036854775807) (b3 : -9223372036854775808 ≤ i2) (b4 : i2 ≤ 9223372036854775807) (hs : s.size ≤ 140737488355328) :
    Calls Tryd.prog 4 #[.agg #[.int .i64 l, .int .i64 a, .int .i64 o], .agg #[.int .i64 i1, .int .i64 i2], .string s] w fun e w' => e = .returned (.bool true) ∧ Below w.heap.size w w' := by
  obtain ⟨T1, E1, HP, HP'⟩ := prints l a o a1 a2
  obtain ⟨T2, E2, hnm⟩ := M.nm_some i1 i2
  have HN := fun w ht hpw => Name_any i1 i2 T2 E2 w ht hpw hnm
  have HN' := fun w => refName_any i1 i2 T2 E2 w b1 b2 b3 b4 hnm
  have HR := fun w => Read_any s w hs
  have HR' := fun w => refRead_any s w hs
  obtain ⟨F, E, hl⟩ := M.lets_some s
  have HD := fun w ht hpw => Named_any s F E w hs hl ht hpw
  have HD' := fun w => refNamed_any s F E w hs hl
  have HO : Hid (∀ e e', NamedR s F E e → NamedR s F E e' → e = e') := fun e e' x y => NamedR.one hl x y
  have HF : Hid (∀ e, NamedR s F E e → ∃ x y z : Int, e = .returned (.tuple #[.agg #[.int .i64 x, .int .i64 y], .int .i64 z])) := fun e x => x.form
  obtain ⟨Q, hQ⟩ : ∃ Q, NamedR s F E = Q := ⟨_, rfl⟩
  simp only [hQ] at HD HD' HO HF
  unfold RdQ at HR HR'
  generalize M.rd s = R at *
  obtain ⟨R1, R2, R3, R4, R5⟩ := R
  simp only at HR HR'
  clear hQ hnm hl
  go_enter Tryd.func4, Tryd.ntmps4
  go_wp2_with fail
  refine (HP _ (hsg.step (Below.trans (Below.refl _ _) (Below.mono (by go_grown) (Nat.le_refl _)))) (hpw.step (Below.trans (Below.refl _ _) (Below.mono (by go_grown) (Nat.le_refl _))))).mono ?_
  rintro e w1 ⟨rfl, hb⟩
  have z1 := hb.size
  try simp at z1
  have q1 : Below w.heap.size w w1 := by first | exact hb | exact Below.trans (by go_grown) (hb.mono (by first | (simp; done) | (simp; omega)))
  have k1 : Below w.heap.size w w1 := q1
  have cw_0 : w1.cell? ⟨w.heap.size, 0, none⟩ = some (.int .i64 l) := keepC hb (by first | (simp; done) | (simp; omega) | omega) (by simp [go_sem])
  have cw_1 : w1.cell? ⟨w.heap.size, 1, none⟩ = some (.int .i64 a) := keepC hb (by first | (simp; done) | (simp; omega) | omega) (by simp [go_sem])
  have cw_2 : w1.cell? ⟨w.heap.size, 2, none⟩ = some (.int .i64 o) := keepC hb (by first | (simp; done) | (simp; omega) | omega) (by simp [go_sem])
  have s1_0 : w.heap.size < w1.heap.size := by omega
  have cwp1_0 : w1.cell? ⟨w.heap.size + 1, 0, none⟩ = some (.int .i64 i1) := keepC hb (by first | (simp; done) | (simp; omega) | omega) (by simp [go_sem])
  have cwp1_1 : w1.cell? ⟨w.heap.size + 1, 1, none⟩ = some (.int .i64 i2) := keepC hb (by first | (simp; done) | (simp; omega) | omega) (by simp [go_sem])
  have s1_1 : w.heap.size + 1 < w1.heap.size := by omega
  clear hb
  go_wp2_with fail
  refine (HP' _).mono ?_
  rintro e w2 ⟨rfl, hb⟩
  have z2 := hb.size
  try simp at z2
  have q2 : Below w1.heap.size w1 w2 := by first | exact hb | exact Below.trans (by go_grown) (hb.mono (by first | (simp; done) | (simp; omega)))
  have k2 : Below w.heap.size w w2 := k1.trans (q2.mono k1.size)
  replace cw_0 := keepC q2 (by omega) cw_0
  replace cw_1 := keepC q2 (by omega) cw_1
  replace cw_2 := keepC q2 (by omega) cw_2
  have s2_0 : w.heap.size < w2.heap.size := by omega
  replace cwp1_0 := keepC q2 (by omega) cwp1_0
  replace cwp1_1 := keepC q2 (by omega) cwp1_1
  have s2_1 : w.heap.size + 1 < w2.heap.size := by omega
  clear hb
  clear s1_0
  clear s1_1
  go_wp2_with fail
  refine (HN _ (ht.step (Below.trans k2 (Below.mono (by go_grown) k2.size))) (hpw.step (Below.trans k2 (Below.mono (by go_grown) k2.size)))).mono ?_
  rintro e w3 ⟨rfl, hb⟩
  have z3 := hb.size
  try simp at z3
  have q3 : Below w2.heap.size w2 w3 := by first | exact hb | exact Below.trans (by go_grown) (hb.mono (by first | (simp; done) | (simp; omega)))
  have k3 : Below w.heap.size w w3 := k2.trans (q3.mono k2.size)
  replace cw_0 := keepC q3 (by omega) cw_0
  replace cw_1 := keepC q3 (by omega) cw_1
  replace cw_2 := keepC q3 (by omega) cw_2
  have s3_0 : w.heap.size < w3.heap.size := by omega
  replace cwp1_0 := keepC q3 (by omega) cwp1_0
  replace cwp1_1 := keepC q3 (by omega) cwp1_1
  have s3_1 : w.heap.size + 1 < w3.heap.size := by omega
  clear hb
  clear s2_0
  clear s2_1
  go_wp2_with fail
  refine (HN' _).mono ?_
  rintro e w4 ⟨rfl, hb⟩
  have z4 := hb.size
  try simp at z4
  have q4 : Below w3.heap.size w3 w4 := by first | exact hb | exact Below.trans (by go_grown) (hb.mono (by first | (simp; done) | (simp; omega)))
  have k4 : Below w.heap.size w w4 := k3.trans (q4.mono k3.size)
  replace cw_0 := keepC q4 (by omega) cw_0
  replace cw_1 := keepC q4 (by omega) cw_1
  replace cw_2 := keepC q4 (by omega) cw_2
  have s4_0 : w.heap.size < w4.heap.size := by omega
  replace cwp1_0 := keepC q4 (by omega) cwp1_0
  replace cwp1_1 := keepC q4 (by omega) cwp1_1
  have s4_1 : w.heap.size + 1 < w4.heap.size := by omega
  clear hb
  clear s3_0
  clear s3_1
  go_wp2_with fail
  refine (HR _).mono ?_
  rintro e w5 ⟨rfl, hb⟩
  have z5 := hb.size
  try simp at z5
  have q5 : Below w4.heap.size w4 w5 := by first | exact hb | exact Below.trans (by go_grown) (hb.mono (by first | (simp; done) | (simp; omega)))
  have k5 : Below w.heap.size w w5 := k4.trans (q5.mono k4.size)
  replace cw_0 := keepC q5 (by omega) cw_0
  replace cw_1 := keepC q5 (by omega) cw_1
  replace cw_2 := keepC q5 (by omega) cw_2
  have s5_0 : w.heap.size < w5.heap.size := by omega
  replace cwp1_0 := keepC q5 (by omega) cwp1_0
  replace cwp1_1 := keepC q5 (by omega) cwp1_1
  have s5_1 : w.heap.size + 1 < w5.heap.size := by omega
  clear hb
  clear s4_0
  clear s4_1
  go_wp2_with fail
  refine (HR' _).mono ?_
  rintro e w6 ⟨rfl, hb⟩
  have z6 := hb.size
  try simp at z6
  have q6 : Below w5.heap.size w5 w6 := by first | exact hb | exact Below.trans (by go_grown) (hb.mono (by first | (simp; done) | (simp; omega)))
  have k6 : Below w.heap.size w w6 := k5.trans (q6.mono k5.size)
  replace cw_0 := keepC q6 (by omega) cw_0
  replace cw_1 := keepC q6 (by omega) cw_1
  replace cw_2 := keepC q6 (by omega) cw_2
  have s6_0 : w.heap.size < w6.heap.size := by omega
  replace cwp1_0 := keepC q6 (by omega) cwp1_0
  replace cwp1_1 := keepC q6 (by omega) cwp1_1
  have s6_1 : w.heap.size + 1 < w6.heap.size := by omega
  have cw5_0 : w6.cell? ⟨w5.heap.size, 0, none⟩ = some (.int .i64 R1) := keepC hb (by first | (simp; done) | (simp; omega) | omega) (by simp [go_sem])
  have cw5_1 : w6.cell? ⟨w5.heap.size, 1, none⟩ = some (.int .i64 R2) := keepC hb (by first | (simp; done) | (simp; omega) | omega) (by simp [go_sem])
  have cw5_2 : w6.cell? ⟨w5.heap.size, 2, none⟩ = some (.int .i64 R3) := keepC hb (by first | (simp; done) | (simp; omega) | omega) (by simp [go_sem])
  have s6_2 : w5.heap.size < w6.heap.size := by omega
  have cw5p1_0 : w6.cell? ⟨w5.heap.size + 1, 0, none⟩ = some (.int .i64 R4) := keepC hb (by first | (simp; done) | (simp; omega) | omega) (by simp [go_sem])
  have cw5p1_1 : w6.cell? ⟨w5.heap.size + 1, 1, none⟩ = some (.int .i64 R5) := keepC hb (by first | (simp; done) | (simp; omega) | omega) (by simp [go_sem])
  have s6_3 : w5.heap.size + 1 < w6.heap.size := by omega
  clear hb
  clear s5_0
  clear s5_1
  go_wp2_with fail
  refine (HD _ (ht.step (Below.trans k6 (Below.mono (by go_grown) k6.size))) (hpw.step (Below.trans k6 (Below.mono (by go_grown) k6.size)))).mono ?_
  rintro e w7 ⟨hB, hb⟩
  obtain ⟨x, y, z, rfl⟩ := HF.out e hB
  replace hB : Hid (Q (.returned (.tuple #[.agg #[.int .i64 x, .int .i64 y], .int .i64 z]))) := hB
  have z7 := hb.size
  try simp at z7
  have q7 : Below w6.heap.size w6 w7 := by first | exact hb | exact Below.trans (by go_grown) (hb.mono (by first | (simp; done) | (simp; omega)))
  have k7 : Below w.heap.size w w7 := k6.trans (q7.mono k6.size)
  clear hb
  go_wp2_with fail
  refine (HD' _).mono ?_
  rintro e w8 ⟨hB2, hb⟩
  obtain rfl := HO.out _ _ hB2 hB.out
  clear hB2 hB
  have z8 := hb.size
  try simp at z8
  have q8 : Below w7.heap.size w7 w8 := by first | exact hb | exact Below.trans (by go_grown) (hb.mono (by first | (simp; done) | (simp; omega)))
  have k8 : Below w.heap.size w w8 := k7.trans (q8.mono k7.size)
  have cw7_0 : w8.cell? ⟨w7.heap.size, 0, none⟩ = some (.int .i64 x) := keepC hb (by first | (simp; done) | (simp; omega) | omega) (by simp [go_sem])
  have cw7_1 : w8.cell? ⟨w7.heap.size, 1, none⟩ = some (.int .i64 y) := keepC hb (by first | (simp; done) | (simp; omega) | omega) (by simp [go_sem])
  have s8_0 : w7.heap.size < w8.heap.size := by omega
  clear hb
  go_wp2_with fail
  go_returns
  exact ⟨by simp, Below.trans k8 (Below.mono (by go_grown) k8.size)⟩
end Go.Proofs.YtmccbokjigjpnaaDoor
