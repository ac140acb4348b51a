/- What the program's appendEvent comes to. -/
import Derived.Test.YthfjbjcdhgajfagZ4
namespace Go.Proofs.Ythfjbjcdhgajfag.Z
open Go.RowKit Go.Maps
set_option linter.unusedVariables false
set_option linter.unusedSimpArgs false

theorem ub {x : Int} (h0 : 0 ≤ x) (h1 : x ≤ 255) : IntKind.u8.wrap x = x := by
  rw [IntKind.wrap_u8]; omega
set_option maxHeartbeats 4000000 in
theorem appendEvent_any (ah e : M.Ev) (hr : M.we e ah.t = 0) (h0 : 0 ≤ ah.t) (hhi : e.t ≤ 9223372036854775807) (base : Nat) (v : Value) (xs : List Nat) (w : World) (hown : OB w base v xs) (hbase : base ≤ w.heap.size) (h63 : xs.length ≤ 400000) :
    Calls Try.prog 33 #[v, ea e, ea ah] w fun x w' => ∃ v', x = .returned v' ∧ OB w' base v' (xs ++ M.eb ah e) ∧ Gw w w' v v' := by
  obtain ⟨q1, ⟨q2, q3, q4, q5⟩, q6, q7⟩ := M.we_ok.1 hr
  have hkk := M.isK_cases q1
  obtain ⟨et, ek, ec, ea', eb'⟩ := e
  obtain ⟨at', ak, ac, aa, ab⟩ := ah
  have HB : Hid (M.eb ⟨at', ak, ac, aa, ab⟩ ⟨et, ek, ec, ea', eb'⟩ = M.wt (et - at').toNat ++ ((if ek = ak ∧ ec = ac then [] else [(16 * ek + ec).toNat]) ++ (ea'.toNat :: (if ek = 12 then [] else [eb'.toNat])))) := rfl
  generalize M.eb ⟨at', ak, ac, aa, ab⟩ ⟨et, ek, ec, ea', eb'⟩ = EB at *
  simp only at *
  have wd : IntKind.i64.wrap (et - at') = et - at' := wid (by omega) (by omega)
  obtain ⟨n, hn⟩ : ∃ n : Nat, et - at' = (n : Int) := ⟨(et - at').toNat, by omega⟩
  have hnn : (et - at').toNat = n := by omega
  have HW := fun v xs w h1 h2 h3 => appendWait_any n (by omega) base v xs w h1 h2 h3
  have wl := M.wt_len n
  have HH := hasB_any ek
  have wk : 0 ≤ 16 * ek + ec ∧ 16 * ek + ec ≤ 255 := by omega
  have u1 : IntKind.u8.wrap (16 * ek + ec) = 16 * ek + ec := ub wk.1 wk.2
  have u2 : IntKind.u8.wrap ea' = ea' := ub (by omega) (by omega)
  have u3 : IntKind.u8.wrap eb' = eb' := ub (by omega) (by omega)
  have v1 : Hid (Value.int IntKind.u8 (16 * ek + ec) = bc (16 * ek + ec).toNat) := by show _ = _; unfold bc; congr 1; omega
  have v2 : Hid (Value.int IntKind.u8 ea' = bc ea'.toNat) := by show _ = _; unfold bc; congr 1; omega
  have v3 : Hid (Value.int IntKind.u8 eb' = bc eb'.toNat) := by show _ = _; unfold bc; congr 1; omega
  rw [hnn] at HB
  have hkb : 8 ≤ ek ∧ ek ≤ 14 := by omega
  have hcb : 0 ≤ ec ∧ ec ≤ 15 := q2
  clear hr q1 q2 q3 q4 q5 hkk wk
  go_enter Try.func33, Try.ntmps33
  go_wp2_with (simp only [hn])
  have hb0 : ∀ o1 o2, Below w.heap.size w ((w.alloc o1).alloc o2) := fun o1 o2 => by go_grown
  refine (HW v xs _ (hown.keep (hb0 _ _)) (by simp; omega) (by omega)).mono ?_
  rintro x w1 ⟨V1, rfl, ho1, hg1⟩
  have hne : ∀ k, v.ownBlock = some k → k < w.heap.size := fun k hk => own_lt hown k hk
  have K : ∀ (b o : Nat) u, (b = w.heap.size ∨ b = w.heap.size + 1) → World.cell? _ ⟨b, o, none⟩ = some u → w1.cell? ⟨b, o, none⟩ = some u := fun b o u hb hc => hg1.cell (by simp; omega) (fun q => by have := hne b q.symm; omega) hc
  have a1 : w1.cell? ⟨w.heap.size, 1, none⟩ = some (.int .i64 ek) := K _ _ _ (Or.inl rfl) (by simp [go_sem])
  have a2 : w1.cell? ⟨w.heap.size, 2, none⟩ = some (.int .i64 ec) := K _ _ _ (Or.inl rfl) (by simp [go_sem])
  have a3 : w1.cell? ⟨w.heap.size, 3, none⟩ = some (.int .i64 ea') := K _ _ _ (Or.inl rfl) (by simp [go_sem])
  have a4 : w1.cell? ⟨w.heap.size, 4, none⟩ = some (.int .i64 eb') := K _ _ _ (Or.inl rfl) (by simp [go_sem])
  have b1 : w1.cell? ⟨w.heap.size + 1, 1, none⟩ = some (.int .i64 ak) := K _ _ _ (Or.inr rfl) (by simp [go_sem])
  have b2 : w1.cell? ⟨w.heap.size + 1, 2, none⟩ = some (.int .i64 ac) := K _ _ _ (Or.inr rfl) (by simp [go_sem])
  have g1 : Gw w w1 v V1 := (Gw.below v (hb0 _ _)).trans hg1
  have z1 := hg1.gr.size
  simp at z1
  have hV1 : ∀ k, V1.ownBlock = some k → k ≠ w.heap.size := fun k hk => by
    rcases hg1.ob with e | ⟨j, e, hj⟩
    · rw [e] at hk; have := hne k hk; omega
    · rw [e] at hk; cases hk; simp at hj; omega
  clear K hg1 HW hb0 hown
  by_cases cs : ek = ak ∧ ec = ac
  · obtain ⟨rfl, rfl⟩ := cs
    have HB' : Hid (EB = M.wt n ++ (([] : List Nat) ++ (ea'.toNat :: (if ek = 12 then [] else [eb'.toNat])))) := by show _ = _; rw [HB.out, if_pos ⟨rfl, rfl⟩]
    clear HB
    have HB := HB'
    clear HB'
    have hb3 : ∀ os, Below w1.heap.size w1 (w1.alloc os) := fun os => by go_grown
    go_wp2_with (at_builtin; refine wpList_append_byte rfl (.tmp 36) (.tmp 40) rfl base _ _ rfl (ho1.keep (hb3 _)) w1.heap.size ea'.toNat rfl (by rw [← v2.out]; simp [go_sem]) ?c1 ?c2 ?_)
    case c1 => simp; omega
    case c2 => simp; omega
    intro V3 w3 ho3 hg3
    have g3 : Gw w w3 v V3 := g1.trans ((Gw.below _ (hb3 _)).trans hg3)
    have a13 : w3.cell? ⟨w.heap.size, 1, none⟩ = some (.int .i64 ek) := hg3.cell (by simp; omega) (fun q => hV1 _ q.symm rfl) (keepC (hb3 _) (by omega) a1)
    have a43 : w3.cell? ⟨w.heap.size, 4, none⟩ = some (.int .i64 eb') := hg3.cell (by simp; omega) (fun q => hV1 _ q.symm rfl) (keepC (hb3 _) (by omega) a4)
    have z3 : w.heap.size + 1 < w3.heap.size := by have := hg3.gr.size; simp at this; omega
    have hV3 : ∀ k, V3.ownBlock = some k → k ≠ w.heap.size := fun k hk => by
      rcases hg3.ob with e | ⟨j, e, hj⟩
      · rw [e] at hk; exact hV1 k hk
      · rw [e] at hk; cases hk; simp at hj; omega
    clear hb3 hg3
    go_wp2_with fail
    refine (HH _).mono ?_
    rintro x w5 ⟨rfl, rfl⟩
    by_cases ck : ek = 12
    · have ck' : (ek != 12) = false := by simp [ck]
      have hE := HB.out
      rw [List.nil_append, if_pos ck] at hE
      have hE' : Hid (xs ++ EB = _) := congrArg (xs ++ ·) hE
      clear hE HB ck
      go_wp2_with fail
      go_ret
      refine ⟨_, rfl, ?_, g3⟩
      rw [hE'.out]
      simpa using ho3
    · have ck' : (ek != 12) = true := by simp [ck]
      have hE := HB.out
      rw [List.nil_append, if_neg ck] at hE
      have hE' : Hid (xs ++ EB = _) := congrArg (xs ++ ·) hE
      clear hE HB ck
      have hb4 : ∀ os, Below w5.heap.size w5 (w5.alloc os) := fun os => by go_grown
      go_wp2_with (at_builtin; refine wpList_append_byte rfl (.tmp 45) (.tmp 49) rfl base _ _ rfl (ho3.keep (hb4 _)) w5.heap.size eb'.toNat rfl (by rw [← v3.out]; simp [go_sem]) ?c1 ?c2 ?_)
      case c1 => simp; omega
      case c2 => simp; omega
      intro V4 w4 ho4 hg4
      have g4 : Gw w w4 v V4 := g3.trans ((Gw.below _ (hb4 _)).trans hg4)
      have z4 : w.heap.size + 1 < w4.heap.size := by have := hg4.gr.size; simp at this; omega
      have hV4 : ∀ k, V4.ownBlock = some k → k ≠ w.heap.size := fun k hk => by
        rcases hg4.ob with e | ⟨j, e, hj⟩
        · rw [e] at hk; exact hV3 k hk
        · rw [e] at hk; cases hk; simp at hj; omega
      clear hb4 hg4
      go_wp2_with fail
      go_ret
      refine ⟨_, rfl, ?_, g4⟩
      rw [hE'.out]
      simpa using ho4
  · have HB' : Hid (EB = M.wt n ++ ([(16 * ek + ec).toNat] ++ (ea'.toNat :: (if ek = 12 then [] else [eb'.toNat])))) := by show _ = _; rw [HB.out, if_neg cs]
    clear HB
    have HB := HB'
    clear HB'
    have hcs : (ek != ak) = true ∨ ((ek != ak) = false ∧ (ec != ac) = true) := by
      by_cases h : ek = ak
      · refine Or.inr ⟨by simp [h], ?_⟩
        have : ec ≠ ac := fun q => cs ⟨h, q⟩
        simp [this]
      · exact Or.inl (by simp [h])
    clear cs
    rcases hcs with hc1 | ⟨hc1, hc2⟩
    all_goals
      have hb2 : ∀ os, Below w1.heap.size w1 (w1.alloc os) := fun os => by go_grown
      go_wp2_with (at_builtin; refine wpList_append_byte rfl (.tmp 26) (.tmp 34) rfl base _ _ rfl (ho1.keep (hb2 _)) w1.heap.size (16 * ek + ec).toNat rfl (by rw [← v1.out]; simp [go_sem]) ?c1 ?c2 ?_)
      case c1 => simp; omega
      case c2 => simp; omega
      intro V2 w2 ho2 hg2
      have g2 : Gw w w2 v V2 := g1.trans ((Gw.below _ (hb2 _)).trans hg2)
      have a12 : w2.cell? ⟨w.heap.size, 1, none⟩ = some (.int .i64 ek) := hg2.cell (by simp; omega) (fun q => hV1 _ q.symm rfl) (keepC (hb2 _) (by omega) a1)
      have a32 : w2.cell? ⟨w.heap.size, 3, none⟩ = some (.int .i64 ea') := hg2.cell (by simp; omega) (fun q => hV1 _ q.symm rfl) (keepC (hb2 _) (by omega) a3)
      have a42 : w2.cell? ⟨w.heap.size, 4, none⟩ = some (.int .i64 eb') := hg2.cell (by simp; omega) (fun q => hV1 _ q.symm rfl) (keepC (hb2 _) (by omega) a4)
      have z2 : w.heap.size + 1 < w2.heap.size := by have := hg2.gr.size; simp at this; omega
      have hV2 : ∀ k, V2.ownBlock = some k → k ≠ w.heap.size := fun k hk => by
        rcases hg2.ob with e | ⟨j, e, hj⟩
        · rw [e] at hk; exact hV1 k hk
        · rw [e] at hk; cases hk; simp at hj; omega
      clear hb2 hg2
      have hb3 : ∀ os, Below w2.heap.size w2 (w2.alloc os) := fun os => by go_grown
      go_wp2_with (at_builtin; refine wpList_append_byte rfl (.tmp 36) (.tmp 40) rfl base _ _ rfl (ho2.keep (hb3 _)) w2.heap.size ea'.toNat rfl (by rw [← v2.out]; simp [go_sem]) ?c1 ?c2 ?_)
      case c1 => simp; omega
      case c2 => simp; omega
      intro V3 w3 ho3 hg3
      have g3 : Gw w w3 v V3 := g2.trans ((Gw.below _ (hb3 _)).trans hg3)
      have a13 : w3.cell? ⟨w.heap.size, 1, none⟩ = some (.int .i64 ek) := hg3.cell (by simp; omega) (fun q => hV2 _ q.symm rfl) (keepC (hb3 _) (by omega) a12)
      have a43 : w3.cell? ⟨w.heap.size, 4, none⟩ = some (.int .i64 eb') := hg3.cell (by simp; omega) (fun q => hV2 _ q.symm rfl) (keepC (hb3 _) (by omega) a42)
      have z3 : w.heap.size + 1 < w3.heap.size := by have := hg3.gr.size; simp at this; omega
      have hV3 : ∀ k, V3.ownBlock = some k → k ≠ w.heap.size := fun k hk => by
        rcases hg3.ob with e | ⟨j, e, hj⟩
        · rw [e] at hk; exact hV2 k hk
        · rw [e] at hk; cases hk; simp at hj; omega
      clear hb3 hg3
      go_wp2_with fail
      refine (HH _).mono ?_
      rintro x w5 ⟨rfl, rfl⟩
      by_cases ck : ek = 12
      · have ck' : (ek != 12) = false := by simp [ck]
        have hE := HB.out
        rw [List.singleton_append, if_pos ck] at hE
        have hE' : Hid (xs ++ EB = _) := congrArg (xs ++ ·) hE
        clear hE HB ck
        go_wp2_with fail
        go_ret
        refine ⟨_, rfl, ?_, g3⟩
        rw [hE'.out]
        simpa using ho3
      · have ck' : (ek != 12) = true := by simp [ck]
        have hE := HB.out
        rw [List.singleton_append, if_neg ck] at hE
        have hE' : Hid (xs ++ EB = _) := congrArg (xs ++ ·) hE
        clear hE HB ck
        have hb4 : ∀ os, Below w5.heap.size w5 (w5.alloc os) := fun os => by go_grown
        go_wp2_with (at_builtin; refine wpList_append_byte rfl (.tmp 45) (.tmp 49) rfl base _ _ rfl (ho3.keep (hb4 _)) w5.heap.size eb'.toNat rfl (by rw [← v3.out]; simp [go_sem]) ?c1 ?c2 ?_)
        case c1 => simp; omega
        case c2 => simp; omega
        intro V4 w4 ho4 hg4
        have g4 : Gw w w4 v V4 := g3.trans ((Gw.below _ (hb4 _)).trans hg4)
        have z4 : w.heap.size + 1 < w4.heap.size := by have := hg4.gr.size; simp at this; omega
        have hV4 : ∀ k, V4.ownBlock = some k → k ≠ w.heap.size := fun k hk => by
          rcases hg4.ob with e | ⟨j, e, hj⟩
          · rw [e] at hk; exact hV3 k hk
          · rw [e] at hk; cases hk; simp at hj; omega
        clear hb4 hg4
        go_wp2_with fail
        go_ret
        refine ⟨_, rfl, ?_, g4⟩
        rw [hE'.out]
        simpa using ho4
end Go.Proofs.Ythfjbjcdhgajfag.Z
