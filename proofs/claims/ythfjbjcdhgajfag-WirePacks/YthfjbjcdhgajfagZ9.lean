/- What the program's head comes to. -/
import Derived.Test.YthfjbjcdhgajfagZ8
namespace Go.Proofs.Ythfjbjcdhgajfag.Z
open Go.RowKit
set_option linter.unusedVariables false
set_option linter.unusedSimpArgs false

theorem isKind_w (k : Int) (w : World) : Calls Try.prog 39 #[.int .i64 k] w fun e w' => e = .returned (.bool (M.isK k)) ∧ w' = w := isKind_any k w
set_option maxRecDepth 20000 in
set_option maxHeartbeats 4000000 in
theorem head_any (ah : M.Ev) (p k : Nat) (s : ByteArray) (r : List Nat) (w : World) (hR : Rt w p s k) (ha : At s k r) (hs : s.size ≤ maxLen) :
    Calls Try.prog 44 #[.pointer (some ⟨p, 0, none⟩), ea ah] w fun e w' => (∃ k c, e = .returned (.tuple #[.int .i64 k, .int .i64 c, .bool (M.rh ah r).1]) ∧ ((M.rh ah r).1 = true → k = (M.rh ah r).2.1 ∧ c = (M.rh ah r).2.2.1)) ∧ Rd w w' p s (M.rh ah r).2.2.2 := by
  have hs' : s.size ≤ 9223372036854775807 := by unfold maxLen at hs; omega
  have HP := fun w hR => peek_any p k s r w hR ha hs
  have hb0 : ∀ os, Below w.heap.size w (w.alloc os) := fun os => by go_grown
  have lt0 := hR.lt
  cases r with
  | nil =>
    replace HP : ∀ w, Rt w p s k → Calls Try.prog 47 #[.pointer (some ⟨p, 0, none⟩)] w fun e w' => e = .returned (.tuple #[.int .i64 0, .bool false]) ∧ Below w.heap.size w w' := HP
    show Calls Try.prog 44 #[.pointer (some ⟨p, 0, none⟩), ea ah] w fun e w' => (∃ k c, e = .returned (.tuple #[.int .i64 k, .int .i64 c, .bool false]) ∧ (false = true → k = 0 ∧ c = 0)) ∧ Rd w w' p s []
    go_enter Try.func44, Try.ntmps44
    go_wp2_with fail
    refine (HP _ (hR.step (hb0 _))).mono ?_
    rintro e w1 ⟨rfl, hb⟩
    have hb1 : Below w.heap.size w w1 := (hb0 _).trans (hb.mono (by simp))
    go_wp2_with fail
    go_returns
    exact ⟨⟨_, _, rfl, fun h => by cases h⟩, ⟨⟨k, hR.step hb1, ha⟩, TK.below hb1 lt0⟩⟩
  | cons c t =>
    obtain ⟨hk, e1, ha2, hc⟩ := ha.cons
    replace HP : ∀ w, Rt w p s k → Calls Try.prog 47 #[.pointer (some ⟨p, 0, none⟩)] w fun e w' => e = .returned (.tuple #[.int .i64 (c : Int), .bool true]) ∧ Below w.heap.size w w' := HP
    clear e1
    obtain ⟨at', ak, ac, aa, ab⟩ := ah
    by_cases hlt : c < 128
    · have hlt' : (c : Int) < 128 := by omega
      have e2 : M.rh ⟨at', ak, ac, aa, ab⟩ (c :: t) = (M.isK ak, ak, ac, c :: t) := by simp only [M.rh]; rw [if_pos hlt]
      rw [e2]
      have HK := isKind_any ak
      generalize M.isK ak = K at *
      clear e2
      show Calls Try.prog 44 #[.pointer (some ⟨p, 0, none⟩), ea ⟨at', ak, ac, aa, ab⟩] w fun e w' => (∃ k c, e = .returned (.tuple #[.int .i64 k, .int .i64 c, .bool K]) ∧ (K = true → k = ak ∧ c = ac)) ∧ Rd w w' p s (c :: t)
      go_enter Try.func44, Try.ntmps44
      go_wp2_with fail
      refine (HP _ (hR.step (hb0 _))).mono ?_
      rintro e w1 ⟨rfl, hb⟩
      have hb1 : Below w.heap.size w w1 := (hb0 _).trans (hb.mono (by simp))
      have z1 := hb.size
      simp at z1
      have a1 : w1.cell? ⟨w.heap.size, 1, none⟩ = some (.int .i64 ak) := keepC hb (by simp) (by simp [go_sem])
      have a2 : w1.cell? ⟨w.heap.size, 2, none⟩ = some (.int .i64 ac) := keepC hb (by simp) (by simp [go_sem])
      have HR : Hid (Rt w1 p s k) := hR.step hb1
      have HT : Hid (Below w.heap.size w w1) := hb1
      clear hb hb1 HP
      go_wp2_with fail
      go_quiet (first | (go_at_call 39; exact (HK _).mono fun _ _ ⟨he, hm⟩ => ⟨he, _, hm⟩))
      go_wp2_with fail
      go_returns
      have hd : ∀ n, Below w1.heap.size w1 (w1.drewN n) := fun n => ⟨rfl, rfl, rfl, Nat.le_refl _, fun _ _ => rfl⟩
      exact ⟨⟨_, _, rfl, fun _ => ⟨rfl, rfl⟩⟩, ⟨⟨k, HR.out.step (hd _), ha⟩, TK.below (HT.out.trans ((hd _).mono HT.out.size)) lt0⟩⟩
    · have hlt' : ¬ (c : Int) < 128 := by omega
      have HK := isKind_any ((c / 16 : Nat) : Int)
      have ec : ((c / 16 : Nat) : Int) = (c : Int) / 16 := by omega
      have em : ((c % 16 : Nat) : Int) = (c : Int) % 16 := by omega
      by_cases hbad : M.isK ((c / 16 : Nat) : Int) = false ∨ (((c / 16 : Nat) : Int) = ak ∧ ((c % 16 : Nat) : Int) = ac)
      · have e2 : M.rh ⟨at', ak, ac, aa, ab⟩ (c :: t) = (false, 0, 0, c :: t) := by simp only [M.rh]; rw [if_neg hlt, if_pos hbad]
        rw [e2]
        have hbad' : M.isK ((c / 16 : Nat) : Int) = false ∨ (M.isK ((c / 16 : Nat) : Int) = true ∧ ((c : Int) / 16 == ak) = true ∧ ((c : Int) % 16 == ac) = true) := by
          rw [ec, em] at hbad
          rw [ec]
          cases hK : M.isK ((c : Int) / 16)
          · exact Or.inl rfl
          · rw [hK] at hbad
            rcases hbad with h | ⟨h1, h2⟩
            · cases h
            · exact Or.inr ⟨rfl, by simp [h1], by simp [h2]⟩
        rw [ec] at HK hbad'
        generalize M.isK ((c : Int) / 16) = K at *
        clear e2 hbad ec em
        show Calls Try.prog 44 #[.pointer (some ⟨p, 0, none⟩), ea ⟨at', ak, ac, aa, ab⟩] w fun e w' => (∃ k c, e = .returned (.tuple #[.int .i64 k, .int .i64 c, .bool false]) ∧ (false = true → k = 0 ∧ c = 0)) ∧ Rd w w' p s (c :: t)
        rcases hbad' with rfl | ⟨rfl, h1, h2⟩
        all_goals
          go_enter Try.func44, Try.ntmps44
          go_wp2_with fail
          refine (HP _ (hR.step (hb0 _))).mono ?_
          rintro e w1 ⟨rfl, hb⟩
          have hb1 : Below w.heap.size w w1 := (hb0 _).trans (hb.mono (by simp))
          have z1 := hb.size
          simp at z1
          have a1 : w1.cell? ⟨w.heap.size, 1, none⟩ = some (.int .i64 ak) := keepC hb (by simp) (by simp [go_sem])
          have a2 : w1.cell? ⟨w.heap.size, 2, none⟩ = some (.int .i64 ac) := keepC hb (by simp) (by simp [go_sem])
          have HR : Hid (Rt w1 p s k) := hR.step hb1
          have HT : Hid (Below w.heap.size w w1) := hb1
          clear hb hb1 HP
          go_wp2_with fail
          refine (HK _).mono ?_
          rintro e w2 ⟨rfl, rfl⟩
          go_wp2_with fail
          go_returns
          exact ⟨⟨_, _, rfl, fun h => by cases h⟩, ⟨⟨k, HR.out, ha⟩, TK.below HT.out lt0⟩⟩
      · have e2 : M.rh ⟨at', ak, ac, aa, ab⟩ (c :: t) = (true, ((c / 16 : Nat) : Int), ((c % 16 : Nat) : Int), t) := by simp only [M.rh]; rw [if_neg hlt, if_neg hbad]
        rw [e2]
        have hK : M.isK ((c : Int) / 16) = true := by
          cases hK : M.isK ((c / 16 : Nat) : Int)
          · exact absurd (Or.inl hK) hbad
          · rw [ec] at hK; exact hK
        have hok : ((c : Int) / 16 == ak) = false ∨ (((c : Int) / 16 == ak) = true ∧ ((c : Int) % 16 == ac) = false) := by
          rw [ec, em] at hbad
          by_cases h : (c : Int) / 16 = ak
          · refine Or.inr ⟨by simp [h], ?_⟩
            have : ¬ (c : Int) % 16 = ac := fun q => hbad (Or.inr ⟨h, q⟩)
            simp [this]
          · exact Or.inl (by simp [h])
        rw [ec, hK] at HK
        have w3 : IntKind.i64.wrap ((k : Int) + 1) = (k : Int) + 1 := wid (by omega) (by omega)
        have hj1 : ((k + 1 : Nat) : Int) = (k : Int) + 1 := by omega
        rw [ec, em]
        clear e2 hbad ec em hK
        show Calls Try.prog 44 #[.pointer (some ⟨p, 0, none⟩), ea ⟨at', ak, ac, aa, ab⟩] w fun e w' => (∃ k' c', e = .returned (.tuple #[.int .i64 k', .int .i64 c', .bool true]) ∧ (true = true → k' = (c : Int) / 16 ∧ c' = (c : Int) % 16)) ∧ Rd w w' p s t
        rcases hok with h1 | ⟨h1, h2⟩
        all_goals
          go_enter Try.func44, Try.ntmps44
          go_wp2_with fail
          refine (HP _ (hR.step (hb0 _))).mono ?_
          rintro e w1 ⟨rfl, hb⟩
          have hb1 : Below w.heap.size w w1 := (hb0 _).trans (hb.mono (by simp))
          have z1 := hb.size
          simp at z1
          have a1 : w1.cell? ⟨w.heap.size, 1, none⟩ = some (.int .i64 ak) := keepC hb (by simp) (by simp [go_sem])
          have a2 : w1.cell? ⟨w.heap.size, 2, none⟩ = some (.int .i64 ac) := keepC hb (by simp) (by simp [go_sem])
          have hR1 := hR.step hb1
          have c1 := hR1.c1
          have f1 := hR1.f1
          have lt1 := hR1.lt
          have HR : Hid (Rt w1 p s k) := hR1
          have HT : Hid (TK w p w1) := TK.below hb1 lt0
          clear hb hb1 HP hR1
          go_wp2_with fail
          refine (HK _).mono ?_
          rintro e w2 ⟨rfl, rfl⟩
          go_wp2_with fail
          go_returns
          refine ⟨⟨_, _, rfl, fun _ => ⟨rfl, rfl⟩⟩, ⟨⟨k + 1, ?_, ha2⟩, HT.out.trans (TK.set _ _ _)⟩⟩
          rw [← hj1]
          exact HR.out.set (k + 1)
end Go.Proofs.Ythfjbjcdhgajfag.Z
