/- What the program's Named comes to, at every text, in one word. -/
import Derived.Test.YtmccbokjigjpnaaDoorQN5
namespace Go.Proofs.YtmccbokjigjpnaaDoor
open Go.RowKit Go.Lib
set_option linter.unusedVariables false
set_option linter.unusedSimpArgs false

theorem M.pow10 (k : Nat) (h : k ≤ 4) : (10 : Int) ^ k ≤ 10000 := by
  rcases (show k = 0 ∨ k = 1 ∨ k = 2 ∨ k = 3 ∨ k = 4 by omega) with rfl | rfl | rfl | rfl | rfl <;> decide
theorem M.valN_bd (s : ByteArray) (h : M.isN s = true) : -10000 ≤ M.valN s ∧ M.valN s ≤ 10000 := by
  rcases Nat.eq_zero_or_pos s.size with h0 | h0
  · rw [M.isN_none s h0] at h; cases h
  · by_cases hm : M.by s 0 = 45
    · obtain ⟨h1, h2⟩ := M.isN_neg s h0 hm
      have hk := h1.1 h
      rw [h2 hk]
      have hv := M.dv_bd (s := s) (i := 1) (k := s.size - 1) (fun j a b => hk.1 j a (by omega))
      have hp := M.pow10 (s.size - 1) (by have := hk.2.1; have := hk.2.2.1; omega)
      omega
    · obtain ⟨h1, h2⟩ := M.isN_pos s h0 hm
      have hk := h1.1 h
      rw [h2 hk]
      have hv := M.dv_bd (s := s) (i := 0) (k := s.size) (fun j a b => hk.1 j a (by omega))
      have hp := M.pow10 s.size (by have := hk.2.1; have := hk.2.2.1; omega)
      omega

theorem Named_any (s : ByteArray) (F E : Nat) (w : World) (hs : s.size ≤ 140737488355328) (hl : M.Lets s F E) (ht : Tab w) (hpw : Pows w) :
    Calls Tryd.prog 23 #[.string s] w fun e w' => NamedR s F E e ∧ Below w.heap.size w w' := by
  have f1 := hl.f1
  have f2 := hl.fe
  have f3 := hl.es
  have a1 := M.lets_pre hl
  have a2 := M.lets_cut hl
  have hbz : (s.extract F s.size).size = s.size - F := by rw [ByteArray.size_extract]; omega
  have hqz : ((s.extract F s.size).extract 0 (E - F)).size = E - F := by rw [ByteArray.size_extract, hbz]; omega
  have HQ := fun w => cutQuality_any (s.extract F s.size) (E - F) w (M.lets_ltr hl) (by omega)
  rw [M.lets_rest hl] at HQ
  have HN := fun w => readNumber_any (s.extract E s.size) w
  have hone := fun S h (s1 : 0 ≤ S) (s2 : S ≤ 200) hn => M.named_one (S := S) (h := h) hl s1 s2 hn
  unfold NamedR
  generalize s.extract F s.size = body at *
  generalize body.extract 0 (E - F) = q at *
  by_cases c1 : E = F ∨ M.isN (s.extract E s.size) = false ∨ M.valN (s.extract E s.size) < 1
  · refine (Named_g1 s body q _ _ _ _ w a1 a2 HQ HN ?_).mono fun e w' h => ⟨.inl ⟨c1, h.1⟩, h.2⟩
    rcases c1 with h | h | h
    · exact .inl (by omega)
    · exact .inr (.inl h)
    · by_cases k : M.isN (s.extract E s.size) = true
      · rw [if_pos k]; exact .inr (.inr h)
      · exact .inr (.inl (by simpa using k))
  · have k : M.isN (s.extract E s.size) = true := by
      cases h : M.isN (s.extract E s.size)
      · exact absurd (.inr (.inl h)) c1
      · rfl
    have hb := M.valN_bd _ k
    simp only [if_pos k] at HN
    have hq0 : 0 < q.size := by omega
    have hN1 : 1 ≤ M.valN (s.extract E s.size) := by omega
    by_cases c2 : 201 < M.valN (s.extract E s.size) ∨ 6 < E - F
    · exact (Named_g2 s body q _ _ _ _ w a1 a2 HQ HN k hN1 (by omega) hq0 (by omega)).mono fun e w' h => ⟨.inr (.inl ⟨c1, c2, h.1⟩), h.2⟩
    · generalize hV : M.valN (s.extract E s.size) = N at *
      obtain ⟨H, hH⟩ : ∃ H, H = M.hz (q[0]'hq0) (q.size : Int) (N - 1) := ⟨_, rfl⟩
      have key : ∀ h, M.NmQ (M.sg' F (N - 1)) (M.sg' F h) s 0 → h = H := fun h hn => by rw [hH]; exact (hone (N - 1) h (by omega) (by omega) hn).2.2 hq0
      rcases (show F = 0 ∨ F = 1 by omega) with rfl | rfl
      · have e1 : ∀ x, M.sg' 0 x = x := fun x => by unfold M.sg'; rw [if_neg (by omega)]
        simp only [e1] at key ⊢
        obtain ⟨T, Er, hnm⟩ := M.nm_some (N - 1) H
        rcases hnm.err with rfl | rfl
        · by_cases hT : T = s
          · refine (Named_ok_false s body q _ _ _ N w a1 a2 HQ HN k hN1 (by omega) hq0 (by omega) _ rfl H hH ht hpw T 0 hnm (by simp) rfl hT).mono fun e w' h => ⟨.inr (.inr ⟨c1, c2, .inl ⟨H, ?_, h.1⟩⟩), h.2⟩
            rw [← hT]; exact hnm
          · refine (Named_t_false s body q _ _ _ N w a1 a2 HQ HN k hN1 (by omega) hq0 (by omega) _ rfl H hH ht hpw T 0 hnm (by simp) rfl hT).mono fun e w' h => ⟨.inr (.inr ⟨c1, c2, .inr ⟨fun x hx => ?_, h.1⟩⟩), h.2⟩
            have := key x hx
            subst this
            exact hT (hnm.one hx).1
        · refine (Named_e_false s body q _ _ _ N w a1 a2 HQ HN k hN1 (by omega) hq0 (by omega) _ rfl H hH ht hpw T 3 hnm (by simp) rfl).mono fun e w' h => ⟨.inr (.inr ⟨c1, c2, .inr ⟨fun x hx => ?_, h.1⟩⟩), h.2⟩
          have := key x hx
          subst this
          have := (hnm.one hx).2
          omega
      · have e1 : ∀ x, M.sg' 1 x = -x := fun x => by unfold M.sg'; rw [if_pos rfl]
        simp only [e1] at key ⊢
        obtain ⟨T, Er, hnm⟩ := M.nm_some (-(N - 1)) (-H)
        rcases hnm.err with rfl | rfl
        · by_cases hT : T = s
          · refine (Named_ok_true s body q _ _ _ N w a1 a2 HQ HN k hN1 (by omega) hq0 (by omega) _ rfl H hH ht hpw T 0 hnm (by simp) rfl hT).mono fun e w' h => ⟨.inr (.inr ⟨c1, c2, .inl ⟨H, ?_, h.1⟩⟩), h.2⟩
            rw [← hT]; exact hnm
          · refine (Named_t_true s body q _ _ _ N w a1 a2 HQ HN k hN1 (by omega) hq0 (by omega) _ rfl H hH ht hpw T 0 hnm (by simp) rfl hT).mono fun e w' h => ⟨.inr (.inr ⟨c1, c2, .inr ⟨fun x hx => ?_, h.1⟩⟩), h.2⟩
            have := key x hx
            subst this
            exact hT (hnm.one hx).1
        · refine (Named_e_true s body q _ _ _ N w a1 a2 HQ HN k hN1 (by omega) hq0 (by omega) _ rfl H hH ht hpw T 3 hnm (by simp) rfl).mono fun e w' h => ⟨.inr (.inr ⟨c1, c2, .inr ⟨fun x hx => ?_, h.1⟩⟩), h.2⟩
          have := key x hx
          subst this
          have := (hnm.one hx).2
          omega
end Go.Proofs.YtmccbokjigjpnaaDoor
