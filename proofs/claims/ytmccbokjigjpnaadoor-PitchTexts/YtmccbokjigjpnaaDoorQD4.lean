/- What the document's Name comes to, in the words of the program's. -/
import Derived.Test.YtmccbokjigjpnaaDoorQD3b
import Derived.Test.YtmccbokjigjpnaaDoorQD3z
import Derived.Test.YtmccbokjigjpnaaDoorQT7
namespace Go.Proofs.YtmccbokjigjpnaaDoor
open Go.RowKit
attribute [local go_sem ↓] Go.wp_at_zero Go.wp_at_succ
set_option linter.unusedSimpArgs false
set_option linter.unusedVariables false

theorem M.nup_is {s h : Int} {c : UInt8} {k : Nat} (h1 : M.qc (M.pf s) (h - M.wh s) = c) (h2 : (M.un s h).toNat = k) : M.nup s h = ⟨(List.replicate k c).toArray⟩ ++ ⟨(Lib.itoa (s + 1)).toArray⟩ := by
  unfold M.nup M.ut
  rw [h1, h2, ba_app]
theorem M.pf_yes {s : Int} (h : s % 7 = 0 ∨ s % 7 = 3 ∨ s % 7 = 4) : M.pf s = true := by
  unfold M.pf
  rcases h with h | h | h <;> simp [h]
theorem M.pf_no {s : Int} (h : s % 7 ≠ 0 ∧ s % 7 ≠ 3 ∧ s % 7 ≠ 4) : M.pf s = false := by
  unfold M.pf
  simp [h.1, h.2.1, h.2.2]

theorem refName_pos (s h : Int) (w : World) (hi : M.inb s h = true) (hup : 0 < s) (hq : M.un s h ≤ 6) :
    Calls Tryd.prog 20 #[.agg #[.int .i64 s, .int .i64 h]] w fun e w' => e = .returned (.tuple #[.string (M.nup s h), .int .i64 0]) ∧ Below w.heap.size w w' := by
  have hu : M.un s h = M.qn (M.pf s) (h - M.wh s) := rfl
  by_cases k0 : s % 7 = 0
  · rw [hu, M.pf_yes (by omega)] at hq
    unfold M.qn at hq
    rcases Int.lt_trichotomy (h - M.wh s) 0 with e | e | e
    · have e2 : -6 ≤ h - M.wh s := by (repeat' split at hq) <;> first | omega | (exfalso; simp_all; done)
      have hc : M.qc (M.pf s) (h - M.wh s) = 100 := by rw [M.pf_yes (by omega)]; unfold M.qc; (repeat' split) <;> first | rfl | omega | (exfalso; simp_all; done)
      have hn : (M.un s h).toNat = (-(h - M.wh s)).toNat := by unfold M.un; rw [M.pf_yes (by omega)]; unfold M.qn; (repeat' split) <;> first | omega | (exfalso; simp_all; done)
      rw [M.nup_is hc hn]
      rw [← M.rep_is]
      exact refName_0d s h w hi (by omega) (by omega) (by omega)
    · have hc : M.qc (M.pf s) (h - M.wh s) = 80 := by rw [M.pf_yes (by omega)]; unfold M.qc; (repeat' split) <;> first | rfl | omega | (exfalso; simp_all; done)
      have hn : (M.un s h).toNat = 1 := by unfold M.un; rw [M.pf_yes (by omega)]; unfold M.qn; (repeat' split) <;> first | omega | (exfalso; simp_all; done)
      rw [M.nup_is hc hn]
      exact refName_0P s h w hi (by omega) (by omega) (by omega)
    · have e2 : h - M.wh s ≤ 6 := by (repeat' split at hq) <;> first | omega | (exfalso; simp_all; done)
      have hc : M.qc (M.pf s) (h - M.wh s) = 65 := by rw [M.pf_yes (by omega)]; unfold M.qc; (repeat' split) <;> first | rfl | omega | (exfalso; simp_all; done)
      have hn : (M.un s h).toNat = (h - M.wh s).toNat := by unfold M.un; rw [M.pf_yes (by omega)]; unfold M.qn; (repeat' split) <;> first | omega | (exfalso; simp_all; done)
      rw [M.nup_is hc hn]
      rw [← M.rep_is]
      exact refName_0A s h w hi (by omega) (by omega) (by omega)
  by_cases k3 : s % 7 = 3
  · rw [hu, M.pf_yes (by omega)] at hq
    unfold M.qn at hq
    rcases Int.lt_trichotomy (h - M.wh s) 0 with e | e | e
    · have e2 : -6 ≤ h - M.wh s := by (repeat' split at hq) <;> first | omega | (exfalso; simp_all; done)
      have hc : M.qc (M.pf s) (h - M.wh s) = 100 := by rw [M.pf_yes (by omega)]; unfold M.qc; (repeat' split) <;> first | rfl | omega | (exfalso; simp_all; done)
      have hn : (M.un s h).toNat = (-(h - M.wh s)).toNat := by unfold M.un; rw [M.pf_yes (by omega)]; unfold M.qn; (repeat' split) <;> first | omega | (exfalso; simp_all; done)
      rw [M.nup_is hc hn]
      rw [← M.rep_is]
      exact refName_3d s h w hi (by omega) (by omega) (by omega)
    · have hc : M.qc (M.pf s) (h - M.wh s) = 80 := by rw [M.pf_yes (by omega)]; unfold M.qc; (repeat' split) <;> first | rfl | omega | (exfalso; simp_all; done)
      have hn : (M.un s h).toNat = 1 := by unfold M.un; rw [M.pf_yes (by omega)]; unfold M.qn; (repeat' split) <;> first | omega | (exfalso; simp_all; done)
      rw [M.nup_is hc hn]
      exact refName_3P s h w hi (by omega) (by omega) (by omega)
    · have e2 : h - M.wh s ≤ 6 := by (repeat' split at hq) <;> first | omega | (exfalso; simp_all; done)
      have hc : M.qc (M.pf s) (h - M.wh s) = 65 := by rw [M.pf_yes (by omega)]; unfold M.qc; (repeat' split) <;> first | rfl | omega | (exfalso; simp_all; done)
      have hn : (M.un s h).toNat = (h - M.wh s).toNat := by unfold M.un; rw [M.pf_yes (by omega)]; unfold M.qn; (repeat' split) <;> first | omega | (exfalso; simp_all; done)
      rw [M.nup_is hc hn]
      rw [← M.rep_is]
      exact refName_3A s h w hi (by omega) (by omega) (by omega)
  by_cases k4 : s % 7 = 4
  · rw [hu, M.pf_yes (by omega)] at hq
    unfold M.qn at hq
    rcases Int.lt_trichotomy (h - M.wh s) 0 with e | e | e
    · have e2 : -6 ≤ h - M.wh s := by (repeat' split at hq) <;> first | omega | (exfalso; simp_all; done)
      have hc : M.qc (M.pf s) (h - M.wh s) = 100 := by rw [M.pf_yes (by omega)]; unfold M.qc; (repeat' split) <;> first | rfl | omega | (exfalso; simp_all; done)
      have hn : (M.un s h).toNat = (-(h - M.wh s)).toNat := by unfold M.un; rw [M.pf_yes (by omega)]; unfold M.qn; (repeat' split) <;> first | omega | (exfalso; simp_all; done)
      rw [M.nup_is hc hn]
      rw [← M.rep_is]
      exact refName_4d s h w hi (by omega) (by omega) (by omega)
    · have hc : M.qc (M.pf s) (h - M.wh s) = 80 := by rw [M.pf_yes (by omega)]; unfold M.qc; (repeat' split) <;> first | rfl | omega | (exfalso; simp_all; done)
      have hn : (M.un s h).toNat = 1 := by unfold M.un; rw [M.pf_yes (by omega)]; unfold M.qn; (repeat' split) <;> first | omega | (exfalso; simp_all; done)
      rw [M.nup_is hc hn]
      exact refName_4P s h w hi (by omega) (by omega) (by omega)
    · have e2 : h - M.wh s ≤ 6 := by (repeat' split at hq) <;> first | omega | (exfalso; simp_all; done)
      have hc : M.qc (M.pf s) (h - M.wh s) = 65 := by rw [M.pf_yes (by omega)]; unfold M.qc; (repeat' split) <;> first | rfl | omega | (exfalso; simp_all; done)
      have hn : (M.un s h).toNat = (h - M.wh s).toNat := by unfold M.un; rw [M.pf_yes (by omega)]; unfold M.qn; (repeat' split) <;> first | omega | (exfalso; simp_all; done)
      rw [M.nup_is hc hn]
      rw [← M.rep_is]
      exact refName_4A s h w hi (by omega) (by omega) (by omega)
  rw [hu, M.pf_no (by omega)] at hq
  unfold M.qn at hq
  rcases Int.lt_trichotomy (h - M.wh s) 0 with e | e | e
  · by_cases e1 : h - M.wh s = -1
    · have hc : M.qc (M.pf s) (h - M.wh s) = 109 := by rw [M.pf_no (by omega)]; unfold M.qc; (repeat' split) <;> first | rfl | omega | (exfalso; simp_all; done)
      have hn : (M.un s h).toNat = 1 := by unfold M.un; rw [M.pf_no (by omega)]; unfold M.qn; (repeat' split) <;> first | omega | (exfalso; simp_all; done)
      rw [M.nup_is hc hn]
      exact refName_nm s h w hi (by omega) (by omega) (by omega)
    · have e2 : -7 ≤ h - M.wh s := by (repeat' split at hq) <;> first | omega | (exfalso; simp_all; done)
      have hc : M.qc (M.pf s) (h - M.wh s) = 100 := by rw [M.pf_no (by omega)]; unfold M.qc; (repeat' split) <;> first | rfl | omega | (exfalso; simp_all; done)
      have hn : (M.un s h).toNat = (-(h - M.wh s) - 1).toNat := by unfold M.un; rw [M.pf_no (by omega)]; unfold M.qn; (repeat' split) <;> first | omega | (exfalso; simp_all; done)
      rw [M.nup_is hc hn]
      rw [← M.rep_is]
      exact refName_nd s h w hi (by omega) (by omega) (by omega)
  · have hc : M.qc (M.pf s) (h - M.wh s) = 77 := by rw [M.pf_no (by omega)]; unfold M.qc; (repeat' split) <;> first | rfl | omega | (exfalso; simp_all; done)
    have hn : (M.un s h).toNat = 1 := by unfold M.un; rw [M.pf_no (by omega)]; unfold M.qn; (repeat' split) <;> first | omega | (exfalso; simp_all; done)
    rw [M.nup_is hc hn]
    exact refName_nP s h w hi (by omega) (by omega) (by omega)
  · have e2 : h - M.wh s ≤ 6 := by (repeat' split at hq) <;> first | omega | (exfalso; simp_all; done)
    have hc : M.qc (M.pf s) (h - M.wh s) = 65 := by rw [M.pf_no (by omega)]; unfold M.qc; (repeat' split) <;> first | rfl | omega | (exfalso; simp_all; done)
    have hn : (M.un s h).toNat = (h - M.wh s).toNat := by unfold M.un; rw [M.pf_no (by omega)]; unfold M.qn; (repeat' split) <;> first | omega | (exfalso; simp_all; done)
    rw [M.nup_is hc hn]
    rw [← M.rep_is]
    exact refName_nA s h w hi (by omega) (by omega) (by omega)

theorem refName_posx (s h : Int) (w : World) (hi : M.inb s h = true) (hup : 0 < s) (hq : 6 < M.un s h) :
    Calls Tryd.prog 20 #[.agg #[.int .i64 s, .int .i64 h]] w fun e w' => e = .returned (.tuple #[.string ⟨#[]⟩, .int .i64 3]) ∧ Below w.heap.size w w' := by
  have hu : M.un s h = M.qn (M.pf s) (h - M.wh s) := rfl
  by_cases k0 : s % 7 = 0
  · rw [hu, M.pf_yes (by omega)] at hq
    unfold M.qn at hq
    rcases Int.lt_trichotomy (h - M.wh s) 0 with e | e | e
    · exact refName_0xd s h w hi hup (by omega) (by (repeat' split at hq) <;> first | omega | (exfalso; simp_all; done))
    · exfalso; (repeat' split at hq) <;> first | omega | (exfalso; simp_all; done)
    · exact refName_0xA s h w hi hup (by omega) (by (repeat' split at hq) <;> first | omega | (exfalso; simp_all; done))
  by_cases k3 : s % 7 = 3
  · rw [hu, M.pf_yes (by omega)] at hq
    unfold M.qn at hq
    rcases Int.lt_trichotomy (h - M.wh s) 0 with e | e | e
    · exact refName_3xd s h w hi hup (by omega) (by (repeat' split at hq) <;> first | omega | (exfalso; simp_all; done))
    · exfalso; (repeat' split at hq) <;> first | omega | (exfalso; simp_all; done)
    · exact refName_3xA s h w hi hup (by omega) (by (repeat' split at hq) <;> first | omega | (exfalso; simp_all; done))
  by_cases k4 : s % 7 = 4
  · rw [hu, M.pf_yes (by omega)] at hq
    unfold M.qn at hq
    rcases Int.lt_trichotomy (h - M.wh s) 0 with e | e | e
    · exact refName_4xd s h w hi hup (by omega) (by (repeat' split at hq) <;> first | omega | (exfalso; simp_all; done))
    · exfalso; (repeat' split at hq) <;> first | omega | (exfalso; simp_all; done)
    · exact refName_4xA s h w hi hup (by omega) (by (repeat' split at hq) <;> first | omega | (exfalso; simp_all; done))
  rw [hu, M.pf_no (by omega)] at hq
  unfold M.qn at hq
  rcases Int.lt_trichotomy (h - M.wh s) 0 with e | e | e
  · exact refName_nxd s h w hi hup (by omega) (by (repeat' split at hq) <;> first | omega | (exfalso; simp_all; done))
  · exfalso; (repeat' split at hq) <;> first | omega | (exfalso; simp_all; done)
  · exact refName_nxA s h w hi hup (by omega) (by (repeat' split at hq) <;> first | omega | (exfalso; simp_all; done))

theorem refName_zero (h : Int) (w : World) (hi : M.inb 0 h = true) (hup : 0 ≤ h) (hq : M.un 0 h ≤ 6) :
    Calls Tryd.prog 20 #[.agg #[.int .i64 0, .int .i64 h]] w fun e w' => e = .returned (.tuple #[.string (M.nup 0 h), .int .i64 0]) ∧ Below w.heap.size w w' := by
  have hu : M.un 0 h = M.qn (M.pf 0) (h - M.wh 0) := rfl
  have hw0 : M.wh 0 = 0 := by decide
  have hp0 : M.pf 0 = true := by decide
  rw [hu, hp0, hw0] at hq
  unfold M.qn at hq
  by_cases e : h = 0
  · have hc : M.qc (M.pf 0) (h - M.wh 0) = 80 := by rw [hp0, hw0]; unfold M.qc; (repeat' split) <;> first | rfl | omega | (exfalso; simp_all; done)
    have hn : (M.un 0 h).toNat = 1 := by rw [hu, hp0, hw0]; unfold M.qn; (repeat' split) <;> first | omega | (exfalso; simp_all; done)
    rw [M.nup_is hc hn]
    exact refName_zP h w hi hup e
  · have hc : M.qc (M.pf 0) (h - M.wh 0) = 65 := by rw [hp0, hw0]; unfold M.qc; (repeat' split) <;> first | rfl | omega | (exfalso; simp_all; done)
    have hn : (M.un 0 h).toNat = h.toNat := by rw [hu, hp0, hw0]; unfold M.qn; (repeat' split) <;> first | omega | (exfalso; simp_all; done)
    rw [M.nup_is hc hn, ← M.rep_is]
    exact refName_zA h w hi hup (by (repeat' split at hq) <;> first | omega | (exfalso; simp_all; done))
theorem refName_zerox (h : Int) (w : World) (hi : M.inb 0 h = true) (hup : 0 ≤ h) (hq : 6 < M.un 0 h) :
    Calls Tryd.prog 20 #[.agg #[.int .i64 0, .int .i64 h]] w fun e w' => e = .returned (.tuple #[.string ⟨#[]⟩, .int .i64 3]) ∧ Below w.heap.size w w' := by
  have hu : M.un 0 h = M.qn (M.pf 0) (h - M.wh 0) := rfl
  have hw0 : M.wh 0 = 0 := by decide
  have hp0 : M.pf 0 = true := by decide
  rw [hu, hp0, hw0] at hq
  unfold M.qn at hq
  exact refName_zxA h w hi hup (by (repeat' split at hq) <;> first | omega | (exfalso; simp_all; done))
theorem refName_up (s h : Int) (w : World) (hi : M.inb s h = true) (hup : 0 ≤ s) (hu2 : s = 0 → 0 ≤ h) (hq : M.un s h ≤ 6) :
    Calls Tryd.prog 20 #[.agg #[.int .i64 s, .int .i64 h]] w fun e w' => e = .returned (.tuple #[.string (M.nup s h), .int .i64 0]) ∧ Below w.heap.size w w' := by
  by_cases e : s = 0
  · subst e; exact refName_zero h w hi (hu2 rfl) hq
  · exact refName_pos s h w hi (by omega) hq
theorem refName_upx (s h : Int) (w : World) (hi : M.inb s h = true) (hup : 0 ≤ s) (hu2 : s = 0 → 0 ≤ h) (hq : 6 < M.un s h) :
    Calls Tryd.prog 20 #[.agg #[.int .i64 s, .int .i64 h]] w fun e w' => e = .returned (.tuple #[.string ⟨#[]⟩, .int .i64 3]) ∧ Below w.heap.size w w' := by
  by_cases e : s = 0
  · subst e; exact refName_zerox h w hi (hu2 rfl) hq
  · exact refName_posx s h w hi (by omega) hq
end Go.Proofs.YtmccbokjigjpnaaDoor
