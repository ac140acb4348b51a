/- What the program's Back comes to: a search that asks a closure. -/
import Derived.Test.YtmccbokjigjpnaeK4
import Derived.Deep.RegionHeld3
namespace Go.Proofs.Ytmccbokjigjpnae.F
open Go.RowKit
set_option linter.unusedVariables false
set_option linter.unusedSimpArgs false

/-- The three boxes that the closure looks into. -/
structure Bx (w : World) (bl br bp : Nat) (ao : Option Addr) (n c : Nat) (u d p : Int) : Prop where
  sl : bl < w.heap.size
  sr : br < w.heap.size
  sp : bp < w.heap.size
  l : w.cell? ⟨bl, 0, none⟩ = some (.slice ao n c)
  u : w.cell? ⟨br, 0, none⟩ = some (.int .i64 u)
  d : w.cell? ⟨br, 1, none⟩ = some (.int .i64 d)
  p : w.cell? ⟨bp, 0, none⟩ = some (.int .i64 p)
theorem Bx.step {w w' : World} {bl br bp : Nat} {ao : Option Addr} {n c : Nat} {u d p : Int} (h : Bx w bl br bp ao n c u d p) (hb : Below w.heap.size w w') : Bx w' bl br bp ao n c u d p := by
  have := hb.size
  exact ⟨by have := h.sl; omega, by have := h.sr; omega, by have := h.sp; omega, keepC hb h.sl h.l, keepC hb h.sr h.u, keepC hb h.sr h.d, keepC hb h.sp h.p⟩

set_option maxHeartbeats 2000000 in
theorem asks_any (bl br bp : Nat) (ao : Option Addr) (n c : Nat) (A P : Nat → Int) (R : Nat → Bool) (t u d p : Int) (w : World) (hx : Bx w bl br bp ao n c u d p) (hp : ML w ao n A P R) (hc : n ≤ c) (hcm : c ≤ 9223372036854775807) (h : K.M.Rt A P n) (t1 : 0 ≤ t) (t2 : t ≤ 1048576) (u1 : 0 < u) (u2 : u ≤ 4096) (d1 : 0 < d) :
    Calls Try.prog 23 #[.int .i64 t, .pointer (some ⟨bl, 0, none⟩), .pointer (some ⟨br, 0, none⟩), .pointer (some ⟨bp, 0, none⟩)] w fun e w' => e = .returned (.bool (decide (p ≤ K.M.sm A P R n u d t))) ∧ Below w.heap.size w w' := by
  obtain ⟨s1, s2, s3, s4⟩ := K.M.sm_bd (R := R) h (t := t) (u := u) (d := d) t1 t2 u1 u2 d1
  have HS := fun w => sample_any (K.M.tw A P R n n t) u d w s1 s2 d1
  have hs : K.M.tw A P R n n t * u / d = K.M.sm A P R n u d t := rfl
  rw [hs] at HS
  have HT : ∀ w', Below w.heap.size w w' → Calls Try.prog 17 #[.slice ao n c, .int .i64 t] w' fun e w'' => e = .returned (.int .i64 (K.M.tw A P R n n t)) ∧ Below w'.heap.size w' w'' := fun w' hb => twice_any ao n c A P R t w' (hp.step hb) hc hcm h t1 t2
  obtain ⟨b1, b2, b3, c1, c2, c3, c4⟩ := hx
  clear hs
  generalize K.M.tw A P R n n t = X at *
  generalize K.M.sm A P R n u d t = Y at *
  have mkS : ∀ w', Below w.heap.size w w' → (Below w.heap.size w w' ∧ w'.cell? ⟨bl, 0, none⟩ = some (.slice ao n c) ∧ w'.cell? ⟨br, 0, none⟩ = some (.int .i64 u) ∧ w'.cell? ⟨br, 1, none⟩ = some (.int .i64 d) ∧ w'.cell? ⟨bp, 0, none⟩ = some (.int .i64 p)) := fun w' hb => ⟨hb, keepC hb b1 c1, keepC hb b2 c2, keepC hb b2 c3, keepC hb b3 c4⟩
  have hd : Below w.heap.size w w.drew := (Below.refl _ _).drew
  go_enter Try.func23, Try.ntmps23
  go_wp2_with fail
  go_region_held3 (fun w' => Below w.heap.size w w' ∧ w'.cell? ⟨bl, 0, none⟩ = some (.slice ao n c) ∧ w'.cell? ⟨br, 0, none⟩ = some (.int .i64 u) ∧ w'.cell? ⟨br, 1, none⟩ = some (.int .i64 d) ∧ w'.cell? ⟨bp, 0, none⟩ = some (.int .i64 p))
    (first | exact mkS _ hbn | exact mkS _ hd)
    (first
      | (go_at_call 17; refine (HT _ ?_).mono ?_; (first | exact hd | exact hbn); rintro e wa ⟨rfl, hba⟩; have hbn : Below w.heap.size w wa := hd.trans (hba.mono hd.size))
      | (go_at_call 20; refine (HS _).mono ?_; rintro e wb ⟨rfl, hbb⟩; have hbn := hbn.trans (hbb.mono hbn.size)))
  all_goals
    go_wp2_with fail
    go_ret
    exact ⟨rfl, hbn⟩
end Go.Proofs.Ytmccbokjigjpnae.F
