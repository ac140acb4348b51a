/- MixBlocks: what is cut, and what stands in all pieces. -/
import Derived.Test.YtdlcnbfiklbiiaaMx12
import Derived.Test.YtdlcnbfiklbiiaaMx4
namespace Go.Proofs.Ytdlcnbfiklbiiaa.Mx
open Go.RowKit Go.Maps Go.Sort
set_option linter.unusedVariables false
set_option linter.unusedSimpArgs false

/-- While pieces are cut. -/
structure CB (l : List Int) (ps : List (List Int)) (L : List Int) : Prop where
  all : ps.flatten ++ L = l
theorem CB.cut {l : List Int} {ps : List (List Int)} {L : List Int} (h : CB l ps L) (n : Nat) : CB l (ps ++ [L.take n]) (L.drop n) := ⟨by
  rw [List.flatten_append, List.append_assoc]
  show ps.flatten ++ ((L.take n ++ []) ++ L.drop n) = l
  rw [List.append_nil, List.take_append_drop]; exact h.all⟩
theorem CB.len {l : List Int} {ps : List (List Int)} {L : List Int} (h : CB l ps L) : L.length ≤ l.length ∧ ∀ p ∈ ps, p.length ≤ l.length := by
  have h1 : l.length = ps.flatten.length + L.length := by rw [← h.all, List.length_append]
  refine ⟨by omega, fun p hp => ?_⟩
  have : p.length ≤ ps.flatten.length := List.Sublist.length_le (List.sublist_flatten_of_mem hp)
  omega

set_option maxHeartbeats 2000000 in
theorem Same_q (w : World) (S S' : Nat → Prop) (ao bo : Option Addr) (g : List Int) (m c d : Nat) (ha : IL w S ao g) (hb : IL w S' bo g) (hg : g.length = m) (mc1 : m ≤ c) (mc2 : c ≤ 9223372036854775807) (md1 : m ≤ d) (md2 : d ≤ 9223372036854775807) :
    Calls Try.prog 11 #[.slice ao m c, .slice bo m d] w fun e w' => e = .returned (.bool true) ∧ ∃ q, w' = w.drewN q := by
  have HA : Hid (IL w S ao g) := ha
  have HB : Hid (IL w S' bo g) := hb
  have HG : Hid (g.length = m) := hg
  clear ha hb hg
  go_enter Try.func11, Try.ntmps11
  go_wp2_with fail
  go_loopw [13] (fun i ww => ∃ k q : Nat, k ≤ m ∧ i = .int .i64 k ∧ ww = w.drewN q) (fun i _ => m - (intOf i).toNat)
  case atStart => exact ⟨0, 0, by omega, rfl, rfl⟩
  case round =>
    obtain ⟨k, q, hk, rfl, rfl⟩ := hrel
    by_cases hlt : k < m
    · obtain ⟨na, oa, rfl, la, _, ga⟩ := HA.out.at' (by rw [HG.out]; omega)
      obtain ⟨nb, ob, rfl, lb, _, gb⟩ := HB.out.at' (by rw [HG.out]; omega)
      obtain ⟨x, hx⟩ : ∃ x, g[k]? = some x := ⟨_, List.getElem?_eq_getElem (by rw [HG.out]; exact hlt)⟩
      have ca := ga k x hx
      have cb := gb k x hx
      have hlt' : (k : Int) < (m : Int) := by omega
      have w3 : IntKind.i64.wrap ((k : Int) + 1) = (k : Int) + 1 := wid (by omega) (by omega)
      clear ga gb hx
      go_wp2_with fail
      go_quiet (fail)
      go_wp2_with fail
      go_roundw
      case rel => exact ⟨k + 1, _, by omega, by go_num, rfl⟩
      case measure => simp [intOf]; omega
    · go_wp2_with fail
      go_ret
      exact ⟨rfl, q, rfl⟩
/-- In all pieces so far nothing was too great. -/
theorem ok_step {ps : List (List Int)} {k : Nat} {p : List Int} (hx : ps[k]? = some p) (h : (ps.take k).all (inR mS) = true) (h2 : inR mS p = true) : (ps.take (k + 1)).all (inR mS) = true := by
  rw [take_one hx, List.all_append, h]; simp [h2]
theorem flat_no {ps : List (List Int)} {k : Nat} {p : List Int} (hx : ps[k]? = some p) (h : inR mS p = false) : inR mS ps.flatten = false := by
  rw [inR_flat]
  cases hc : ps.all (inR mS) with
  | false => rfl
  | true => rw [List.all_eq_true.1 hc p (List.mem_of_getElem? hx)] at h; cases h
/-- All samples of the pieces ahead of place k. -/
def alls (z : Dt) (ps : List (List Int)) (k : Nat) : List Int := outs z (ps.take k).flatten
theorem alls_step (z : Dt) {ps : List (List Int)} {k : Nat} {p : List Int} (hx : ps[k]? = some p) (h : (ps.take k).all (inR mS) = true) (h2 : inR mS p = true) : alls z ps (k + 1) = alls z ps k ++ (prr (stn z (ps.take k)) p).l := by
  unfold alls
  rw [take_one hx, List.flatten_append, outs_app, stn_flat _ _ (by rw [inR_flat]; exact h)]
  have e : (prr (sts z (ps.take k).flatten) p).l = outs (sts z (ps.take k).flatten) p := by unfold prr; rw [if_pos h2]
  rw [e]; simp
theorem last_pr (z : Dt) {ps : List (List Int)} {L : List Int} (h : inR mS (ps ++ [L]).flatten = true) : (prr (stn z ps) L).loud = (sts z (ps ++ [L]).flatten).loud ∧ (prr (stn z ps) L).clip = (sts z (ps ++ [L]).flatten).clip := by
  have h1 : inR mS (ps ++ [L]).flatten = true := h
  rw [inR_flat, List.all_append, Bool.and_eq_true] at h1
  have h2 : inR mS L = true := by simpa using h1.2
  have e : stn z ps = sts z ps.flatten := stn_flat _ _ (by rw [inR_flat]; exact h1.1)
  have e2 : (ps ++ [L]).flatten = ps.flatten ++ L := by simp
  unfold prr
  rw [if_pos h2, e, e2, sts_app]
  exact ⟨rfl, rfl⟩
theorem last_get (z : Dt) (ps : List (List Int)) (L : List Int) : (dth z (ps ++ [L]))[ps.length]? = some (prr (stn z ps) L) := by
  rw [dth_app, List.getElem?_append_right (by rw [dth_len]; exact Nat.le_refl _), dth_len]
  simp [dth]
/-- What has come in, less what has gone out, is within one step. -/
theorem step_in {z : Nat} (hz : z < 4294967296) {l : List Int} (hc : (sts (new z) l).clip = 0) (hl : l.length ≤ 1048576) (k : Nat) (hk : k ≤ l.length) :
    -4503599627370496 ≤ sm (l.take k) ∧ sm (l.take k) ≤ 4503599627370496 ∧ -4503599627370496 ≤ 65536 * sm ((outs (new z) l).take k) ∧ 65536 * sm ((outs (new z) l).take k) ≤ 4503599627370496 ∧ -65536 < sm (l.take k) - 65536 * sm ((outs (new z) l).take k) ∧ sm (l.take k) - 65536 * sm ((outs (new z) l).take k) < 65536 := by
  have h1 : (sts (new z) (l.take k)).clip = 0 := take_ok (s := new z) hc k
  obtain ⟨a1, a2, a3⟩ := all_ok (new_gd hz) (l.take k) h1
  have g := sts_gd (new_gd hz) (l.take k)
  have g1 := g.r1
  have g2 := g.r2
  rw [outs_take]
  have hlk : (l.take k).length = k := by rw [List.length_take]; omega
  rw [hlk] at a2 a3
  have b := sm_bd (m := 32768) (l := outs (new z) (l.take k)) (fun y hy => by have := outs_bd _ _ y hy; omega)
  rw [outs_len, hlk] at b
  have e : (new z).rest = 0 := rfl
  rw [e] at a1
  omega
theorem sm_step {l : List Int} {k : Nat} {x : Int} (h : l[k]? = some x) : sm (l.take (k + 1)) = sm (l.take k) + x := by
  rw [take_one h, sm_app]; show _ + (x + 0) = _; omega
end Go.Proofs.Ytdlcnbfiklbiiaa.Mx
