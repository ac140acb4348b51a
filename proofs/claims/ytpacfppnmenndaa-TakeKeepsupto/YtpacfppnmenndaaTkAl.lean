/- alive. -/
import Derived.Test.YtpacfppnmenndaaTkUn2
import Derived.Test.YtpacfppnmenndaaTkKeep2
namespace Go.Proofs.Ytpacfppnmenndaa.Tk
open Go.RowKit Go.Maps Go.Sort Go.Proofs.Ytpacfppnmenndaa.Rg
open Go.Proofs.Ytpacfppnmenndaa.Y (Tn lt okT wr fst cod bfr OkL TL tab tc rows)
set_option linter.unusedVariables false
set_option linter.unusedSimpArgs false

def xA : Sp := ⟨false, ⟨1, 0, ⟨0, 1, 0, 0, 0⟩⟩, 0, 0, 0⟩
theorem wtA : wt ⟨0, 1, 0, 0, 0⟩ = 0 := by
  unfold wt
  rw [if_neg (by decide), if_neg (by decide)]
theorem rosA : ros (new (List.replicate 8 0), ⟨List.replicate 8 0, -1⟩) [xA] = [⟨0, 0, [⟨0, 1, 0, 0, 0⟩]⟩] := by
  have hk := KS.new 8 (-1)
  have hb : (new (List.replicate 8 0)).br = false := rfl
  obtain ⟨g1, g2⟩ := hk.g rfl
  generalize new (List.replicate 8 0) = s at *
  obtain ⟨h, d, b⟩ := s
  obtain rfl : h = ⟨[], 0⟩ := g1
  obtain rfl : d = 0 := g2
  obtain rfl : b = false := hb
  have he : er ⟨[], 0⟩ xA.e = 0 := by
    rw [er_put rfl]
    show (if wt ⟨0, 1, 0, 0, 0⟩ ≠ 0 then wt ⟨0, 1, 0, 0, 0⟩ else _) = 0
    rw [wtA]; rfl
  have hd : doe ⟨⟨[], 0⟩, 0, false⟩ ⟨List.replicate 8 0, -1⟩ xA.e = (0, ⟨nx ⟨[], 0⟩ xA.e, 1, false⟩, ⟨(pts (pl 0 (rc xA.e)) (List.replicate 8 0) (-1)).1.1, (pts (pl 0 (rc xA.e)) (List.replicate 8 0) (-1)).1.2⟩) := by
    unfold doe
    rw [if_neg (by decide), if_neg (fun h => h he), if_neg (fun h => h ⟨by decide, by decide⟩)]
    show (if (pts (pl 0 (rc xA.e)) (List.replicate 8 0) (-1)).2 = true then _ else _) = _
    rw [if_pos (by rfl)]
    rfl
  have hs : stp (⟨⟨[], 0⟩, 0, false⟩, ⟨List.replicate 8 0, -1⟩) xA = doe ⟨⟨[], 0⟩, 0, false⟩ ⟨List.replicate 8 0, -1⟩ xA.e := rfl
  show [out1 (stp (⟨⟨[], 0⟩, 0, false⟩, ⟨List.replicate 8 0, -1⟩) xA).1 (stp (⟨⟨[], 0⟩, 0, false⟩, ⟨List.replicate 8 0, -1⟩) xA).2.1] = _
  rw [hs, hd]
  rfl
theorem makeW (n : Nat) (hn : n ≤ 1048576) (W : World) : (Instr.makeSlice 22 (.int .i64 n) (.int .i64 n)).run Try.prog W = .ok (.slice (some ⟨W.heap.size, 0, none⟩) n n) (W.alloc (.cells (madeCells #[.int .i64 0] n) 2)) := by
  obtain ⟨i0, hi, hz0, hz1, hz2⟩ := info_of infoW
  have := run_make (P := Try.prog) W 22 2 i0 (.int .i64 0) Try.underlying22 hi hz0 .i64 .i64 n n (by omega) (Int.le_refl _) (by rw [hz2]; omega) (by omega)
  rw [hz1, Nat.mul_one] at this
  exact this
theorem OR.at' {w : World} {S : Nat → Prop} {base : Nat} {v : Value} {R : List Tk} (h : OR w S base v R) (j : Nat) (r : Tk) (hj : R[j]? = some r) :
    ∃ g cap ao c, v = .slice (some ⟨g, 0, none⟩) R.length cap ∧ g < w.heap.size ∧ R.length ≤ cap ∧ cap ≤ 9223372036854775807 ∧ w.cell? ⟨g, j * 3, none⟩ = some (.int .i64 r.er) ∧ w.cell? ⟨g, j * 3 + 1, none⟩ = some (.int .i64 r.te) ∧ w.cell? ⟨g, j * 3 + 2, none⟩ = some (.slice ao r.l.length c) ∧ r.l.length ≤ c ∧ c ≤ 9223372036854775807 ∧ (ao = none → c = 0) ∧ LN w S ao r.l := by
  obtain ⟨Vs, h1, h2⟩ := h.ex
  have hjl : j < R.length := (List.getElem?_eq_some_iff.1 hj).1
  rcases id h1.2 with ⟨rfl, e⟩ | ⟨g, cap, cur, rfl, e2, e3, e4, hm, rest⟩
  · omega
  · obtain ⟨ao, c, k0, k1, k2, k3, k4, k5, k6⟩ := h2 j r hj
    exact ⟨g, cap, ao, c, rfl, (Array.getElem?_eq_some_iff.1 e3).1, e4, by unfold maxLen at hm; omega, (World.ownsRow.cellAt h1 (j * 3) (by omega)).trans k0, (World.ownsRow.cellAt h1 (j * 3 + 1) (by omega)).trans k1, (World.ownsRow.cellAt h1 (j * 3 + 2) (by omega)).trans k2, k3, k4, k5, k6⟩
theorem IL_made (n : Nat) (W W' : World) (hb : Below (W.heap.size + 1) (W.alloc (.cells (madeCells #[.int .i64 0] n) 2)) W') : IL W' (fun b => b < W'.heap.size) (some ⟨W.heap.size, 0, none⟩) (List.replicate n 0) := by
  have hr := World.rowIs_made W (.int .i64 0) n 2
  have hz : (W.alloc (.cells (madeCells #[.int .i64 0] n) 2)).heap.size = W.heap.size + 1 := by simp
  have hzz := hb.size
  refine ⟨fun _ => ⟨W.heap.size, 0, rfl, by omega, by omega, fun j x hj => ?_⟩⟩
  rw [List.getElem?_replicate] at hj
  split at hj
  · rename_i hjn
    cases hj
    rw [Nat.zero_add]
    exact blk (hb.block W.heap.size (by omega)) (World.rowIs.cell hr hjn)
  · cases hj
set_option maxRecDepth 20000 in
set_option maxHeartbeats 4000000 in
theorem alive_any (w : World) :
    Calls Try.prog 10 #[] w fun e w' => e = .returned (.bool true) ∧ Below w.heap.size w w' := by
  obtain ⟨W1, hW1⟩ : ∃ X, X = w.alloc (.cells (madeCells #[.int .i64 0] 8) 2) := ⟨_, rfl⟩
  obtain ⟨W2, hW2⟩ : ∃ X, X = W1.alloc (.cells #[.bool false, .int .i64 1, .int .i64 0, .int .i64 0, .int .i64 1, .int .i64 0, .int .i64 0, .int .i64 0, .int .i64 0, .int .i64 0, .int .i64 0] 44) := ⟨_, rfl⟩
  have z1 : W1.heap.size = w.heap.size + 1 := by rw [hW1]; simp
  have hb1 : Below w.heap.size w W1 := by rw [hW1]; exact (Below.refl _ _).alloc (Nat.le_refl _) _
  have hb2 : Below W1.heap.size W1 W2 := by rw [hW2]; exact (Below.refl _ _).alloc (Nat.le_refl _) _
  have hI : IL W2 (fun b => b < W2.heap.size) (some ⟨w.heap.size, 0, none⟩) (List.replicate 8 0) := IL_made 8 w W2 (by rw [← hW1, ← z1]; exact hb2)
  have hS : SCL W2 (some ⟨w.heap.size + 1, 0, none⟩) [xA] := ⟨fun j x hj => by
    have h0 : j = 0 := by have := (List.getElem?_eq_some_iff.1 hj).1; simp at this; exact this
    subst h0
    simp at hj
    subst hj
    refine ⟨w.heap.size + 1, 0, rfl, by rw [hW2]; simp [z1], ?_⟩
    rw [← z1, hW2]
    refine ⟨?_, ?_, ?_, ?_, ?_, ?_, ?_, ?_, ?_, ?_, ?_⟩ <;> simp [go_sem, xA]⟩
  have hTk := Take_any (List.replicate 8 0) (some ⟨w.heap.size, 0, none⟩) (some ⟨w.heap.size + 1, 0, none⟩) 8 8 1 1 [xA] W2 hI rfl (by omega) (fun h => by cases h) hS rfl (by omega) (by omega) (by omega) (by omega)
  have HB : Hid (Below w.heap.size w W2) := hb1.trans (hb2.mono hb1.size)
  have hMk := makeW 8 (by omega) w
  rw [← hW1] at hMk
  have HMk : Hid ((Instr.makeSlice 22 (.int .i64 8) (.int .i64 8)).run Try.prog w = .ok (.slice (some ⟨w.heap.size, 0, none⟩) 8 8) W1) := hMk
  have HW2 : Hid (W2 = W1.alloc (.cells #[.bool false, .int .i64 1, .int .i64 0, .int .i64 0, .int .i64 1, .int .i64 0, .int .i64 0, .int .i64 0, .int .i64 0, .int .i64 0, .int .i64 0] 44)) := hW2
  clear hW1 hb1 hb2 hI hS hMk hW2
  obtain ⟨Q, hQ⟩ : ∃ Q : Ending → World → Prop, Q = fun e w' => e = .returned (.bool true) ∧ Below w.heap.size w w' := ⟨_, rfl⟩
  rw [← hQ]
  have HQ : Hid (Q = fun e w' => e = .returned (.bool true) ∧ Below w.heap.size w w') := hQ
  clear hQ
  go_enter Try.func10, Try.ntmps10
  go_wp2_with (at_make; refine wpList_make_run _ rfl _ _ 22 rfl _ _ HMk.out ?_)
  rw [← HW2.out]
  refine hTk.mono ?_
  rintro e w3 hq
  obtain ⟨base, v, wo, cap, rfl, hbz, hO, hc1, hc2, hcl⟩ := hq.o
  rw [rosA] at hO
  obtain ⟨g, cp, ao, c, rfl, hg, hcp, hcp2, g0, g1, g2, hc3, hc4, hc5, hLN⟩ := hO.at' 0 _ rfl
  have HB3 : Hid (Below w.heap.size w w3) := HB.out.trans (hq.b.mono HB.out.size)
  have G0 : w3.cell? ⟨g, 0, none⟩ = some (.int .i64 0) := by simpa using g0
  have G2 : w3.cell? ⟨g, 2, none⟩ = some (.slice ao 1 c) := by simpa using g2
  have hcp3 : 1 ≤ cp := by simpa using hcp
  clear hTk hq hO hLN hcl g0 g1 g2 hc1 hc2 hbz HMk HW2 hcp
  have hst : Q (.returned (.bool true)) w3 := by rw [HQ.out]; exact ⟨rfl, HB3.out⟩
  go_wp2_with fail
  exact hst
end Go.Proofs.Ytpacfppnmenndaa.Tk
