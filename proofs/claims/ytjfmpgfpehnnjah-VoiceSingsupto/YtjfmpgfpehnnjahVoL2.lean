/- VoiceSings: the law's text, walked. -/
import Derived.Test.YtjfmpgfpehnnjahVo14
namespace Go.Proofs.Ytjfmpgfpehnnjah.Vo
open Go.RowKit Go.Maps Go.Sort
set_option linter.unusedSimpArgs false
set_option linter.unusedVariables false

/-- What lies at place j of both rows. -/
theorem SO.at' {w : World} {base : Nat} {v u : Value} {R : List Rw} (h : SO w base v u R) {j : Nat} {r : Rw} (hj : R[j]? = some r) : ∃ g c g' c' xa xc, v = .slice (some ⟨g, 0, none⟩) R.length c ∧ u = .slice (some ⟨g', 0, none⟩) R.length c' ∧ R.length ≤ c ∧ c ≤ 9223372036854775807 ∧ R.length ≤ c' ∧ c' ≤ 9223372036854775807 ∧ g < w.heap.size ∧ g' < w.heap.size ∧ w.cell? ⟨g, j, none⟩ = some (.slice xa r.m xc) ∧ w.cell? ⟨g', j, none⟩ = some (.int .i64 r.e) ∧ FSl w (Sc base w v u) (.slice xa r.m xc) r.m r.f := by
  have hjl : j < R.length := (List.getElem?_eq_some_iff.1 hj).1
  obtain ⟨Vs, h1, h2, h3⟩ := h.ex
  obtain ⟨x, x1, x2⟩ := h3 j r hj
  obtain ⟨xa, xc, x3, _⟩ := x2.ex
  have her := h.er
  rcases h1.2 with ⟨e1, e2⟩ | ⟨g, cap, cur, e1, e2, e3, e4, hm, rest⟩
  · omega
  rcases her.2 with ⟨f1, f2⟩ | ⟨g', cap', cur', f1, f2, f3, f4, hm', rest'⟩
  · omega
  have c1 := World.ownsRow.cellAt (e1 ▸ h1) j (by omega)
  have c2 := World.ownsRow.cellAt (f1 ▸ her) j (by omega)
  refine ⟨g, cap, g', cap', xa, xc, e1, f1, e4, by unfold maxLen at hm; omega, f4, by unfold maxLen at hm'; omega, (Array.getElem?_eq_some_iff.1 e3).1, (Array.getElem?_eq_some_iff.1 f3).1, ?_, ?_, ?_⟩
  · rw [← x3]; exact c1.trans x1
  · rw [c2, List.getElem?_map, hj]; rfl
  · rw [← x3]; exact x2
theorem row1_m (p : Pt) (T : Nat) (o : Option Nat) (n : Int) : (row1 p T o n).m ≤ 65536 := by
  unfold row1
  generalize pl n = q
  by_cases c : q < 0 ∨ 65536 < q
  · rw [if_pos c]; exact Nat.zero_le _
  · rw [if_neg c]; show q.toNat ≤ 65536; omega
theorem rws_m (p : Pt) (l : List Int) (k j : Nat) (r : Rw) (h : (rws p l k)[j]? = some r) : r.m ≤ 65536 := by
  have hj : j < k := by have := (List.getElem?_eq_some_iff.1 h).1; rw [rws_len] at this; exact this
  rw [rws_get p l k j hj] at h
  cases h
  exact row1_m _ _ _ _
set_option maxHeartbeats 4000000 in
theorem sings_walk (p : Pt) (hg : p.gain < 18446744073709551616) (hst : p.step < 4294967296) (l : List Int) (ao : Option Addr) (c : Nat) (w : World) (hL : NL w ao l) (hc : l.length ≤ c) (hcm : c ≤ 9223372036854775807) (hl : l.length ≤ 1048576) :
    Calls Try.prog 7 #[pv p, .slice ao l.length c] w fun e w' => e = .returned (.bool true) ∧ Below w.heap.size w w' := by
  have q1 := fun (w' : World) (h : NL w' ao l) => Sing_any circle_any p hg hst l ao c w' h hc hcm hl
  have q2 := fun (w' : World) (h : NL w' ao l) => refSing_any p hg hst l ao c w' h hc hcm hl
  have HL : Hid (NL w ao l) := hL
  clear hL
  by_cases hz : wr p = 0
  · have q1' : ∀ (w' : World), NL w' ao l → Calls Try.prog 14 #[pv p, .slice ao l.length c] w' fun e w'' => ∃ v u base, e = .returned (.tuple #[v, u, .int .i64 0]) ∧ Hid (SO w'' base v u (rws p l l.length)) ∧ w'.heap.size ≤ base ∧ Below w'.heap.size w' w'' := fun w' h => (q1 w' h).mono fun e w'' hq => by
      obtain ⟨v, u, base, h1, h2, h3⟩ := hq.ok hz
      exact ⟨v, u, base, h1, h3, h2, hq.b⟩
    have q2' : ∀ (w' : World), NL w' ao l → Calls Try.prog 15 #[pv p, .slice ao l.length c] w' fun e w'' => ∃ v u base, e = .returned (.tuple #[v, u, .int .i64 0]) ∧ Hid (SO w'' base v u (rws p l l.length)) ∧ w'.heap.size ≤ base ∧ Below w'.heap.size w' w'' := fun w' h => (q2 w' h).mono fun e w'' hq => by
      obtain ⟨v, u, base, h1, h2, h3⟩ := hq.ok hz
      exact ⟨v, u, base, h1, h3, h2, hq.b⟩
    have HM : Hid (∀ (j : Nat) (r : Rw), (rws p l l.length)[j]? = some r → r.m ≤ 65536) := fun j r h => rws_m p l l.length j r h
    have hrl := rws_len p l l.length
    generalize rws p l l.length = R at *
    clear q1 q2 hz
    go_enter Try.func7, Try.ntmps7
    go_wp2_with fail
    have hbA : Below w.heap.size w (w.alloc (Obj.cells #[.int .i64 p.shape, .int .u32 p.step, .float .f64 p.gain, .int .i64 p.atk, .int .i64 p.dec, .int .i64 p.rel, .int .i64 p.sus] 49)) := (Below.refl _ _).alloc (Nat.le_refl _) _
    refine (q1' _ (HL.out.bel hbA)).mono ?_
    rintro e w1 ⟨v, u, base, rfl, hS1, hB1, hb1⟩
    have hb01 : Below w.heap.size w w1 := hbA.trans (hb1.mono (by simp))
    have z1 : w.heap.size < w1.heap.size := by have := hb1.size; simp at this; omega
    have HP1 : Hid (PB w1 w.heap.size p) := ⟨keepC hb1 (by simp) (by simp [go_sem]), keepC hb1 (by simp) (by simp [go_sem]), keepC hb1 (by simp) (by simp [go_sem]), keepC hb1 (by simp) (by simp [go_sem]), keepC hb1 (by simp) (by simp [go_sem]), keepC hb1 (by simp) (by simp [go_sem]), keepC hb1 (by simp) (by simp [go_sem]), z1⟩
    have p0 := HP1.out.c0
    have p1 := HP1.out.c1
    have p2 := HP1.out.c2
    have p3 := HP1.out.c3
    have p4 := HP1.out.c4
    have p5 := HP1.out.c5
    have p6 := HP1.out.c6
    obtain ⟨va, vc, ua, uc, rfl, _, _, rfl, _, _⟩ := hS1.out.form
    clear hb1 q1' hbA
    go_wp2_with fail
    refine (q2' _ (HL.out.bel hb01)).mono ?_
    rintro e w2 ⟨v, u, base2, rfl, hS2, hB2, hb2⟩
    obtain ⟨xa, xc, ya, yc, rfl, _, _, rfl, _, _⟩ := hS2.out.form
    have HS1 : Hid (SO w2 base (.slice va R.length vc) (.slice ua R.length uc) R) := hS1.out.step (fun j _ hj => hb2.block j hj) hb2.size
    have hb02 : Below w.heap.size w w2 := hb01.trans (hb2.mono (by omega))
    clear hS1 q2' hb2 p0 p1 p2 p3 p4 p5 p6 HP1 hb01
    have HRl : Hid (R.length = l.length) := hrl
    have HS2 : Hid (SO w2 base2 (.slice xa R.length xc) (.slice ya R.length yc) R) := hS2
    clear hS2
    rw [hrl] at HS1 HS2
    rw [hrl]
    clear hrl
    generalize l.length = n at *
    go_wp2_with fail
    go_loopw [45] (fun i ww => ∃ k : Nat, k ≤ n ∧ i = .int .i64 k ∧ Below w.heap.size w ww ∧ Below w2.heap.size w2 ww) (fun i _ => n - (intOf i).toNat)
    case atStart => exact ⟨0, by omega, rfl, hb02, Below.refl _ _⟩
    case round =>
      obtain ⟨k, hk, rfl, hbr, hbq⟩ := hrel
      by_cases hlt : k < n
      · obtain ⟨r, hr⟩ : ∃ r, R[k]? = some r := ⟨_, List.getElem?_eq_getElem (by rw [HRl.out]; exact hlt)⟩
        have T1 := HS1.out.step (w' := wr) (fun j _ hj => hbq.block j hj) hbq.size
        have T2 := HS2.out.step (w' := wr) (fun j _ hj => hbq.block j hj) hbq.size
        obtain ⟨g1, c1, h1, d1, xa1, xc1, e1, e2, b1, b2, b3, b4, b5, b6, k1, k2, k3⟩ := T1.at' hr
        obtain ⟨g2, c2, h2, d2, xa2, xc2, e3, e4, b1', b2', b3', b4', b5', b6', k4, k5, k6⟩ := T2.at' hr
        have hm := HM.out k r hr
        rw [HRl.out] at e1 e2 e3 e4 b1 b3 b1' b3'
        cases e1
        cases e2
        cases e3
        cases e4
        have hq := fun (w' : World) (h : Below wr.heap.size wr w') => SameAll_eq w' _ _ xa1 xa2 r.m xc1 xc2 r.f (k3.keep (fun q hq => h.block q hq.2.1) (fun q hq => hq)) (k6.keep (fun q hq => h.block q hq.2.1) (fun q hq => hq)) (by omega)
        have cS : ∀ dd os, Calls Try.prog 16 #[.slice xa1 r.m xc1, .slice xa2 r.m xc2] (grow (redrawn wr dd) os) fun e w'' => e = .returned (.bool true) ∧ ∃ p : Regrown, w'' = grow (redrawn wr p.d) p.os := fun dd os => Calls.regrown_of (hq _ (below_regrown wr dd os))
        have y1 := cell_regrown k1
        have y2 := cell_regrown k2
        have y4 := cell_regrown k4
        have y5 := cell_regrown k5
        have hlt' : (k : Int) < (n : Int) := by omega
        have w3 : IntKind.i64.wrap ((k : Int) + 1) = (k : Int) + 1 := wid (by omega) (by omega)
        clear T1 T2 k1 k2 k3 k4 k5 k6 hq hr HM HS1 HS2
        generalize r.m = rm at *
        generalize r.e = re at *
        go_wp2_with fail
        refine wp_region_quiet_below (by kernel_rfl) (by kernel_rfl) ?_
        repeat (go_big_quiet_step (exact cS _ _))
        refine wpQuiet_nil ?_
        rintro w4 ⟨⟨dq, osq⟩, hw4⟩
        have hb4 : Below wr.heap.size wr w4 := by rw [hw4]; exact below_regrown wr dq osq
        clear hw4 cS y1 y2 y4 y5
        go_wp2_with fail
        go_roundw
        case rel => exact ⟨k + 1, by omega, by go_num, hbr.trans (hb4.mono hbr.size), hbq.trans (hb4.mono hbq.size)⟩
        case measure => simp [intOf]; omega
      · go_wp2_with fail
        go_ret
        exact ⟨rfl, hbr⟩
  · have q1' : ∀ (w' : World), NL w' ao l → Calls Try.prog 14 #[pv p, .slice ao l.length c] w' fun e w'' => e = .returned (.tuple #[.slice none 0 0, .slice none 0 0, .int .i64 (wr p)]) ∧ Below w'.heap.size w' w'' := fun w' h => (q1 w' h).mono fun e w'' hq => ⟨hq.bad hz, hq.b⟩
    have q2' : ∀ (w' : World), NL w' ao l → Calls Try.prog 15 #[pv p, .slice ao l.length c] w' fun e w'' => e = .returned (.tuple #[.slice none 0 0, .slice none 0 0, .int .i64 (wr p)]) ∧ Below w'.heap.size w' w'' := fun w' h => (q2 w' h).mono fun e w'' hq => ⟨hq.bad hz, hq.b⟩
    clear q1 q2 hz
    generalize wr p = WR at *
    go_enter Try.func7, Try.ntmps7
    go_wp2_with fail
    have hbA : Below w.heap.size w (w.alloc (Obj.cells #[.int .i64 p.shape, .int .u32 p.step, .float .f64 p.gain, .int .i64 p.atk, .int .i64 p.dec, .int .i64 p.rel, .int .i64 p.sus] 49)) := (Below.refl _ _).alloc (Nat.le_refl _) _
    refine (q1' _ (HL.out.bel hbA)).mono ?_
    rintro e w1 ⟨rfl, hb1⟩
    have hb01 : Below w.heap.size w w1 := hbA.trans (hb1.mono (by simp))
    have z1 : w.heap.size < w1.heap.size := by have := hb1.size; simp at this; omega
    have HP1 : Hid (PB w1 w.heap.size p) := ⟨keepC hb1 (by simp) (by simp [go_sem]), keepC hb1 (by simp) (by simp [go_sem]), keepC hb1 (by simp) (by simp [go_sem]), keepC hb1 (by simp) (by simp [go_sem]), keepC hb1 (by simp) (by simp [go_sem]), keepC hb1 (by simp) (by simp [go_sem]), keepC hb1 (by simp) (by simp [go_sem]), z1⟩
    have p0 := HP1.out.c0
    have p1 := HP1.out.c1
    have p2 := HP1.out.c2
    have p3 := HP1.out.c3
    have p4 := HP1.out.c4
    have p5 := HP1.out.c5
    have p6 := HP1.out.c6
    clear hb1 q1' hbA
    go_wp2_with fail
    refine (q2' _ (HL.out.bel hb01)).mono ?_
    rintro e w2 ⟨rfl, hb2⟩
    have hb02 : Below w.heap.size w w2 := hb01.trans (hb2.mono (by omega))
    clear q2' hb2 p0 p1 p2 p3 p4 p5 p6 HP1 hb01
    go_wp2_with fail
    go_loopw [45] (fun i ww => i = .int .i64 0 ∧ Below w.heap.size w ww) (fun _ _ => 0)
    case atStart => exact ⟨rfl, hb02⟩
    case round =>
      obtain ⟨rfl, hbr⟩ := hrel
      go_wp2_with fail
      go_ret
      exact ⟨rfl, hbr⟩
end Go.Proofs.Ytjfmpgfpehnnjah.Vo
