/- VoiceEnds: the law's text, walked. -/
import Derived.Test.YtjfmpgfpehnnjaiVoL2
namespace Go.Proofs.Ytjfmpgfpehnnjai.Vo
open Go.RowKit Go.Maps Go.Sort
set_option linter.unusedSimpArgs false
set_option linter.unusedVariables false

theorem one_eq : (FloatKind.f64.format.order 4607182418800017408 4607182418800017408 == some .eq) = true := by decide +kernel
theorem alive_any (w : World) : Calls Try.prog 7 #[] w fun e w' => e = .returned (.bool true) ∧ Below w.heap.size w w' := by
  have q := Shape_any circle_any 3 0 w (by decide)
  rw [show shp 3 ((0 : Nat) : Int) = 4607182418800017408 from rfl, show she 3 = 0 from rfl] at q
  have h1 := one_eq
  go_enter Try.func7, Try.ntmps7
  go_wp2_with fail
  refine q.mono ?_
  rintro e w1 ⟨rfl, hb⟩
  go_wp2_with fail
  go_ret
  exact ⟨rfl, hb⟩
/-- A list that was just laid. -/
theorem NL.new (w : World) (l : List Int) (hl : ∀ x ∈ l, -9223372036854775808 ≤ x ∧ x ≤ 9223372036854775807) : NL (w.alloc (Obj.cells (l.map fun x => Value.int .i64 x).toArray 3)) (some ⟨w.heap.size, 0, none⟩) l := ⟨fun _ => ⟨w.heap.size, 0, rfl, by simp, fun j x hj => ⟨by
  have hjl : j < l.length := (List.getElem?_eq_some_iff.1 hj).1
  have : (w.alloc (Obj.cells (l.map fun x => Value.int .i64 x).toArray 3)).rowIs w.heap.size 3 (l.map fun x => Value.int .i64 x).toArray.size (fun i => Value.int .i64 (l.getD i 0)) := World.rowIs_alloc w _ 3 _ (fun i hi => by
    simp at hi
    simp [List.getD_eq_getElem?_getD, hi])
  have h2 := World.rowIs.cell this (i := j) (by simpa using hjl)
  rw [Nat.zero_add, h2, List.getD_eq_getElem?_getD, hj]; rfl, hl x (List.mem_of_getElem? hj)⟩⟩⟩
theorem row_in (p : Pt) (T : Nat) (o : Option Nat) (n : Nat) (hn : n ≤ 65536) : row1 p T o n = ⟨n, 0, fun i => S p o (T + i)⟩ ∧ pT T n = T + n ∧ po T o n = o := by
  have h1 : ¬ (n : Int) < 0 := by omega
  have h2 : pl n = n := if_neg h1
  have h3 : po T o n = o := if_neg h1
  have h4 : ¬ ((n : Int) < 0 ∨ 65536 < (n : Int)) := by omega
  refine ⟨?_, ?_, h3⟩
  · unfold row1; rw [h3, h2, if_neg h4, Int.toNat_natCast]
  · unfold pT; rw [h2, if_neg h4, Int.toNat_natCast]
theorem row_off (p : Pt) (T : Nat) (o : Option Nat) (n : Nat) (h0 : 1 ≤ n) (hn : n ≤ 65536) : row1 p T o (-(n : Int)) = ⟨n, 0, fun i => S p (off1 T o) (T + i)⟩ ∧ pT T (-(n : Int)) = T + n ∧ po T o (-(n : Int)) = off1 T o := by
  have h1 : -(n : Int) < 0 := by omega
  have h2 : pl (-(n : Int)) = n := by unfold pl; rw [if_pos h1, if_neg (by omega)]; omega
  have h3 : po T o (-(n : Int)) = off1 T o := if_pos h1
  have h4 : ¬ ((n : Int) < 0 ∨ 65536 < (n : Int)) := by omega
  refine ⟨?_, ?_, h3⟩
  · unfold row1; rw [h3, h2, if_neg h4, Int.toNat_natCast]
  · unfold pT; rw [h2, if_neg h4, Int.toNat_natCast]
/-- What comes of three pieces: held, let go for its Release, and more. -/
theorem three (p : Pt) (n r m : Nat) (hn : n ≤ 65536) (h0 : 1 ≤ r) (hr : r ≤ 65536) (hm : m ≤ 65536) :
    rws p [(n : Int), -(r : Int), (m : Int)] 3 = [⟨n, 0, fun i => S p none (0 + i)⟩, ⟨r, 0, fun i => S p (some n) (n + i)⟩, ⟨m, 0, fun i => S p (some n) (n + r + i)⟩] := by
  obtain ⟨a1, a2, a3⟩ := row_in p 0 none n hn
  obtain ⟨b1, b2, b3⟩ := row_off p n none r h0 hr
  obtain ⟨c1, c2, c3⟩ := row_in p (n + r) (some n) m hm
  have s1 : stT [(n : Int), -(r : Int), (m : Int)] 1 = n := by show pT 0 n = n; rw [a2]; omega
  have o1 : stO [(n : Int), -(r : Int), (m : Int)] 1 = none := a3
  have s2 : stT [(n : Int), -(r : Int), (m : Int)] 2 = n + r := by
    show pT (stT _ 1) (-(r : Int)) = n + r; rw [s1, b2]
  have o2 : stO [(n : Int), -(r : Int), (m : Int)] 2 = some n := by
    show po (stT _ 1) (stO _ 1) (-(r : Int)) = some n; rw [s1, o1, b3]; rfl
  show ((([] ++ [row1 p 0 none n]) ++ [row1 p (stT _ 1) (stO _ 1) (-(r : Int))]) ++ [row1 p (stT _ 2) (stO _ 2) (m : Int)]) = _
  rw [s1, o1, s2, o2, a1, b1, c1]
  rfl
theorem end_zero (p : Pt) (h : Ok p) (n i : Nat) (r : Nat) (hr : p.rel = r) : (FloatKind.f64.format.order (S p (some n) (n + r + i)) 0 != some .eq) = false := by
  have ho : Off (n + r + i) (some n) := fun k hk => by cases hk; omega
  obtain ⟨f1, _, f3⟩ := S_ok p h (some n) (n + r + i) ho
  have hl : lev p (n + r + i) (some n) = 0 := by
    rw [lev_some]; exact if_pos (by rw [hr]; omega)
  have hz := f3 hl
  have hv : Fl.va (S p (some n) (n + r + i)) = 0 := by
    have := Fl.va_abs (S p (some n) (n + r + i))
    rw [hz, show Fl.vl 0 = 0 by decide] at this; omega
  have ho2 := Fl.order_fi _ 0 f1 ⟨by decide, by decide⟩
  rw [hv, show Fl.va 0 = 0 by decide] at ho2
  show (Ieee.double.order _ 0 != some .eq) = false
  rw [ho2]; rfl
set_option maxHeartbeats 4000000 in
theorem ends_walk (p : Pt) (hg : p.gain < 18446744073709551616) (hst : p.step < 4294967296) (n more : Int) (w : World) :
    Calls Try.prog 4 #[pv p, .int .i64 n, .int .i64 more] w fun e w' => e = .returned (.bool true) ∧ Below w.heap.size w w' := by
  have hbA : Below w.heap.size w (w.alloc (Obj.cells #[.int .i64 p.shape, .int .u32 p.step, .float .f64 p.gain, .int .i64 p.atk, .int .i64 p.dec, .int .i64 p.rel, .int .i64 p.sus] 25)) := (Below.refl _ _).alloc (Nat.le_refl _) _
  by_cases hout : n < 0 ∨ n > 2000 ∨ p.rel < 1 ∨ p.rel > 2000 ∨ more < 0 ∨ more > 2000
  · have hout' : n < 0 ∨ (¬ n < 0 ∧ 2000 < n) ∨ (¬ n < 0 ∧ ¬ 2000 < n ∧ p.rel < 1) ∨ (¬ n < 0 ∧ ¬ 2000 < n ∧ ¬ p.rel < 1 ∧ 2000 < p.rel) ∨ (¬ n < 0 ∧ ¬ 2000 < n ∧ ¬ p.rel < 1 ∧ ¬ 2000 < p.rel ∧ more < 0) ∨ (¬ n < 0 ∧ ¬ 2000 < n ∧ ¬ p.rel < 1 ∧ ¬ 2000 < p.rel ∧ ¬ more < 0 ∧ 2000 < more) := by omega
    clear hout
    go_enter Try.func4, Try.ntmps4
    go_wp2_with fail
    refine (alive_any _).mono ?_
    rintro e w1 ⟨rfl, hb1⟩
    have hb01 : Below w.heap.size w w1 := hbA.trans (hb1.mono (by simp))
    have c5 := keepC hb1 (b := w.heap.size) (o := 5) (v := .int .i64 p.rel) (by simp) (by simp [go_sem])
    have z1 : w.heap.size < w1.heap.size := by have := hb1.size; simp at this; omega
    clear hb1 hbA
    rcases hout' with c | ⟨c, d⟩ | ⟨c, d, e⟩ | ⟨c, d, e, f⟩ | ⟨c, d, e, f, g⟩ | ⟨c, d, e, f, g, h⟩
    all_goals
      go_wp2_with fail
      go_ret
      exact ⟨rfl, hb01⟩
  · obtain ⟨N, rfl, hN⟩ : ∃ N : Nat, n = N ∧ N ≤ 2000 := ⟨n.toNat, by omega, by omega⟩
    obtain ⟨M, rfl, hM⟩ : ∃ M : Nat, more = M ∧ M ≤ 2000 := ⟨more.toNat, by omega, by omega⟩
    obtain ⟨Rr, hR, hR1, hR2⟩ : ∃ r : Nat, p.rel = r ∧ 1 ≤ r ∧ r ≤ 2000 := ⟨p.rel.toNat, by omega, by omega, by omega⟩
    have d1 : ¬ (N : Int) < 0 := by omega
    have d2 : ¬ (2000 : Int) < N := by omega
    have d3 : ¬ p.rel < 1 := by omega
    have d4 : ¬ (2000 : Int) < p.rel := by omega
    have d5 : ¬ (M : Int) < 0 := by omega
    have d6 : ¬ (2000 : Int) < M := by omega
    have hrw := three p N Rr M (by omega) hR1 (by omega) (by omega)
    have q := fun (w' : World) (ao : Option Addr) (h : NL w' ao [(N : Int), -(Rr : Int), (M : Int)]) => Sing_any circle_any p hg hst [(N : Int), -(Rr : Int), (M : Int)] ao 3 w' h (by simp) (by omega) (by simp)
    rw [← hR] at hrw q
    have HRR : Hid (p.rel = Rr) := hR
    have HE : Hid (Ok p → ∀ i, (FloatKind.f64.format.order (S p (some N) (N + Rr + i)) 0 != some .eq) = false) := fun h i => end_zero p h N i Rr hR
    have HOk : Hid (wr p = 0 → Ok p) := fun h => wr_ok hg h
    clear hout hR
    go_enter Try.func4, Try.ntmps4
    go_wp2_with fail
    refine (alive_any _).mono ?_
    rintro e w1 ⟨rfl, hb1⟩
    have hb01 : Below w.heap.size w w1 := hbA.trans (hb1.mono (by simp))
    have c0 := keepC hb1 (b := w.heap.size) (o := 0) (v := .int .i64 p.shape) (by simp) (by simp [go_sem])
    have c1 := keepC hb1 (b := w.heap.size) (o := 1) (v := .int .u32 p.step) (by simp) (by simp [go_sem])
    have c2 := keepC hb1 (b := w.heap.size) (o := 2) (v := .float .f64 p.gain) (by simp) (by simp [go_sem])
    have c3 := keepC hb1 (b := w.heap.size) (o := 3) (v := .int .i64 p.atk) (by simp) (by simp [go_sem])
    have c4 := keepC hb1 (b := w.heap.size) (o := 4) (v := .int .i64 p.dec) (by simp) (by simp [go_sem])
    have c5 := keepC hb1 (b := w.heap.size) (o := 5) (v := .int .i64 p.rel) (by simp) (by simp [go_sem])
    have c6 := keepC hb1 (b := w.heap.size) (o := 6) (v := .int .i64 p.sus) (by simp) (by simp [go_sem])
    have z1 : w.heap.size < w1.heap.size := by have := hb1.size; simp at this; omega
    clear hb1 hbA
    have HNL : Hid (NL (w1.alloc (Obj.cells #[.int .i64 (N : Int), .int .i64 (-p.rel), .int .i64 (M : Int)] 3)) (some ⟨w1.heap.size, 0, none⟩) [(N : Int), -p.rel, (M : Int)]) := NL.new w1 [(N : Int), -p.rel, (M : Int)] (fun x hx => by simp at hx; omega)
    have hbC : Below w1.heap.size w1 (w1.alloc (Obj.cells #[.int .i64 (N : Int), .int .i64 (-p.rel), .int .i64 (M : Int)] 3)) := (Below.refl _ _).alloc (Nat.le_refl _) _
    have hq := q _ _ HNL.out
    have hln : ([(N : Int), -p.rel, (M : Int)] : List Int).length = 3 := rfl
    rw [hln] at hq
    clear q hln
    go_wp2_with fail
    refine hq.mono ?_
    rintro e w2 hQ
    have hb02 : Below w.heap.size w w2 := hb01.trans ((hbC.mono (by omega)).trans (hQ.b.mono (by simp; omega)))
    clear hq hbC
    by_cases hz : wr p = 0
    · obtain ⟨v, u, base, rfl, hBs, hS⟩ := hQ.ok hz
      rw [show ([(N : Int), -p.rel, (M : Int)] : List Int).length = 3 from rfl, hrw] at hS
      have HE2 := HE.out (HOk.out hz)
      obtain ⟨g, c, g', c', xa, xc, rfl, rfl, f1, f2, f3, f4, f5, f6, f7, f8, f9⟩ := hS.at' (j := 2) rfl
      obtain ⟨xa', xc', e1, e2, e3, e4⟩ := f9.ex
      cases e1
      have HF : Hid (0 < M → ∃ nb of, xa = some ⟨nb, of, none⟩ ∧ ∀ i, i < M → w2.cell? ⟨nb, of + i, none⟩ = some (.float .f64 (S p (some N) (N + Rr + i)))) := fun h => by
        obtain ⟨nb, of, k1, _, k3⟩ := e4 h
        exact ⟨nb, of, k1, k3⟩
      simp only [List.length_cons, List.length_nil] at *
      clear hQ hS e4 f9 f8 HE HOk hz hrw HNL
      go_wp2_with fail
      go_loopw [67] (fun i ww => ∃ k : Nat, k ≤ M ∧ i = .int .i64 k ∧ ww = w2) (fun i _ => M - (intOf i).toNat)
      case atStart => exact ⟨0, by omega, rfl, rfl⟩
      case round =>
        obtain ⟨k, hk, rfl, hw⟩ := hrel
        subst hw
        by_cases hlt : k < M
        · obtain ⟨nb, of, rfl, k3⟩ := HF.out (by omega)
          have k4 := k3 k hlt
          have hz := HE2 k
          generalize S p (some N) (N + Rr + k) = X at *
          clear k3 HE2 HF
          have hlt' : (k : Int) < (M : Int) := by omega
          go_wp2_with fail
          go_roundw
          case rel => exact ⟨k + 1, by omega, by go_num, trivial⟩
          case measure => simp [intOf]; omega
        · clear HE2
          go_wp2_with fail
          go_ret
          exact ⟨rfl, hb02⟩
    · have he := hQ.bad hz
      subst he
      have hne : (wr p != 0) = true := by simpa using hz
      generalize wr p = WR at *
      clear hQ HE HOk hz hrw HNL
      go_wp2_with fail
      go_ret
      exact ⟨rfl, hb02⟩
end Go.Proofs.Ytjfmpgfpehnnjai.Vo
