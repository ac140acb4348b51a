/- VoiceBound: the law's text, walked. -/
import Derived.Test.YtjfmpgfpehnnjaiVoL3
namespace Go.Proofs.Ytjfmpgfpehnnjai.Vo
open Go.RowKit Go.Maps Go.Sort
set_option linter.unusedSimpArgs false
set_option linter.unusedVariables false

theorem wv_in' (x : Nat) (h : Wv x) : (FloatKind.f64.format.order x 13830554455654793216 == some .gt || FloatKind.f64.format.order x 13830554455654793216 == some .eq) = true ∧ (FloatKind.f64.format.order x 4607182418800017408 == some .lt || FloatKind.f64.format.order x 4607182418800017408 == some .eq) = true := wv_in x h
theorem ng_is (x : Nat) (h : Fl.Fi x) : Fl.Fi (ng x) ∧ Fl.va (ng x) = - Fl.va x ∧ Fl.rg (ng x) = Fl.rg x := by
  have hw := Fl.wd_self x h.1
  have hr := h.2
  have e : ng x = Fl.wd (!Fl.sg x) (Fl.rg x) := by
    unfold ng
    have := Fl.neg_is (Fl.sg x) (Fl.rg x) (by omega)
    rw [hw] at this; exact this
  rw [e]
  refine ⟨Fl.fi_wd _ _ hr, ?_, Fl.rg_wd _ _ (by omega)⟩
  rw [Fl.va_wd _ _ (by omega)]
  unfold Fl.va
  cases Fl.sg x <;> simp
theorem opp_eq (n : Nat) (hn : n < 4294967296) : (FloatKind.f64.format.order (sv (((n : Int) + 2147483648) % 4294967296)) (ng (sv n)) != some .eq) = false := by
  have h1 := sv_ok (n : Int) (by omega) (by omega)
  have h2 := sv_ok (((n : Int) + 2147483648) % 4294967296) (by omega) (by omega)
  have h3 := sv_opp (n : Int) (by omega) (by omega)
  obtain ⟨g1, g2, _⟩ := ng_is _ h1.w1
  show (Ieee.double.order _ _ != some .eq) = false
  rw [Fl.order_fi _ _ h2.w1 g1, g2, h3, Int.compare_eq_eq.2 rfl]; rfl
/-- How loud it may be. -/
def mst (g : Nat) : Nat := if FloatKind.f64.format.order g 0 == some .lt then ng g else g
theorem mst_ok (g : Nat) (h : Fl.Fi g) : Fl.Fi (mst g) ∧ Fl.va (mst g) = (Fl.vl (Fl.rg g) : Int) := by
  have ho : FloatKind.f64.format.order g 0 = some (compare (Fl.va g) 0) := Fl.order_fi g 0 h ⟨by decide, by decide⟩
  unfold mst
  rw [ho]
  have ha := Fl.va_abs g
  rcases Int.lt_trichotomy (Fl.va g) 0 with c | c | c
  · rw [Int.compare_eq_lt.2 c, if_pos (by decide)]
    obtain ⟨g1, g2, _⟩ := ng_is g h
    exact ⟨g1, by rw [g2]; omega⟩
  · rw [Int.compare_eq_eq.2 c, if_neg (by decide)]
    exact ⟨h, by omega⟩
  · rw [Int.compare_eq_gt.2 c, if_neg (by decide)]
    exact ⟨h, by omega⟩
theorem loud (g x : Nat) (h : Fl.Fi g) (hx : Fl.Fi x) (hr : Fl.rg x ≤ Fl.rg g) : (FloatKind.f64.format.order x (ng (mst g)) == some .gt || FloatKind.f64.format.order x (ng (mst g)) == some .eq) = true ∧ (FloatKind.f64.format.order x (mst g) == some .lt || FloatKind.f64.format.order x (mst g) == some .eq) = true := by
  obtain ⟨m1, m2⟩ := mst_ok g h
  obtain ⟨n1, n2, _⟩ := ng_is _ m1
  have hv := Fl.vl_mono hr
  have ha := Fl.va_abs x
  constructor
  · show Fl.geT x (ng (mst g)) = true
    rw [Fl.geT_fi _ _ hx n1, n2, m2]
    exact decide_eq_true (by omega)
  · show Fl.leT x (mst g) = true
    rw [Fl.leT_fi _ _ hx m1, m2]
    exact decide_eq_true (by omega)
/-- What comes of two pieces: held, and let go. -/
theorem two (p : Pt) (n r : Nat) (hn : n ≤ 65536) (h0 : 1 ≤ r) (hr : r ≤ 65536) :
    rws p [(n : Int), -(r : Int)] 2 = [⟨n, 0, fun i => S p none (0 + i)⟩, ⟨r, 0, fun i => S p (some n) (n + i)⟩] := by
  obtain ⟨a1, a2, a3⟩ := row_in p 0 none n hn
  obtain ⟨b1, b2, b3⟩ := row_off p n none r h0 hr
  have s1 : stT [(n : Int), -(r : Int)] 1 = n := by show pT 0 n = n; rw [a2]; omega
  have o1 : stO [(n : Int), -(r : Int)] 1 = none := a3
  show (([] ++ [row1 p 0 none n]) ++ [row1 p (stT _ 1) (stO _ 1) (-(r : Int))]) = _
  rw [s1, o1, a1, b1]
  rfl
theorem quiet_all (p : Pt) (h : Ok p) (n r : Nat) (j : Nat) (q : Rw) (hj : ([⟨n, 0, fun i => S p none (0 + i)⟩, ⟨r, 0, fun i => S p (some n) (n + i)⟩] : List Rw)[j]? = some q) (i : Nat) : Fl.Fi (q.f i) ∧ Fl.rg (q.f i) ≤ Fl.rg p.gain := by
  rcases j with _ | _ | j
  · have e := Option.some.inj hj
    rw [← e]
    have := S_ok p h none (0 + i) (fun k hk => by cases hk)
    exact ⟨this.1, this.2.1⟩
  · have e := Option.some.inj hj
    rw [← e]
    have := S_ok p h (some n) (n + i) (fun k hk => by cases hk; omega)
    exact ⟨this.1, this.2.1⟩
  · exact absurd hj (by simp)
theorem tot_all (p : Pt) (n r : Nat) (j : Nat) (q : Rw) (hj : ([⟨n, 0, fun i => S p none (0 + i)⟩, ⟨r, 0, fun i => S p (some n) (n + i)⟩] : List Rw)[j]? = some q) : (if j + 1 = 0 then 0 else if j + 1 = 1 then n else n + r) = (if j = 0 then 0 else if j = 1 then n else n + r) + q.m ∧ q.m ≤ n + r := by
  rcases j with _ | _ | j
  · have e := Option.some.inj hj
    rw [← e]; simp
  · have e := Option.some.inj hj
    rw [← e]; simp
  · exact absurd hj (by simp)
def tot (n r : Nat) (k : Nat) : Nat := if k = 0 then 0 else if k = 1 then n else n + r
end Go.Proofs.Ytjfmpgfpehnnjai.Vo
