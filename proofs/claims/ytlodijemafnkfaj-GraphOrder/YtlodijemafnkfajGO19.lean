/- alive; what is heard, read. -/
import Derived.Test.YtlodijemafnkfajGO18
import Derived.Test.YtlodijemafnkfajGO6
namespace Go.Proofs.Ytlodijemafnkfaj.Gh
open Go.RowKit Go.Maps Go.Sort Fl
set_option linter.unusedVariables false
set_option linter.unusedSimpArgs false

def gA : Gr := ⟨0, [⟨2, [], 0, 4611686018427387904, ⟨0, 0, 0, 0, 0⟩, ⟨0, 0, 0, 0, 0, 0, 0⟩⟩], [0]⟩
def pA : List Pc := [⟨[], 1, false⟩]
theorem gA_ne : ne0 gA = 0 := by decide
theorem gA_ac : ¬ Cyc gA := by
  rintro ⟨n, i, hi, hr⟩
  have hi0 : i = 0 := by have : i < 1 := hi; omega
  subst hi0
  cases n with
  | zero => obtain ⟨x, hx, _⟩ := hr; cases hx
  | succ n => obtain ⟨c, ⟨x, hx, _⟩, _⟩ := hr; cases hx
theorem gA_r (J : Nat → Hist) : rsl gA J 0 0 pA = [([[some 4611686018427387904]], 0)] := by
  have e1 : er gA [] 1 = 0 := by decide
  show [(hrs gA (vl gA (J 0)) 0 ⟨[], 1, false⟩, er gA [] 1)] = _
  rw [e1]
  have e2 : hrs gA (vl gA (J 0)) 0 ⟨[], 1, false⟩ = [[vl gA (J 0) 0 0]] := by unfold hrs; rw [if_pos e1]; rfl
  rw [e2]
  have e3 : vl gA (J 0) 0 0 = ab 4611686018427387904 := rfl
  rw [e3]
  decide
/-- What was heard of piece j: its lists. -/
theorem HO.at {w : World} {base : Nat} {Z : Nat → Prop} {v : Value} {R : List (List (List (Option Nat)) × Int)} (h : HO w base Z v R) {j : Nat} {r : List (List (Option Nat)) × Int} (hj : R[j]? = some r) : ∃ q cap ao c, v = .slice (some ⟨q, 0, none⟩) R.length cap ∧ R.length ≤ cap ∧ cap ≤ 9223372036854775807 ∧ q < w.heap.size ∧ Z q ∧ w.cell? ⟨q, j * 2, none⟩ = some (.slice ao r.1.length c) ∧ w.cell? ⟨q, j * 2 + 1, none⟩ = some (.int .i64 r.2) ∧ OL w (Sz Z w v) (.slice ao r.1.length c) r.1 ∧ r.1.length ≤ c ∧ c ≤ 9223372036854775807 := by
  obtain ⟨Vs, h1, h2, h3⟩ := h.ex
  have hjl := (List.getElem?_eq_some_iff.1 hj).1
  rcases h1.2 with ⟨e1, e2⟩ | ⟨q, cap, cur, e1, e2, e3, e4, hm, rest⟩
  · omega
  · obtain ⟨x, x1, x2, x3⟩ := h3 j r hj
    obtain ⟨ao, c, y1, y2, y3, y4⟩ := x3.ex
    subst y1
    have hoz := h.oz q (by rw [e1]; rfl)
    subst e1
    refine ⟨q, cap, ao, c, rfl, e4, by unfold maxLen at hm; omega, (Array.getElem?_eq_some_iff.1 e3).1, hoz, ?_, ?_, x3, y2, y3⟩
    · rw [World.ownsRow.cellAt h1 (j * 2) (by omega)]; exact x1
    · rw [World.ownsRow.cellAt h1 (j * 2 + 1) (by omega)]; exact x2
theorem cirC : Vo.CirC := fun k w hk => Vo.circle_any k w hk
end Go.Proofs.Ytlodijemafnkfaj.Gh

/- alive, walked. -/
namespace Go.Proofs.Ytlodijemafnkfaj.Gh
open Go.RowKit Go.Maps Go.Sort Fl
set_option linter.unusedVariables false
set_option linter.unusedSimpArgs false

theorem cal_cast {f} {xs ys : Array Value} {w v : World} {Q : Ending → World → Prop} (h : Calls Try.prog f xs w Q) (hw : w = v) (ha : xs = ys) : Calls Try.prog f ys v Q := by
  subst hw; subst ha; exact h
@[reducible] def nA : Array Value := #[.int .i64 2, .slice none 0 0, .int .i64 0, .float .f64 4611686018427387904, .float .f64 0, .float .f64 0, .float .f64 0, .float .f64 0, .float .f64 0, .int .i64 0, .int .u32 0, .float .f64 0, .int .i64 0, .int .i64 0, .int .i64 0, .int .i64 0]
set_option maxRecDepth 8000 in
set_option maxHeartbeats 4000000 in
theorem alive_any (w : World) : Calls Try.prog 17 #[] w fun e w' => e = .returned (.bool true) ∧ Below w.heap.size w w' := by
  obtain ⟨W3, hW3⟩ : ∃ X, X = ((w.alloc (Obj.cells nA 58)).alloc (Obj.cells #[.int .i64 0] 3)).alloc (Obj.cells #[.slice none 0 0, .int .i64 1, .bool false] 45) := ⟨_, rfl⟩
  have HB : Hid (Below w.heap.size w W3) := by rw [hW3]; exact (((Below.refl _ _).alloc (Nat.le_refl _) _).alloc (by simp) _).alloc (by simp; omega) _
  have z3 : W3.heap.size = w.heap.size + 3 := by rw [hW3]; simp
  have hcA : ∀ (j : Nat) v, nA[j]? = some v → W3.cell? ⟨w.heap.size, j, none⟩ = some v := fun j v hv => by
    rw [hW3]
    simpa [go_sem, nA] using hv
  have hGH : GH W3 (fun b => b < W3.heap.size) gA (some ⟨w.heap.size, 0, none⟩) (some ⟨w.heap.size + 1, 0, none⟩) 1 1 := by
    refine ⟨⟨fun i d hd => ?_⟩, Nat.le_refl _, ⟨fun _ => ⟨w.heap.size + 1, 0, rfl, by omega, by omega, fun j y hj => ?_⟩⟩, Nat.le_refl _, by omega, fun h => by cases h⟩
    · have hi : i = 0 := by have := (List.getElem?_eq_some_iff.1 hd).1; have h1 : i < 1 := this; omega
      subst hi
      cases hd
      refine ⟨w.heap.size, 0, none, 0, rfl, by omega, by omega, fun j v hv => ?_, ⟨⟨fun h => absurd h (by decide)⟩, by decide, by decide, fun _ => rfl, by decide, by decide, by decide, by decide⟩⟩
      have := hcA j v hv
      simpa using this
    · have hj0 : j = 0 := by have := (List.getElem?_eq_some_iff.1 hj).1; have h1 : j < 1 := this; omega
      subst hj0
      cases hj
      rw [hW3]; simp [go_sem]
  have hPc : PcL W3 W3.heap.size (some ⟨w.heap.size + 2, 0, none⟩) pA := ⟨fun i p hp => by
    have hi : i = 0 := by have := (List.getElem?_eq_some_iff.1 hp).1; have h1 : i < 1 := this; omega
    subst hi
    cases hp
    refine ⟨w.heap.size + 2, 0, none, 0, rfl, by omega, ?_, ?_, ?_, by decide, by decide, ⟨fun h => absurd h (by decide)⟩⟩
    · rw [hW3]; simp [go_sem]
    · rw [hW3]; simp [go_sem]
    · rw [hW3]; simp [go_sem]⟩
  have hq := Sound_any cirC gA (some ⟨w.heap.size, 0, none⟩) (some ⟨w.heap.size + 1, 0, none⟩) 1 1 pA (some ⟨w.heap.size + 2, 0, none⟩) 1 1 (fun _ _ _ => none) W3 hGH hPc rfl (by omega) (by omega) (by omega) (fun k p h => by cases h) (fun k p h _ q l hl => by
    have hi : k = 0 := by have := (List.getElem?_eq_some_iff.1 h).1; have h1 : k < 1 := this; omega
    subst hi
    cases h
    cases hl)
  clear hGH hPc hcA
  have hord : FloatKind.f64.format.order 4611686018427387904 4611686018427387904 = some .eq := by decide
  go_enter Try.func17, Try.ntmps17
  go_wp2_with fail
  refine (cal_cast hq hW3 rfl).mono ?_
  rintro e w1 hS
  obtain ⟨v, base, rfl, hb1, hb2, hH⟩ := hS.ok gA_ne gA_ac
  rw [gA_r] at hH
  have HB2 : Hid (Below w.heap.size w w1) := Below.trans HB.out (hS.b.mono (by omega))
  clear hq hS hW3
  obtain ⟨q, cap, ao, c, rfl, k1, k2, k3, k4, k5, k6, k7, k8, k9⟩ := hH.at (j := 0) (r := ([[some 4611686018427387904]], 0)) rfl
  obtain ⟨ao', c', m1, m2, m3, m4⟩ := k7.ex
  cases m1
  obtain ⟨b, off, rfl, n2, n3, n4⟩ := m4 (by decide)
  obtain ⟨x, x1, x2⟩ := n4 0 _ rfl
  obtain ⟨gg, ag, cg, y1, y2, y3, y4, y5, y6⟩ := x2.ex
  subst y1
  obtain ⟨hl1, hg0⟩ : gg.length = 1 ∧ gg[0]? = some 4611686018427387904 := by
    have := congrArg List.length y5
    rw [Fi.abs_len] at this
    have h1 : gg.length = 1 := this
    refine ⟨h1, ?_⟩
    cases h : gg[0]? with
    | none => have := List.getElem?_eq_none_iff.1 h; omega
    | some x =>
      have h2 := Fi.abs_get h
      rw [y5] at h2
      have h3 : ab x = some 4611686018427387904 := (Option.some.inj h2).symm
      unfold ab at h3
      split at h3
      · cases h3
      · exact h3
  obtain ⟨b2, off2, rfl, _, _, z4⟩ := y6.at' (by omega)
  have c4 := (z4 0 _ hg0).1
  rw [hl1] at x1 y2
  have c1 : w1.cell? ⟨q, 0, none⟩ = some (.slice (some ⟨b, off, none⟩) 1 c) := k5
  have c2 : w1.cell? ⟨b, off, none⟩ = some (.slice (some ⟨b2, off2, none⟩) 1 cg) := x1
  have c3 : w1.cell? ⟨b2, off2, none⟩ = some (.float .f64 4611686018427387904) := c4
  have HB3 := HB2
  clear m4 n4 x2 hH k7 y6 z4 hg0 hl1 y5 c4 x1 k5 k6 m2 k8 y4 y2 n2 n3 HB HB2 z3 hb1 hb2 k4 m3 k9
  go_wp2_with fail
  go_returns
  exact ⟨rfl, HB3.out⟩

end Go.Proofs.Ytlodijemafnkfaj.Gh

/- At rest it is as new: the plain part. -/
namespace Go.Proofs.Ytlodijemafnkfaj.Gh
open Go.RowKit Go.Maps Go.Sort Fl
set_option linter.unusedVariables false
set_option linter.unusedSimpArgs false

/-- The three pieces. -/
def p3 (P : List (List Nat)) (nn mm m : Nat) : List Pc := [⟨P, nn, false⟩, ⟨List.replicate m (List.replicate mm 0), mm, false⟩, ⟨P, nn, true⟩]
/-- What comes in. -/
def i3 (g : Gr) (P : List (List Nat)) (nn : Nat) : Hist := fun q t => if er g P nn = 0 ∧ t < nn then ab ((P.getD q []).getD t 0) else some 0
theorem ab_zero : ab 0 = some 0 := by decide
theorem i3_in {g : Gr} {P : List (List Nat)} {nn q i : Nat} {l : List Nat} (he : er g P nn = 0) (hl : P[q]? = some l) (hi : i < nn) : i3 g P nn q i = ab (l.getD i 0) := by
  unfold i3
  rw [if_pos ⟨he, hi⟩]
  rw [show P.getD q [] = l by rw [List.getD_eq_getElem?_getD, hl]; rfl]
theorem rep_get {m mm q i : Nat} {l : List Nat} (hl : (List.replicate m (List.replicate mm 0))[q]? = some l) : l.getD i 0 = 0 := by
  rw [List.getElem?_replicate] at hl
  split at hl
  · cases hl
    rw [List.getD_eq_getElem?_getD, List.getElem?_replicate]
    split <;> rfl
  · cases hl
theorem p3_J (g : Gr) (P : List (List Nat)) (nn mm m : Nat) : ∀ k p, (p3 P nn mm m)[k]? = some p → er g p.ins p.n = 0 → ∀ (q : Nat) l, p.ins[q]? = some l → ∀ i, i < p.n.toNat → i3 g P nn q (t0 (tst g 0 ((p3 P nn mm m).take k)) p + i) = ab (l.getD i 0) := by
  intro k p hp he q l hl i hi
  match k, hp with
  | 0, hp =>
    cases hp
    have e : t0 (tst g 0 ((p3 P nn mm m).take 0)) ⟨P, nn, false⟩ + i = i := by show 0 + i = i; omega
    rw [e]
    exact i3_in he hl (by simpa using hi)
  | 1, hp =>
    cases hp
    rw [rep_get hl, ab_zero]
    unfold i3
    rw [if_neg]
    rintro ⟨e1, e2⟩
    have e3 : t0 (tst g 0 ((p3 P nn mm m).take 1)) ⟨List.replicate m (List.replicate mm 0), mm, false⟩ = nn := by
      show tnx g 0 ⟨P, nn, false⟩ = nn
      unfold tnx
      rw [if_pos e1]
      show 0 + (nn : Int).toNat = nn
      omega
    rw [e3] at e2
    omega
  | 2, hp =>
    cases hp
    have e : t0 (tst g 0 ((p3 P nn mm m).take 2)) ⟨P, nn, true⟩ + i = i := by show 0 + i = i; omega
    rw [e]
    exact i3_in he hl (by simpa using hi)
  | k + 3, hp => cases hp
/-- What is heard first, and last. -/
def h3 (g : Gr) (P : List (List Nat)) (nn : Nat) : List (List (Option Nat)) := if er g P nn = 0 then outR g (vl g (i3 g P nn)) 0 nn else []
theorem p3_r (g : Gr) (P : List (List Nat)) (nn mm m : Nat) : ∃ x, rsl g (fun _ => i3 g P nn) 0 0 (p3 P nn mm m) = [(h3 g P nn, er g P nn), x, (h3 g P nn, er g P nn)] := by
  refine ⟨(hrs g (vl g (i3 g P nn)) (tnx g 0 ⟨P, nn, false⟩) ⟨List.replicate m (List.replicate mm 0), mm, false⟩, er g (List.replicate m (List.replicate mm 0)) mm), ?_⟩
  rfl
theorem h3_len (g : Gr) (P : List (List Nat)) (nn : Nat) : ∀ (k : Nat) r, (h3 g P nn)[k]? = some r → r.length = nn := by
  intro k r hr
  unfold h3 at hr
  split at hr
  · unfold outR at hr
    rw [List.getElem?_map] at hr
    cases h : g.outs[k]? with
    | none => rw [h] at hr; cases hr
    | some o => rw [h] at hr; cases hr; simp
  · cases hr
end Go.Proofs.Ytlodijemafnkfaj.Gh

/- The sound is the same for any block size: the plain part. -/
namespace Go.Proofs.Ytlodijemafnkfaj.Gh
open Go.RowKit Go.Maps Go.Sort Fl
set_option linter.unusedVariables false
set_option linter.unusedSimpArgs false

/-- What comes in, cut. -/
def cut (P : List (List Nat)) (a c : Nat) : List (List Nat) := P.map (fun l => (l.drop a).take c)
/-- The pieces from a on. -/
def cps (P : List (List Nat)) : Nat → List Nat → List Pc
  | _, [] => []
  | a, c :: r => ⟨cut P a c, c, false⟩ :: cps P (a + c) r
theorem cut_fit {P : List (List Nat)} {n a c : Nat} (ins : Int) (hP : ∀ l ∈ P, l.length = n) (h : a + c ≤ n) : fitB ins (cut P a c) c = fitB ins P n := by
  unfold fitB cut
  rw [List.length_map, List.all_map]
  congr 1
  rw [show P.all (fun l => decide ((l.length : Int) = (n : Int))) = true from List.all_eq_true.2 (fun l hl => decide_eq_true (by rw [hP l hl]))]
  refine List.all_eq_true.2 (fun l hl => ?_)
  have := hP l hl
  show decide ((((l.drop a).take c).length : Int) = (c : Int)) = true
  rw [List.length_take, List.length_drop]
  exact decide_eq_true (by omega)
theorem cut_er {P : List (List Nat)} {n a c : Nat} (g : Gr) (hP : ∀ l ∈ P, l.length = n) (h : a + c ≤ n) (hn : n ≤ 65536) : er g (cut P a c) c = er g P n := by
  unfold er
  rw [if_neg (show ¬ ((c : Int) < 0 ∨ 65536 < (c : Int)) by omega), if_neg (show ¬ ((n : Int) < 0 ∨ 65536 < (n : Int)) by omega), cut_fit g.ins hP h]
/-- What comes in at each time. -/
def iB (P : List (List Nat)) : Hist := fun q t => ab ((P.getD q []).getD t 0)
theorem cut_get {P : List (List Nat)} {a c q i : Nat} {l : List Nat} (hl : (cut P a c)[q]? = some l) (hi : i < c) : iB P q (a + i) = ab (l.getD i 0) := by
  unfold cut at hl
  rw [List.getElem?_map] at hl
  cases h : P[q]? with
  | none => rw [h] at hl; cases hl
  | some l0 =>
    rw [h] at hl
    cases hl
    unfold iB
    rw [show P.getD q [] = l0 by rw [List.getD_eq_getElem?_getD, h]; rfl]
    rw [List.getD_eq_getElem?_getD, List.getD_eq_getElem?_getD, List.getElem?_take, if_pos hi, List.getElem?_drop]
theorem cps_len (P : List (List Nat)) : ∀ (a : Nat) (cs : List Nat), (cps P a cs).length = cs.length
  | a, [] => rfl
  | a, c :: r => by show (cps P (a + c) r).length + 1 = r.length + 1; rw [cps_len P (a + c) r]
theorem cps_at (P : List (List Nat)) : ∀ (a : Nat) (cs : List Nat) (k : Nat) p, (cps P a cs)[k]? = some p → ∃ c, cs[k]? = some c ∧ p = ⟨cut P (a + (cs.take k).sum) c, c, false⟩
  | a, [], k, p, h => by cases h
  | a, c :: r, 0, p, h => ⟨c, rfl, by cases h; simp⟩
  | a, c :: r, k + 1, p, h => by
    obtain ⟨c', h1, h2⟩ := cps_at P (a + c) r k p h
    refine ⟨c', h1, ?_⟩
    rw [h2]
    simp [Nat.add_assoc]
/-- The time ahead of piece k, where all fits. -/
theorem cps_tst {P : List (List Nat)} {n : Nat} (g : Gr) (hP : ∀ l ∈ P, l.length = n) (hn : n ≤ 65536) (he : er g P n = 0) : ∀ (cs : List Nat) (a k : Nat), a + cs.sum ≤ n → tst g a ((cps P a cs).take k) = a + (cs.take k).sum
  | [], a, k, h => by simp [cps, tst]
  | c :: r, a, 0, h => by simp [tst]
  | c :: r, a, k + 1, h => by
    rw [List.sum_cons] at h
    have e1 : tnx g a ⟨cut P a c, c, false⟩ = a + c := by
      unfold tnx
      rw [if_pos (by rw [cut_er g hP (by omega) hn]; exact he)]
      show a + (c : Int).toNat = a + c
      omega
    show tst g (tnx g a ⟨cut P a c, c, false⟩) ((cps P (a + c) r).take k) = _
    rw [e1, cps_tst g hP hn he r (a + c) k (by omega)]
    simp [Nat.add_assoc]
theorem cps_J {P : List (List Nat)} {n : Nat} (g : Gr) (hP : ∀ l ∈ P, l.length = n) (hn : n ≤ 65536) (cs : List Nat) (hs : cs.sum ≤ n) : ∀ k p, (cps P 0 cs)[k]? = some p → er g p.ins p.n = 0 → ∀ (q : Nat) l, p.ins[q]? = some l → ∀ i, i < p.n.toNat → iB P q (t0 (tst g 0 ((cps P 0 cs).take k)) p + i) = ab (l.getD i 0) := by
  intro k p hp he q l hl i hi
  obtain ⟨c, hc, rfl⟩ := cps_at P 0 cs k p hp
  have hk := (List.getElem?_eq_some_iff.1 hc).1
  have hsum : (cs.take k).sum + c ≤ cs.sum := by
    have e := List.take_append_drop k cs
    have e2 : cs.sum = (cs.take k).sum + (cs.drop k).sum := by rw [← List.sum_append, e]
    rw [List.drop_eq_getElem_cons hk, List.sum_cons] at e2
    have e3 : cs[k] = c := (List.getElem?_eq_some_iff.1 hc).2
    omega
  rw [Nat.zero_add] at hl he ⊢
  have he' : er g P n = 0 := by rw [← cut_er g hP (a := (cs.take k).sum) (c := c) (by omega) hn]; exact he
  have e : t0 (tst g 0 ((cps P 0 cs).take k)) ⟨cut P (cs.take k).sum c, c, false⟩ = (cs.take k).sum := by
    show tst g 0 ((cps P 0 cs).take k) = _
    rw [cps_tst g hP hn he' cs 0 k (by omega), Nat.zero_add]
  rw [e]
  exact cut_get hl (by simpa using hi)
/-- What is heard of all pieces, where all fits. -/
theorem cps_r {P : List (List Nat)} {n : Nat} (g : Gr) (hP : ∀ l ∈ P, l.length = n) (hn : n ≤ 65536) (he : er g P n = 0) (V : Hist) (J : Nat → Hist) (hV : ∀ k, vl g (J k) = V) : ∀ (cs : List Nat) (a k : Nat), a + cs.sum ≤ n → ∀ (j : Nat) r, (rsl g J k a (cps P a cs))[j]? = some r → ∃ c, cs[j]? = some c ∧ r = (outR g V (a + (cs.take j).sum) c, 0)
  | [], a, k, h, j, r, hj => by cases hj
  | c :: q, a, k, h, j, r, hj => by
    rw [List.sum_cons] at h
    have e0 : er g (cut P a c) c = 0 := by rw [cut_er g hP (by omega) hn]; exact he
    have e1 : tnx g a ⟨cut P a c, c, false⟩ = a + c := by
      unfold tnx
      rw [if_pos e0]
      show a + (c : Int).toNat = a + c
      omega
    have e2 : rsl g J k a (cps P a (c :: q)) = (outR g V a c, 0) :: rsl g J (k + 1) (a + c) (cps P (a + c) q) := by
      show (hrs g (vl g (J k)) a ⟨cut P a c, c, false⟩, er g (cut P a c) c) :: rsl g J (k + 1) (tnx g a ⟨cut P a c, c, false⟩) (cps P (a + c) q) = _
      rw [e1, e0, hV]
      unfold hrs
      rw [if_pos e0]
      rfl
    rw [e2] at hj
    cases j with
    | zero => cases hj; exact ⟨c, rfl, by simp⟩
    | succ j =>
      obtain ⟨c', h1, h2⟩ := cps_r g hP hn he V J hV q (a + c) (k + 1) (by omega) j r hj
      exact ⟨c', h1, by rw [h2]; simp [Nat.add_assoc]⟩
/-- Joined, it is the whole. -/
theorem outs_join (g : Gr) (V : Hist) (a c : Nat) (o : Int) : (List.range (a + c)).map (fun j => V o.toNat j) = (List.range a).map (fun j => V o.toNat j) ++ (List.range c).map (fun j => V o.toNat (a + j)) := by
  rw [List.range_add, List.map_append, List.map_map]
  rfl
end Go.Proofs.Ytlodijemafnkfaj.Gh

/- In whatever order the nodes stand: how the other graph lies while it is made. -/
namespace Go.Proofs.Ytlodijemafnkfaj.Gh
open Go.RowKit Go.Maps Go.Sort Fl
set_option linter.unusedVariables false
set_option linter.unusedSimpArgs false

/-- What is told apart and has room for no more is all. -/
theorem pig : ∀ (N : Nat) (f : Nat → Nat), (∀ j, j < N → f j < N) → (∀ i j, i < N → j < N → f i = f j → i = j) → ∀ i, i < N → ∃ j, j < N ∧ f j = i
  | 0, f, h1, h2, i, hi => absurd hi (by omega)
  | N + 1, f, h1, h2, i, hi => by
    have hm := h1 N (by omega)
    have key : ∀ j, j < N → f j = N → f N < N := fun j hj e => by
      by_cases q : f N = N
      · have := h2 j N (by omega) (by omega) (by omega); omega
      · omega
    have ih := pig N (fun j => if f j = N then f N else f j) (fun j hj => by
      show (if f j = N then f N else f j) < N
      split
      · rename_i e; exact key j hj e
      · have := h1 j (by omega); omega) (fun a b ha hb e => by
      have e' : (if f a = N then f N else f a) = (if f b = N then f N else f b) := e
      split at e' <;> split at e'
      · exact h2 a b (by omega) (by omega) (by omega)
      · have := h2 N b (by omega) (by omega) e'; omega
      · have := h2 a N (by omega) (by omega) e'; omega
      · exact h2 a b (by omega) (by omega) e')
    by_cases c : i = f N
    · exact ⟨N, by omega, c.symm⟩
    by_cases d : i = N
    · obtain ⟨j, hj, e⟩ := ih (f N) (by omega)
      have e' : (if f j = N then f N else f j) = f N := e
      split at e'
      · exact ⟨j, by omega, by omega⟩
      · have := h2 j N (by omega) (by omega) e'; omega
    · obtain ⟨j, hj, e⟩ := ih i (by omega)
      have e' : (if f j = N then f N else f j) = i := e
      split at e'
      · omega
      · exact ⟨j, by omega, e'⟩
/-- The order as far as it is read: where each node stands then, which were seen. -/
structure Od (N : Nat) (ord : List Int) (k : Nat) (τ : Nat → Nat) (sn : Nat → Bool) : Prop where
  r : ∀ j x, j < k → ord[j]? = some x → ∃ i : Nat, x = i ∧ i < N ∧ τ i = j ∧ sn i = true
  s : ∀ i, i < N → sn i = true → τ i < k ∧ ord[τ i]? = some (i : Int)
theorem Od.nil (N : Nat) (ord : List Int) : Od N ord 0 (fun _ => 0) (fun _ => false) := ⟨fun j x h => absurd h (by omega), fun i _ h => by cases h⟩
theorem Od.step {N : Nat} {ord : List Int} {k : Nat} {τ : Nat → Nat} {sn : Nat → Bool} (h : Od N ord k τ sn) {i : Nat} (hi : i < N) (hk : ord[k]? = some (i : Int)) (hs : sn i = false) : Od N ord (k + 1) (fun j => if j = i then k else τ j) (fun j => if j = i then true else sn j) := by
  refine ⟨fun j x hj hx => ?_, fun j hj hsj => ?_⟩
  · by_cases c : j = k
    · subst c
      rw [hk] at hx
      cases hx
      exact ⟨i, rfl, hi, if_pos rfl, if_pos rfl⟩
    · obtain ⟨i', e1, e2, e3, e4⟩ := h.r j x (by omega) hx
      have hne : i' ≠ i := fun e => by subst e; rw [hs] at e4; cases e4
      exact ⟨i', e1, e2, by show (if i' = i then k else τ i') = j; rw [if_neg hne]; exact e3, by show (if i' = i then true else sn i') = true; rw [if_neg hne]; exact e4⟩
  · show (if j = i then k else τ j) < k + 1 ∧ ord[if j = i then k else τ j]? = some (j : Int)
    by_cases c : j = i
    · subst c
      rw [if_pos rfl]
      exact ⟨by omega, hk⟩
    · rw [if_neg c]
      have hsj' : (if j = i then true else sn j) = true := hsj
      rw [if_neg c] at hsj'
      have := h.s j hj hsj'
      exact ⟨by omega, this.2⟩
theorem Od.pm {N : Nat} {ord : List Int} {τ : Nat → Nat} {sn : Nat → Bool} (h : Od N ord N τ sn) (hl : ord.length = N) : Pm N (ord.map Int.toNat) τ ∧ (∀ k i, (ord.map Int.toNat)[k]? = some i → τ i = k) := by
  have hr : ∀ k i, (ord.map Int.toNat)[k]? = some i → i < N ∧ τ i = k ∧ sn i = true ∧ k < N := fun k i hk => by
    rw [List.getElem?_map] at hk
    cases e : ord[k]? with
    | none => rw [e] at hk; cases hk
    | some x =>
      rw [e] at hk
      have hkl : k < N := by have := (List.getElem?_eq_some_iff.1 e).1; omega
      obtain ⟨i', e1, e2, e3, e4⟩ := h.r k x hkl e
      subst e1
      cases hk
      exact ⟨e2, e3, e4, hkl⟩
  have hg : ∀ j, j < N → ∃ i, (ord.map Int.toNat)[j]? = some i := fun j hj => ⟨_, List.getElem?_eq_getElem (by rw [List.length_map, hl]; exact hj)⟩
  refine ⟨⟨by rw [List.length_map, hl], fun i hi => ?_, fun x hx => ?_⟩, fun k i hk => (hr k i hk).2.1⟩
  · obtain ⟨j, hj, e⟩ := pig N (fun j => (ord.map Int.toNat).getD j 0) (fun j hj => by
      obtain ⟨i, e⟩ := hg j hj
      show (ord.map Int.toNat).getD j 0 < N
      rw [List.getD_eq_getElem?_getD, e]
      exact (hr j i e).1) (fun a b ha hb e => by
      obtain ⟨i, e1⟩ := hg a ha
      obtain ⟨i2, e2⟩ := hg b hb
      have e' : (ord.map Int.toNat).getD a 0 = (ord.map Int.toNat).getD b 0 := e
      rw [List.getD_eq_getElem?_getD, List.getD_eq_getElem?_getD, e1, e2] at e'
      have e'' : i = i2 := e'
      subst e''
      rw [← (hr a i e1).2.1, ← (hr b i e2).2.1]) i hi
    obtain ⟨i', e1⟩ := hg j hj
    have e' : (ord.map Int.toNat).getD j 0 = i := e
    rw [List.getD_eq_getElem?_getD, e1] at e'
    have e'' : i' = i := e'
    subst e''
    obtain ⟨a1, a2, a3, a4⟩ := hr j i' e1
    rw [a2]
    exact ⟨a4, e1⟩
  · obtain ⟨j, hj⟩ := List.getElem?_of_mem hx
    exact (hr j x hj).1
/-- The two rows of the order. -/
structure T1 (w2 : World) (tb N : Nat) (τ : Nat → Nat) (sn : Nat → Bool) (ww : World) : Prop where
  t : ww.rowIs tb 3 N (fun i => .int .i64 (τ i : Nat))
  s : ww.rowIs (tb + 1) 4 N (fun i => .bool (sn i))
  z : ww.heap.size = tb + 2
  b : Below tb w2 ww
theorem T1.step {w2 ww : World} {tb N : Nat} {τ : Nat → Nat} {sn : Nat → Bool} (h : T1 w2 tb N τ sn ww) (i k : Nat) : T1 w2 tb N (fun j => if j = i then k else τ j) (fun j => if j = i then true else sn j) ((ww.setCell ⟨tb + 1, i, none⟩ (.bool true)).setCell ⟨tb, i, none⟩ (.int .i64 (k : Nat))) := by
  refine ⟨World.rowIs.congr (World.rowIs.set (World.rowIs.setOther h.t (by show tb ≠ tb + 1; omega) _) i _) (fun u _ => ?_), World.rowIs.congr (World.rowIs.setOther (World.rowIs.set h.s i _) (by show tb + 1 ≠ tb; omega) _) (fun u _ => ?_), by rw [World.size_setCell, World.size_setCell]; exact h.z, ?_⟩
  · by_cases c : u = i
    · rw [if_pos c]; show Value.int .i64 (k : Nat) = .int .i64 ((if u = i then k else τ u : Nat) : Int); rw [if_pos c]
    · rw [if_neg c]; show Value.int .i64 (τ u : Nat) = .int .i64 ((if u = i then k else τ u : Nat) : Int); rw [if_neg c]
  · by_cases c : u = i
    · rw [if_pos c, if_pos c]
    · rw [if_neg c, if_neg c]
  · exact (h.b.setCell (by show tb ≤ tb + 1; omega) _).setCell (by show tb ≤ tb; omega) _
/-- Nodes in a row of one's own; what they hear lies in blocks from base on. -/
structure NO (w : World) (base : Nat) (v : Value) (ds : List Nd) : Prop where
  ex : ∃ Vs : List Value, w.ownsRow base 58 16 v ds.length Vs ∧ Vs.length = ds.length * 16 ∧ ∀ (j : Nat) d, ds[j]? = some d → ∃ fo fc, (∀ (i : Nat) u, (nc d fo fc)[i]? = some u → Vs[j * 16 + i]? = some u) ∧ NA w (Fi.Sc base w v) d fo fc
theorem NO.nil (w : World) (base : Nat) : NO w base (.slice none 0 0) [] := ⟨⟨[], World.ownsRow_nil _ _ _ _, rfl, fun j r h => by simp at h⟩⟩
theorem NO.keep {w w' : World} {base : Nat} {v : Value} {ds : List Nd} (h : NO w base v ds) (hk : ∀ j, base ≤ j → j < w.heap.size → w'.heap[j]? = w.heap[j]?) (hz : w.heap.size ≤ w'.heap.size) : NO w' base v ds := by
  obtain ⟨Vs, h1, h2, h3⟩ := h.ex
  refine ⟨⟨Vs, Fi.own_step h1 (fun k hk' => hk k (Fi.own_block h1 k hk') (Fi.own_lt h1 k hk')), h2, fun j d hj => ?_⟩⟩
  obtain ⟨fo, fc, g1, g2⟩ := h3 j d hj
  exact ⟨fo, fc, g1, g2.keep (fun b hb hl => hk b hb.1 hl) hz (fun b hb hl => ⟨hb.1, by omega, hb.2.2⟩)⟩
/-- One node more: w1 is w with blocks more. -/
theorem NO.put {w w1 w2 : World} {base : Nat} {v v' : Value} {ds : List Nd} {d : Nd} {fo : Option Addr} {fc : Nat} (Vs : List Value) (hV : Vs.length = ds.length * 16) (h3 : ∀ (j : Nat) d, ds[j]? = some d → ∃ fo fc, (∀ (i : Nat) u, (nc d fo fc)[i]? = some u → Vs[j * 16 + i]? = some u) ∧ NA w (Fi.Sc base w v) d fo fc)
    (hb1 : Below w.heap.size w w1) (g1 : Fi.Gw w1 w2 v v') (o1 : w2.ownsRow base 58 16 v' (ds.length + 1) (Vs ++ (nc d fo fc).toList)) (hx : NA w1 (Fi.Sc base w1 v) d fo fc) : NO w2 base v' (ds ++ [d]) := by
  have z1 := hb1.size; have z2 := g1.gr.size
  have hkeep : ∀ b, Fi.Sc base w v b → b < w.heap.size → w2.heap[b]? = w.heap[b]? := fun b hb l => by
    rw [g1.gr.block b (by omega) hb.2.2, hb1.block b l]
  have hS1 : ∀ b, Fi.Sc base w1 v b → b < w1.heap.size → Fi.Sc base w2 v' b := fun b hb l => by
    refine ⟨hb.1, by omega, ?_⟩
    rcases g1.ob with q | ⟨k, q, hk⟩
    · rw [q]; exact hb.2.2
    · rw [q]; intro q2; simp at q2; omega
  have hS : ∀ b, Fi.Sc base w v b → b < w.heap.size → Fi.Sc base w2 v' b := fun b hb l => hS1 b ⟨hb.1, by omega, hb.2.2⟩ (by omega)
  refine ⟨⟨Vs ++ (nc d fo fc).toList, ?_, by simp [hV]; omega, fun j q hj => ?_⟩⟩
  · have e : (ds ++ [d]).length = ds.length + 1 := by simp
    rw [e]; exact o1
  · by_cases c : j < ds.length
    · rw [List.getElem?_append_left c] at hj
      obtain ⟨fo', fc', y1, y2⟩ := h3 j q hj
      refine ⟨fo', fc', fun i u hu => ?_, y2.keep hkeep (by omega) hS⟩
      have := y1 i u hu
      rw [List.getElem?_append_left (List.getElem?_eq_some_iff.1 this).1]; exact this
    · have hjl : j < (ds ++ [d]).length := (List.getElem?_eq_some_iff.1 hj).1
      simp at hjl
      obtain rfl : j = ds.length := by omega
      rw [List.getElem?_append_right (Nat.le_refl _)] at hj
      simp at hj
      subst hj
      refine ⟨fo, fc, fun i u hu => ?_, hx.keep (fun b hb l => g1.gr.block b l hb.2.2) z2 hS1⟩
      rw [← hV, List.getElem?_append_right (by omega), show Vs.length + i - Vs.length = i by omega, Array.getElem?_toList]
      exact hu
/-- The whole row, as nodes that are handed in. -/
theorem NO.ga {w : World} {base : Nat} {v : Value} {ds : List Nd} (h : NO w base v ds) : ∃ go gc, v = .slice go ds.length gc ∧ ds.length ≤ gc ∧ gc ≤ 9223372036854775807 ∧ GA w (fun b => b < w.heap.size) go ds := by
  obtain ⟨Vs, h1, h2, h3⟩ := h.ex
  obtain ⟨ao, c, e1, e2, e3⟩ := Fi.own_form h1
  refine ⟨ao, c, e1, e2, e3, ⟨fun i d hd => ?_⟩⟩
  obtain ⟨fo, fc, y1, y2⟩ := h3 i d hd
  have hi := (List.getElem?_eq_some_iff.1 hd).1
  rcases h1.2 with ⟨q1, q2⟩ | ⟨q, cap, cur, q1, q2, q3, q4, hm, rest⟩
  · omega
  · have e4 := e1
    rw [q1] at e4
    cases e4
    refine ⟨q, 0, fo, fc, rfl, (Array.getElem?_eq_some_iff.1 q3).1, (Array.getElem?_eq_some_iff.1 q3).1, fun j u hu => ?_, y2.keep (fun _ _ _ => rfl) (Nat.le_refl _) (fun b hb hl => hl)⟩
    have y := y1 j u hu
    have hown := h1
    subst q1
    have hjl := (List.getElem?_eq_some_iff.1 y).1
    rw [Nat.zero_add, World.ownsRow.cellAt hown (i * 16 + j) (by omega)]; exact y
theorem infoNd : (Try.prog.info? 58).map (fun i => (i.zero, i.size, i.bytes)) = some (some (.agg #[.int .i64 0, .slice none 0 0, .int .i64 0, .float .f64 0, .float .f64 0, .float .f64 0, .float .f64 0, .float .f64 0, .float .f64 0, .int .i64 0, .int .u32 0, .float .f64 0, .int .i64 0, .int .i64 0, .int .i64 0, .int .i64 0]), 16, 144) := by kernel_rfl
/-- append(s, x) where s is one's own row of nodes. -/
theorem wpList_append_nd {w : World} {ops : Array Oper} {rest : List Oper} {o : Oper} {a : Act} {Q : Exit → Act → World → Prop} (hgd : o.guard = none) (s y : Operand)
    (ho : o.op = .call { callee := .builtin .append, args := #[s, y], argTypes := #[35, 35] })
    (base : Nat) (v : Value) (n : Nat) (xs : List Value) (hs : a.eval s = v) (hown : w.ownsRow base 58 16 v n xs)
    (g : Nat) (d : Nd) (fo : Option Addr) (fc : Nat) (hx : a.eval y = .slice (some ⟨g, 0, none⟩) 1 1) (hc : ∀ (j : Nat) u, (nc d fo fc)[j]? = some u → w.cell? ⟨g, j, none⟩ = some u)
    (h63 : n < 977343669134) (hbase : base ≤ w.heap.size)
    (h : ∀ v' w', w'.ownsRow base 58 16 v' (n + 1) (xs ++ (nc d fo fc).toList) → Fi.Gw w w' v v' → wpList Try.prog ops Q rest (a.put o.dst v') w') :
    wpList Try.prog ops Q (o :: rest) a w := by
  obtain ⟨i, hi, hz, hz1, hz2⟩ := info_parts infoNd
  refine wpList_append_own_at w hgd s y 35 ho base 58 i _ 16 144 Try.underlying35 hi hz hz1 hz2 rfl (by omega) v n xs hs hown ⟨g, 0, none⟩ 1 1 (nc d fo fc).toList hx rfl ?_ ?_ (by unfold maxLen; omega) (by omega) hbase (fun v' w' k1 k2 _ k4 => h v' w' k1 ⟨k2, k4.imp id (fun e => ⟨_, e, Nat.le_refl _⟩)⟩)
  · intro j u hj
    have e6 : (⟨g, 0, none⟩ : Addr).add j = ⟨g, j, none⟩ := by unfold Addr.add; by_cases h : j = 0 <;> simp [h]
    rw [e6]
    exact hc j u (by rw [← Array.getElem?_toList]; exact hj)
  · intro u hu
    simp at hu
    rcases hu with rfl | rfl | rfl | rfl | rfl | rfl | rfl | rfl | rfl | rfl | rfl | rfl | rfl | rfl | rfl | rfl <;> rfl
/-- The same at a step of a drawn region: ints. -/
theorem step_append_i {w : World} {ops : Array Oper} {o : Oper} {a : Act} {K : Act → World → Prop} {Q : Exit → Act → World → Prop} {E : Prop} (hgd : o.guard = none) (s y : Operand)
    (ho : o.op = .call { callee := .builtin .append, args := #[s, y], argTypes := #[36, 36] })
    (base : Nat) (v : Value) (n : Nat) (xs : List Value) (hs : a.eval s = v) (hown : w.ownsRow base 3 1 v n xs)
    (g : Nat) (x : Int) (hx : a.eval y = .slice (some ⟨g, 0, none⟩) 1 1) (hc : w.cell? ⟨g, 0, none⟩ = some (.int .i64 x))
    (h63 : n < 17592186044416) (hbase : base ≤ w.heap.size)
    (h : ∀ v' w', w'.ownsRow base 3 1 v' (n + 1) (xs ++ [.int .i64 x]) → Fi.Gw w w' v v' → K (a.put o.dst v') w') :
    if Region.wanted o (yielded ops a.tmps) = true then Oper.wp Try.prog o a w K Q else E := by
  have hw : Region.wanted o (yielded ops a.tmps) = true := by simp [Region.wanted, hgd]
  rw [if_pos hw]
  obtain ⟨i, hi, hz, hz1, hz2⟩ := info_parts infoZ
  obtain ⟨v', w', hr, h2, h3, _, h5⟩ := run_append_own_at (P := Try.prog) w base 36 o.type 3 i (.int .i64 0) 1 8 Try.underlying36 hi hz hz1 hz2 rfl (by omega) v n xs hown ⟨g, 0, none⟩ 1 1 [.int .i64 x] rfl (fun j u hj => by
    match j, hj with
    | 0, hj => simp at hj; subst hj; simpa [Addr.add] using hc) (fun u hu => by simp at hu; subst hu; rfl) (by unfold maxLen; omega) (by omega) hbase
  have hK := h v' w' h2 ⟨h3, h5.imp id (fun e => ⟨_, e, Nat.le_refl _⟩)⟩
  unfold Oper.wp execOp
  simp only [ho, resolve, invoke, builtin, Sem.run_bind, Sem.run_pure, Result.andThen_ok, List.map_toArray, List.map_cons, List.map_nil, hs, hx, hr]
  exact hK
end Go.Proofs.Ytlodijemafnkfaj.Gh

/- GraphOrder, walked: rows while the other graph is made. -/
namespace Go.Proofs.Ytlodijemafnkfaj.Gh
open Go.RowKit Go.Maps Go.Sort Fl
set_option linter.unusedVariables false
set_option linter.unusedSimpArgs false

theorem infoBo : (Try.prog.info? 4).map (fun i => (i.zero, i.size, i.bytes)) = some (some (.bool false), 1, 1) := by kernel_rfl
/-- The other graph's own cells. -/
def hf (ins : Int) (a b : Value) : Nat → Value
  | 0 => .int .i64 ins
  | 1 => a
  | _ => b
/-- A node's cells, but for what it hears. -/
def xf (d : Nd) (v : Value) (i : Nat) : Value := if i = 1 then v else ((nc d none 0)[i]?).getD (.bool false)
/-- The nodes so far. -/
def dsk (g : Gr) (s : List Nat) (τ : Nat → Nat) (k : Nat) : List Nd := (s.take k).map (fun i => pm τ (nd g i))
theorem dsk_len {g : Gr} {s : List Nat} {τ : Nat → Nat} {k : Nat} (h : k ≤ s.length) : (dsk g s τ k).length = k := by
  unfold dsk; rw [List.length_map, List.length_take]; omega
theorem dsk_step {g : Gr} {s : List Nat} {τ : Nat → Nat} {k i : Nat} (h : s[k]? = some i) : dsk g s τ (k + 1) = dsk g s τ k ++ [pm τ (nd g i)] := by
  unfold dsk; rw [List.take_add_one, h, List.map_append]; rfl
theorem dsk_all {g : Gr} {s : List Nat} {τ : Nat → Nat} : dsk g s τ s.length = (gp g s τ).nodes := by
  unfold dsk; rw [List.take_of_length_le (Nat.le_refl _)]; rfl
structure L2 (w3 : World) (hb : Nat) (ins : Int) (ds : List Nd) (k : Nat) (ww : World) : Prop where
  v : ∃ go gc, ww.rowIs hb 38 3 (hf ins (.slice go k gc) (.slice none 0 0)) ∧ NO ww (hb + 1) (.slice go k gc) ds
  b : Below hb w3 ww
  z : hb + 1 ≤ ww.heap.size
structure L3 (w3 : World) (xk : Nat) (d : Nd) (τ : Nat → Nat) (j : Nat) (ww : World) : Prop where
  v : ∃ fo fc, ww.rowIs xk 58 16 (xf d (.slice fo j fc)) ∧ ww.ownsRow (xk + 1) 3 1 (.slice fo j fc) j (ils ((d.frm.take j).map (fun k => (τ k.toNat : Int))))
  b : Below xk w3 ww
  z : xk + 1 ≤ ww.heap.size
structure L4 (w5 : World) (hb : Nat) (ins : Int) (N : Nat) (go : Option Addr) (gc : Nat) (us : List Int) (j : Nat) (ww : World) : Prop where
  v : ∃ uo uc, ww.rowIs hb 38 3 (hf ins (.slice go N gc) (.slice uo j uc)) ∧ ww.ownsRow w5.heap.size 3 1 (.slice uo j uc) j (ils us)
  k : Kx (· = hb) w5 ww
theorem ils_snoc (l : List Int) (x : Int) : ils (l ++ [x]) = ils l ++ [.int .i64 x] := by unfold ils; rw [List.map_append]; rfl
/-- One more that a node hears. -/
theorem L3.push {w3 ww W w7 : World} {xk : Nat} {d : Nd} {τ : Nat → Nat} {j : Nat} {v v' : Value} {y : Int} (h : ww.rowIs xk 58 16 (xf d v)) (ho : ww.ownsRow (xk + 1) 3 1 v j (ils ((d.frm.take j).map (fun k => (τ k.toNat : Int))))) (hb0 : Below xk w3 ww) (hz : xk + 1 ≤ ww.heap.size) (hb : Below ww.heap.size ww W) (hg : Fi.Gw W w7 v v') (h7 : w7.ownsRow (xk + 1) 3 1 v' (j + 1) (ils ((d.frm.take j).map (fun k => (τ k.toNat : Int))) ++ [.int .i64 (τ y.toNat : Nat)])) (hy : d.frm[j]? = some y) : L3 w3 xk d τ (j + 1) (w7.setCell ⟨xk, 1, none⟩ v') := by
  have zb := hb.size
  have zg := hg.gr.size
  have hown := Fi.own_block ho
  have hkp : ∀ b, b < xk + 1 → w7.heap[b]? = ww.heap[b]? := fun b hb' => by
    rw [hg.gr.block b (by omega) (fun q => by have := hown b q.symm; omega), hb.block b (by omega)]
  obtain ⟨ao, c, rfl, _, _⟩ := Fi.own_form h7
  have hb7 : Below xk w3 w7 := by
    have hbW : Below xk w3 W := hb0.trans (hb.mono (by omega))
    exact hbW.trans (hg.bel (by omega) (fun k hk => by have := hown k hk; omega))
  refine ⟨⟨ao, c, ?_, ?_⟩, hb7.setCell (Nat.le_refl _) _, by rw [World.size_setCell]; omega⟩
  · refine World.rowIs.congr (World.rowIs.set (World.rowIs.of_block h (hkp xk (by omega))) 1 _) (fun u _ => ?_)
    unfold xf
    by_cases c : u = 1
    · rw [if_pos c, if_pos c]
    · rw [if_neg c, if_neg c, if_neg c]
  · have e : (d.frm.take (j + 1)).map (fun k => (τ k.toNat : Int)) = (d.frm.take j).map (fun k => (τ k.toNat : Int)) ++ [(τ y.toNat : Int)] := by rw [List.take_add_one, hy, List.map_append]; rfl
    rw [e, ils_snoc]
    exact Fi.own_step h7 (fun q hq => Below.heap_setCell _ _ _ _ (fun e => by
      have := Fi.own_block h7 q hq
      have e' : q = xk := e
      omega))
theorem L3.ils_z {w : World} {b : Nat} {v : Value} {l : List Int} (h : w.ownsRow b 3 1 v l.length (ils l)) : ∃ ao c, v = .slice ao l.length c ∧ l.length ≤ c ∧ c ≤ 9223372036854775807 ∧ (ao = none → c = 0) ∧ ZL w (fun k => b ≤ k ∧ k < w.heap.size) ao l := by
  obtain ⟨ao, c, a1, a2, a3, a4⟩ := own_ZL h
  refine ⟨ao, c, a1, a2, a3, fun hn => ?_, a4⟩
  rcases h.2 with ⟨q1, _⟩ | ⟨q, cap, cur, q1, _⟩
  · rw [a1] at q1; injection q1 with i1 i2 i3
  · rw [a1, hn] at q1; cases q1
/-- A node is done: it is put behind the others. -/
theorem L2.push {w3 w0 ww W w7 : World} {hb xk : Nat} {ins : Int} {g : Gr} {s : List Nat} {τ : Nat → Nat} {k i : Nat} {go : Option Addr} {gc : Nat} {v' : Value} {fo : Option Addr} {fc : Nat} (hk : k ≤ s.length) (hi : s[k]? = some i)
    (h : w0.rowIs hb 38 3 (hf ins (.slice go k gc) (.slice none 0 0))) (hN : NO w0 (hb + 1) (.slice go k gc) (dsk g s τ k)) (hb0 : Below hb w3 w0) (hz : hb + 1 ≤ w0.heap.size) (hxk : xk = w0.heap.size)
    (h3 : Below xk w0 ww) (hW : Below ww.heap.size ww W) (hNA : NA W (fun q => xk + 1 ≤ q ∧ q < ww.heap.size) (pm τ (nd g i)) fo fc) (Vs : List Value) (hVs : w0.ownsRow (hb + 1) 58 16 (.slice go k gc) k Vs) (hV : Vs.length = k * 16) (hq3 : ∀ (j : Nat) d, (dsk g s τ k)[j]? = some d → ∃ fo fc, (∀ (i : Nat) u, (nc d fo fc)[i]? = some u → Vs[j * 16 + i]? = some u) ∧ NA w0 (Fi.Sc (hb + 1) w0 (.slice go k gc)) d fo fc)
    (hg : Fi.Gw W w7 (.slice go k gc) v') (h7 : w7.ownsRow (hb + 1) 58 16 v' (k + 1) (Vs ++ (nc (pm τ (nd g i)) fo fc).toList)) : L2 w3 hb ins (dsk g s τ (k + 1)) (k + 1) (w7.setCell ⟨hb, 1, none⟩ v') := by
  subst hxk
  have z3 := h3.size
  have zW := hW.size
  have zg := hg.gr.size
  have hown := Fi.own_block hVs
  have hol := Fi.own_lt hVs
  have hbW : Below w0.heap.size w0 W := h3.trans (hW.mono z3)
  have hkp : ∀ b, b < hb + 1 → w7.heap[b]? = w0.heap[b]? := fun b hb' => by
    rw [hg.gr.block b (by omega) (fun q => by have := hown b q.symm; omega), hbW.block b (by omega)]
  obtain ⟨ao, c, rfl, _, _⟩ := Fi.own_form h7
  have hb7 : Below hb w3 w7 := (hb0.trans (hbW.mono (by omega))).trans (hg.bel (by omega) (fun q hq => by have := hown q hq; omega))
  have hno : NO w7 (hb + 1) (.slice ao (k + 1) c) (dsk g s τ (k + 1)) := by
    rw [dsk_step hi]
    refine NO.put Vs (by rw [dsk_len hk]; exact hV) hq3 hbW hg (by rw [dsk_len hk]; exact h7) ?_
    exact hNA.keep (fun _ _ _ => rfl) (Nat.le_refl _) (fun b hb' hl => ⟨by omega, hl, fun q => by have := hol b q.symm; omega⟩)
  refine ⟨⟨ao, c, ?_, ?_⟩, hb7.setCell (Nat.le_refl _) _, by rw [World.size_setCell]; omega⟩
  · refine World.rowIs.congr (World.rowIs.set (World.rowIs.of_block h (hkp hb (by omega))) 1 _) (fun u hu => ?_)
    match u, hu with
    | 0, _ => rfl
    | 1, _ => rfl
    | 2, _ => rfl
  · exact hno.keep (fun q hq hl => Below.heap_setCell _ _ _ _ (fun e => by
      have e' : q = hb := e
      omega)) (by rw [World.size_setCell]; exact Nat.le_refl _)
/-- One more that is heard outside. -/
theorem L4.push {w5 ww W w7 : World} {hb : Nat} {ins : Int} {N : Nat} {go : Option Addr} {gc : Nat} {us : List Int} {j : Nat} {uo : Option Addr} {uc : Nat} {v' : Value} {x : Int} (h : ww.rowIs hb 38 3 (hf ins (.slice go N gc) (.slice uo j uc))) (ho : ww.ownsRow w5.heap.size 3 1 (.slice uo j uc) j (ils us)) (hk : Kx (· = hb) w5 ww) (hu : hb < w5.heap.size) (hbW : Below ww.heap.size ww W) (hg : Fi.Gw W w7 (.slice uo j uc) v') (h7 : w7.ownsRow w5.heap.size 3 1 v' (j + 1) (ils us ++ [.int .i64 x])) : L4 w5 hb ins N go gc (us ++ [x]) (j + 1) (w7.setCell ⟨hb, 2, none⟩ v') := by
  have zb := hbW.size
  have zg := hg.gr.size
  have zk := hk.size
  have hown := Fi.own_block ho
  have hkp : ∀ b, b < w5.heap.size → w7.heap[b]? = ww.heap[b]? := fun b hb' => by
    rw [hg.gr.block b (by omega) (fun q => by have := hown b q.symm; omega), hbW.block b (by omega)]
  obtain ⟨ao, c, rfl, _, _⟩ := Fi.own_form h7
  refine ⟨⟨ao, c, ?_, ?_⟩, ?_⟩
  · refine World.rowIs.congr (World.rowIs.set (World.rowIs.of_block h (hkp hb hu)) 2 _) (fun u hu => ?_)
    match u, hu with
    | 0, _ => rfl
    | 1, _ => rfl
    | 2, _ => rfl
  · rw [ils_snoc]
    exact Fi.own_step h7 (fun q hq => Below.heap_setCell _ _ _ _ (fun e => by
      have := Fi.own_block h7 q hq
      have e' : q = hb := e
      omega))
  · have k7 : Kx (· = hb) w5 w7 := ⟨hg.gr.os.trans (hbW.os.trans hk.os), hg.gr.tape.trans (hbW.tape.trans hk.tape), hg.gr.output.trans (hbW.output.trans hk.output), by omega, fun b hb' hm => (hkp b hb').trans (hk.block b hb' hm)⟩
    exact k7.trans (Kx.put rfl)
end Go.Proofs.Ytlodijemafnkfaj.Gh

/- GraphRests, walked. -/
namespace Go.Proofs.Ytlodijemafnkfaj.Gh
open Go.RowKit Go.Maps Go.Sort Fl
set_option linter.unusedVariables false
set_option linter.unusedSimpArgs false

theorem RW.pl {w1 ww : World} {ob U nn : Nat} (h : RW w1 ob U nn U ww) (hn : nn ≤ 9223372036854775807) : Fi.PL ww ww.heap.size (some ⟨ob, 0, none⟩) (List.replicate U (List.replicate nn 0)) := ⟨fun _ => ⟨ob, 0, rfl, by have := h.z; omega, fun j p hj => by
  rw [List.getElem?_replicate] at hj
  split at hj
  · rename_i hjl
    cases hj
    refine ⟨some ⟨ob + 1 + j, 0, none⟩, nn, ?_, by simp, hn, fun h => (by cases h), ⟨fun _ => ⟨ob + 1 + j, 0, rfl, by have := h.z; omega, by have := h.z; omega, fun i x hi => ?_⟩⟩⟩
    · have := World.rowIs.cell h.r hjl
      rw [if_pos hjl] at this
      rw [Nat.zero_add, List.length_replicate]
      exact this
    · rw [List.getElem?_replicate] at hi
      split at hi
      · rename_i hin
        cases hi
        have := World.rowIs.cell (h.h j hjl) hin
        rw [Nat.zero_add]
        exact ⟨this, by decide⟩
      · cases hi
  · cases hj⟩⟩
theorem GH.bel {w w' : World} {g : Gr} {go uo : Option Addr} {gc uc : Nat} (h : GH w (fun b => b < w.heap.size) g go uo gc uc) (hb : Below w.heap.size w w') : GH w' (fun b => b < w'.heap.size) g go uo gc uc :=
  ⟨⟨fun i d hd => by
    obtain ⟨b, off, fo, fc, h1, h2, h3, h4, h5⟩ := h.n.at' i d hd
    have hz := hb.size
    exact ⟨b, off, fo, fc, h1, by omega, by omega, fun j v hv => (World.cell?_of_block (w := w) (w' := w') (a := ⟨b, _, none⟩) (hb.block b h3)).trans (h4 j v hv), h5.keep (fun b _ hl => hb.block b hl) hb.size (fun b hb _ => by omega)⟩⟩, h.gl, h.u.keep (fun b _ hl => hb.block b hl) hb.size (fun b hl _ => by have := hb.size; omega), h.ul, h.um, h.un⟩
set_option maxRecDepth 8000 in
set_option maxHeartbeats 8000000 in
theorem rests_walk (g : Gr) (go uo : Option Addr) (gc uc : Nat) (P : List (List Nat)) (io : Option Addr) (m ic nn mm : Nat) (w : World) (hG : GH w (fun b => b < w.heap.size) g go uo gc uc) (hP : Fi.PL w w.heap.size io P) (hm : P.length = m) (hc : m ≤ ic) (hcm : ic ≤ 9223372036854775807) (hml : m ≤ 5864062014805) (hn : nn ≤ 5000) (hmm : mm ≤ 5000) :
    Calls Try.prog 8 #[gvg g go uo gc uc, .slice io m ic, .int .i64 nn, .int .i64 mm] w fun e w' => e = .returned (.bool true) ∧ Below w.heap.size w w' := by
  obtain ⟨N, hN⟩ : ∃ N, N = g.nodes.length := ⟨_, rfl⟩
  obtain ⟨U, hU⟩ : ∃ U, U = g.outs.length := ⟨_, rfl⟩
  obtain ⟨ins, hins⟩ : ∃ ins, ins = g.ins := ⟨_, rfl⟩
  obtain ⟨W1, hW1⟩ : ∃ X, X = w.alloc (Obj.cells #[.int .i64 ins, .slice go N gc, .slice uo U uc] 38) := ⟨_, rfl⟩
  have HB1 : Hid (Below w.heap.size w W1) := by rw [hW1]; exact (Below.refl _ _).alloc (Nat.le_refl _) _
  have x0 : W1.cell? ⟨w.heap.size, 0, none⟩ = some (.int .i64 ins) := by rw [hW1]; simp [go_sem]
  have x1 : W1.cell? ⟨w.heap.size, 1, none⟩ = some (.slice go N gc) := by rw [hW1]; simp [go_sem]
  have x2 : W1.cell? ⟨w.heap.size, 2, none⟩ = some (.slice uo U uc) := by rw [hW1]; simp [go_sem]
  have hargs : gvg g go uo gc uc = .agg #[.int .i64 ins, .slice go N gc, .slice uo U uc] := by rw [hN, hU, hins]
  have HA : Hid (gvg g go uo gc uc = .agg #[.int .i64 ins, .slice go N gc, .slice uo U uc]) := hargs
  rw [hargs]
  have HG : Hid (GH w (fun b => b < w.heap.size) g go uo gc uc) := hG
  have HP : Hid (Fi.PL w w.heap.size io P) := hP
  have Hm : Hid (P.length = m) := hm
  have qa := alive_any W1
  have n1 : ¬ ((nn : Int) < 0) := by omega
  have n2 : ¬ ((5000 : Int) < (nn : Int)) := by omega
  have n3 : ¬ ((mm : Int) < 0) := by omega
  have n4 : ¬ ((5000 : Int) < (mm : Int)) := by omega
  obtain ⟨xb, hxb⟩ : ∃ xb, xb = w.heap.size := ⟨_, rfl⟩
  rw [← hxb] at x0 x1 x2
  have Hxb : Hid (xb = w.heap.size) := hxb
  clear hG hP hm hargs hN hU hins
  go_enter Try.func8, Try.ntmps8
  go_wp2_with fail
  rw [← hW1, ← hxb]
  clear hW1 hxb
  refine qa.mono ?_
  rintro e w2 ⟨rfl, hb2⟩
  have y0 := Fi.keepC hb2 (lt_cell x0) x0
  have y1 := Fi.keepC hb2 (lt_cell x1) x1
  have y2 := Fi.keepC hb2 (lt_cell x2) x2
  have HB2 : Hid (Below w.heap.size w w2) := HB1.out.trans (hb2.mono HB1.out.size)
  have ly := lt_cell y0
  obtain ⟨ob, hob⟩ : ∃ ob, ob = w2.heap.size := ⟨_, rfl⟩
  have mk : (Instr.makeSlice 27 (.int .i64 (m : Int)) (.int .i64 (m : Int))).run Try.prog w2 = .ok (.slice (some ⟨w2.heap.size, 0, none⟩) m m) (w2.alloc (.cells (madeCells #[.slice none 0 0] m) 25)) := run_make_row' (P := Try.prog) 27 25 (.slice none 0 0) 24 Try.underlying27 Fi.infoFs rfl .i64 .i64 m (by omega) (by omega) _
  have HRW : Hid (RW w2 w2.heap.size m mm 0 (w2.alloc (.cells (madeCells #[.slice none 0 0] m) 25))) := ⟨World.rowIs.congr (World.rowIs_made w2 (.slice none 0 0) m 25) (fun u _ => (if_neg (by omega)).symm), fun u hu => absurd hu (by omega), by simp, (Below.refl _ _).alloc (Nat.le_refl _) _⟩
  rw [← hob] at mk HRW
  have Hob : Hid (ob = w2.heap.size) := hob
  clear x0 x1 x2 qa hb2 HB1 hob ly
  go_wp2_with (simp only [mk])
  generalize w2.alloc (.cells (madeCells #[.slice none 0 0] m) 25) = W3 at *
  clear mk
  go_loopw [35] (fun i ww => ∃ k : Nat, k ≤ m ∧ i = .int .i64 k ∧ Hid (RW w2 ob m mm k ww)) (fun i _ => m - (intOf i).toNat)
  case atStart => exact ⟨0, by omega, rfl, HRW⟩
  case round =>
    obtain ⟨k, hk, rfl, hR⟩ := hrel
    by_cases hlt : k < m
    · have mk2 : (Instr.makeSlice 25 (.int .i64 (mm : Int)) (.int .i64 (mm : Int))).run Try.prog wr = .ok (.slice (some ⟨wr.heap.size, 0, none⟩) mm mm) (wr.alloc (.cells (madeCells #[.float .f64 0] mm) 22)) := run_make_row' (P := Try.prog) 25 22 (.float .f64 0) 8 Try.underlying25 Fi.infoF rfl .i64 .i64 mm (by omega) (by omega) _
      have hz := hR.out.z
      rw [hz] at mk2
      have HR2 : Hid (RW w2 ob m mm (k + 1) ((wr.alloc (.cells (madeCells #[.float .f64 0] mm) 22)).setCell ⟨ob, k, none⟩ (.slice (some ⟨ob + 1 + k, 0, none⟩) mm mm))) := hR.out.step hlt
      have y1 := World.rowIs.cell (World.rowIs.alloc hR.out.r (.cells (madeCells #[.float .f64 0] mm) 22)) hlt
      have y2 := World.rowIs.frozen (World.rowIs.alloc hR.out.r (.cells (madeCells #[.float .f64 0] mm) 22)) k
      have y3 := World.rowIs.lt (World.rowIs.alloc hR.out.r (.cells (madeCells #[.float .f64 0] mm) 22))
      rw [if_neg (by omega)] at y1
      have hlt' : (k : Int) < (m : Int) := by omega
      have w3 : IntKind.i64.wrap ((k : Int) + 1) = (k : Int) + 1 := wid (by omega) (by omega)
      generalize hwa : wr.alloc (.cells (madeCells #[.float .f64 0] mm) 22) = WA at *
      clear hR hz hwa
      go_wp2_with (simp only [mk2])
      exact ⟨⟨k + 1, by omega, by go_num, HR2⟩, by simp [intOf]; omega⟩
    · obtain rfl : k = m := by omega
      have hbr := hR.out.b
      have c0 := Fi.keepC hbr (by rw [Hob.out]; exact lt_cell y0) y0
      have c1 := Fi.keepC hbr (by rw [Hob.out]; exact lt_cell y1) y1
      have c2 := Fi.keepC hbr (by rw [Hob.out]; exact lt_cell y2) y2
      have lc := lt_cell c0
      have hbw : Below w.heap.size w wr := HB2.out.trans (hbr.mono (by rw [Hob.out]; exact HB2.out.size))
      obtain ⟨W4, hW4⟩ : ∃ X, X = wr.alloc (Obj.cells #[.slice io k ic, .int .i64 nn, .bool false, .slice (some ⟨ob, 0, none⟩) k k, .int .i64 mm, .bool false, .slice io k ic, .int .i64 nn, .bool true] 45) := ⟨_, rfl⟩
      have hb4 : Below wr.heap.size wr W4 := by rw [hW4]; exact (Below.refl _ _).alloc (Nat.le_refl _) _
      have z4 : W4.heap.size = wr.heap.size + 1 := by rw [hW4]; simp
      have hbw4 : Below w.heap.size w W4 := hbw.trans (hb4.mono hbw.size)
      have hPL : Fi.PL W4 W4.heap.size io P := PLmono (HP.out.keep (Nat.le_refl _) (fun b hb => hbw4.block b hb) hbw4.size) hbw4.size
      have hPS : Fi.PL W4 W4.heap.size (some ⟨ob, 0, none⟩) (List.replicate k (List.replicate mm 0)) := PLmono ((hR.out.pl (by omega)).keep (Nat.le_refl _) (fun b hb => hb4.block b hb) hb4.size) hb4.size
      have hPc : PcL W4 W4.heap.size (some ⟨wr.heap.size, 0, none⟩) (p3 P nn mm k) := ⟨fun i p hp => by
        match i, hp with
        | 0, hp =>
          cases hp
          refine ⟨wr.heap.size, 0, io, ic, rfl, by omega, ?_, ?_, ?_, by show P.length ≤ ic; rw [Hm.out]; exact hc, hcm, hPL⟩
          · rw [hW4]; simp [go_sem]; rw [Hm.out]
          · rw [hW4]; simp [go_sem]
          · rw [hW4]; simp [go_sem]
        | 1, hp =>
          cases hp
          refine ⟨wr.heap.size, 0, some ⟨ob, 0, none⟩, k, rfl, by omega, ?_, ?_, ?_, by simp, by omega, hPS⟩
          · rw [hW4]; simp [go_sem]
          · rw [hW4]; simp [go_sem]
          · rw [hW4]; simp [go_sem]
        | 2, hp =>
          cases hp
          refine ⟨wr.heap.size, 0, io, ic, rfl, by omega, ?_, ?_, ?_, by show P.length ≤ ic; rw [Hm.out]; exact hc, hcm, hPL⟩
          · rw [hW4]; simp [go_sem]; rw [Hm.out]
          · rw [hW4]; simp [go_sem]
          · rw [hW4]; simp [go_sem]
        | i + 3, hp => cases hp⟩
      have q := Sound_any cirC g go uo gc uc (p3 P nn mm k) (some ⟨wr.heap.size, 0, none⟩) 3 3 (fun _ => i3 g P nn) W4 (HG.out.bel hbw4) hPc rfl (by omega) (by omega) (by omega) (fun _ _ _ _ => rfl) (p3_J g P nn mm k)
      rw [HA.out] at q
      have HB4 : Hid (Below w.heap.size w W4) := hbw4
      clear hR hbr hPc hPL hPS hbw hbw4 hb4 z4 HRW hlt y0 y1 y2
      go_wp2_with fail
      rw [← hW4]
      clear hW4
      refine q.mono ?_
      intro e w5 hS
      have HB5 : Hid (Below w.heap.size w w5) := HB4.out.trans (hS.b.mono HB4.out.size)
      by_cases hne : ne0 g = 0
      · by_cases hcy : Cyc g
        · have hex := hS.cyc hne hcy
          subst hex
          clear hS q
          go_wp2_with fail
          go_returns
          exact ⟨rfl, HB5.out⟩
        · obtain ⟨v, base, rfl, hb1, hb2, hH⟩ := hS.ok hne hcy
          clear hS q
          obtain ⟨x3, hx3⟩ := p3_r g P nn mm k
          rw [hx3] at hH
          obtain ⟨q, cap, ao, c, hv, k1, k2, k3, k4, d1, d2, o1, k8, k9⟩ := hH.at (j := 0) (r := (h3 g P nn, er g P nn)) rfl
          obtain ⟨q', cap', ao', c', hv', k1', k2', k3', k4', d3, d4, o2, k8', k9'⟩ := hH.at (j := 2) (r := (h3 g P nn, er g P nn)) rfl
          rw [hv] at hv'
          cases hv'
          obtain ⟨U3, hU3⟩ : ∃ X, X = (h3 g P nn).length := ⟨_, rfl⟩
          obtain ⟨E3, hE3⟩ : ∃ X, X = er g P nn := ⟨_, rfl⟩
          have hv3 : v = .slice (some ⟨q, 0, none⟩) 3 cap := hv
          have kc : 3 ≤ cap := k1
          subst hv3
          have f1 : w5.cell? ⟨q, 0, none⟩ = some (.slice ao U3 c) := by rw [hU3]; exact d1
          have f2 : w5.cell? ⟨q, 1, none⟩ = some (.int .i64 E3) := by rw [hE3]; exact d2
          have f3 : w5.cell? ⟨q, 4, none⟩ = some (.slice ao' U3 c') := by rw [hU3]; exact d3
          have f4 : w5.cell? ⟨q, 5, none⟩ = some (.int .i64 E3) := by rw [hE3]; exact d4
          rw [← hU3] at o1 o2 k8 k8'
          have HO1 : Hid (OL w5 (Sz (fun b => base ≤ b) w5 (.slice (some ⟨q, 0, none⟩) 3 cap)) (.slice ao U3 c) (h3 g P nn)) := o1
          have HO2 : Hid (OL w5 (Sz (fun b => base ≤ b) w5 (.slice (some ⟨q, 0, none⟩) 3 cap)) (.slice ao' U3 c') (h3 g P nn)) := o2
          have HU3 : Hid (U3 = (h3 g P nn).length) := hU3
          clear hH hv d1 d2 d3 d4 o1 o2 hU3 hE3 k1 k1' k2' k3' k4 k4' hx3 x3 HB4 hb1 hb2 c0 c1 c2 lc hne hcy
          go_wp2_with fail
          go_region
          have HBd : Hid (Below w5.heap.size w5 w5.drew) := belD' (n := 1)
          have g1 : w5.drew.cell? ⟨q, 0, none⟩ = some (.slice ao U3 c) := f1
          have g3 : w5.drew.cell? ⟨q, 4, none⟩ = some (.slice ao' U3 c') := f3
          clear f2 f4
          generalize w5.drew = w6 at *
          go_wp2_with fail
          go_loopw [93] (fun i ww => ∃ j : Nat, j ≤ U3 ∧ i = .int .i64 j ∧ Hid (Below w5.heap.size w5 ww)) (fun i _ => U3 - (intOf i).toNat)
          case atStart => exact ⟨0, by omega, rfl, HBd⟩
          case round =>
            obtain ⟨j, hj, rfl, hbj⟩ := hrel
            have e1 := Fi.keepC hbj.out k3 f1
            have e3 := Fi.keepC hbj.out k3 f3
            have le1 := lt_cell e1
            by_cases hlt : j < U3
            · obtain ⟨r, hr⟩ : ∃ r, (h3 g P nn)[j]? = some r := ⟨_, List.getElem?_eq_getElem (by rw [← HU3.out]; exact hlt)⟩
              have hrl := h3_len g P nn j r hr
              have hO1 := HO1.out.keep (w' := wr) (S' := fun _ => True) (fun b _ hl => hbj.out.block b hl) hbj.out.size (fun _ _ _ => trivial)
              have hO2 := HO2.out.keep (w' := wr) (S' := fun _ => True) (fun b _ hl => hbj.out.block b hl) hbj.out.size (fun _ _ _ => trivial)
              obtain ⟨_, _, m1, m2, m3, m4⟩ := hO1.ex
              injection m1 with i1 i2 i3
              subst i1
              subst i3
              obtain ⟨b1, of1, rfl, _, n3, n4⟩ := m4 (by rw [← HU3.out]; omega)
              obtain ⟨xa, xa1, xa2⟩ := n4 j r hr
              obtain ⟨ga, aa, ca, rfl, y2, y3, y4, y5, y6⟩ := xa2.ex
              obtain ⟨_, _, m1', m2', m3', m4'⟩ := hO2.ex
              injection m1' with i1' i2' i3'
              subst i1'
              subst i3'
              obtain ⟨b2, of2, rfl, _, n3', n4'⟩ := m4' (by rw [← HU3.out]; omega)
              obtain ⟨xb', xb1, xb2⟩ := n4' j r hr
              obtain ⟨gb, ab', cb, rfl, z2, z3, z4, z5, z6⟩ := xb2.ex
              have hla : ga.length = nn := by rw [← Fi.abs_len, y5, hrl]
              have hlb : gb.length = nn := by rw [← Fi.abs_len, z5, hrl]
              rw [hla] at xa1 y2
              rw [hlb] at xb1 z2
              have hq : ∀ nq, Calls Try.prog 12 #[.slice aa nn ca, .slice ab' nn cb] (wr.drewN nq) fun e w' => e = .returned (.bool true) ∧ Below (wr.drewN nq).heap.size (wr.drewN nq) w' := fun nq => Fi.LikeAll_eq (wr.drewN nq) _ _ aa ab' ga gb nn ca cb (y6.keep (fun _ _ _ => rfl) (Nat.le_refl _) (fun _ h _ => h)) (z6.keep (fun _ _ _ => rfl) (Nat.le_refl _) (fun _ h _ => h)) (y5.trans z5.symm) hla (by omega) y2 y3 z2 z3
              have hlt' : (j : Int) < (U3 : Int) := by omega
              have w3 : IntKind.i64.wrap ((j : Int) + 1) = (j : Int) + 1 := wid (by omega) (by omega)
              have lx1 := lt_cell xa1
              have lx2 := lt_cell xb1
              clear hO1 hO2 i2 i2' m4 n4 m4' n4' xa2 xb2 y6 z6 y5 z5 hla hlb hr hrl m2 m3 m2' m3' y4 z4 n3 n3'
              go_wp2_with fail
              refine U2.wp_region_tail_read 14 (by decide) (by kernel_rfl) (by kernel_rfl) (by kernel_rfl) (by kernel_rfl) ?_
              dsimp only [List.take, List.drop]
              repeat (quiet_step (fail))
              refine wpQuiet_nil ?_
              rintro w7 ⟨nq, rfl⟩
              go_wp2_with fail
              refine (hq nq).mono ?_
              rintro e w8 ⟨rfl, hb8⟩
              have HB8 : Hid (Below w5.heap.size w5 w8) := Below.trans hbj.out (Below.mono (show Below wr.heap.size wr w8 from Below.trans belD' hb8) hbj.out.size)
              clear hq hb8
              go_wp2_with fail
              exact ⟨⟨j + 1, by omega, by go_num, HB8⟩, by simp [intOf]; omega⟩
            · obtain rfl : j = U3 := by omega
              go_wp2_with fail
              go_returns
              exact ⟨rfl, HB5.out.trans (hbj.out.mono HB5.out.size)⟩
      · have hex := hS.bad hne
        subst hex
        clear hS q
        go_wp2_with fail
        go_returns
        exact ⟨rfl, HB5.out⟩
set_option maxRecDepth 8000 in
set_option maxHeartbeats 8000000 in
theorem rests_out (ins : Int) (go uo io : Option Addr) (N gc U uc m ic : Nat) (n mo : Int) (w : World) (h : n < 0 ∨ 5000 < n ∨ mo < 0 ∨ 5000 < mo) :
    Calls Try.prog 8 #[.agg #[.int .i64 ins, .slice go N gc, .slice uo U uc], .slice io m ic, .int .i64 n, .int .i64 mo] w fun e w' => e = .returned (.bool true) ∧ Below w.heap.size w w' := by
  obtain ⟨W1, hW1⟩ : ∃ X, X = w.alloc (Obj.cells #[.int .i64 ins, .slice go N gc, .slice uo U uc] 38) := ⟨_, rfl⟩
  have HB1 : Hid (Below w.heap.size w W1) := by rw [hW1]; exact (Below.refl _ _).alloc (Nat.le_refl _) _
  have qa := alive_any W1
  have H : Hid (¬ (((0 ≤ n ∧ n ≤ 5000) ∧ 0 ≤ mo) ∧ mo ≤ 5000)) := by show ¬ _; omega
  clear h
  go_enter Try.func8, Try.ntmps8
  go_wp2_with fail
  rw [← hW1]
  clear hW1
  refine qa.mono ?_
  rintro e w2 ⟨rfl, hb2⟩
  have HB2 : Hid (Below w.heap.size w w2) := HB1.out.trans (hb2.mono HB1.out.size)
  clear qa hb2 HB1
  go_wp2_with fail
  all_goals first
    | (exfalso; apply H.out; assumption)
    | (go_returns; exact ⟨rfl, HB2.out⟩)
theorem rests_any (g : Gr) (go uo : Option Addr) (gc uc : Nat) (P : List (List Nat)) (io : Option Addr) (m ic : Nat) (n mo : Int) (w : World) (hG : GH w (fun b => b < w.heap.size) g go uo gc uc) (hP : Fi.PL w w.heap.size io P) (hm : P.length = m) (hc : m ≤ ic) (hcm : ic ≤ 9223372036854775807) (hml : m ≤ 5864062014805) :
    Calls Try.prog 8 #[gvg g go uo gc uc, .slice io m ic, .int .i64 n, .int .i64 mo] w fun e w' => e = .returned (.bool true) ∧ Below w.heap.size w w' := by
  by_cases c : n < 0 ∨ 5000 < n ∨ mo < 0 ∨ 5000 < mo
  · exact rests_out g.ins go uo io g.nodes.length gc g.outs.length uc m ic n mo w c
  · obtain ⟨nn, rfl⟩ := Int.eq_ofNat_of_zero_le (show 0 ≤ n by omega)
    obtain ⟨mm, rfl⟩ := Int.eq_ofNat_of_zero_le (show 0 ≤ mo by omega)
    exact rests_walk g go uo gc uc P io m ic nn mm w hG hP hm hc hcm hml (by omega) (by omega)
end Go.Proofs.Ytlodijemafnkfaj.Gh

/- GraphOrder: one piece; the other graph as it is handed on. -/
namespace Go.Proofs.Ytlodijemafnkfaj.Gh
open Go.RowKit Go.Maps Go.Sort Fl
set_option linter.unusedVariables false
set_option linter.unusedSimpArgs false

/-- One piece. -/
def p1 (P : List (List Nat)) (nn : Nat) : List Pc := [⟨P, nn, false⟩]
/-- What is heard of it. -/
def h1 (g : Gr) (P : List (List Nat)) (nn : Nat) : List (List (Option Nat)) := if er g P nn = 0 then outR g (vl g (iB P)) 0 nn else []
theorem p1_J (g : Gr) (P : List (List Nat)) (nn : Nat) : ∀ k p, (p1 P nn)[k]? = some p → er g p.ins p.n = 0 → ∀ (q : Nat) l, p.ins[q]? = some l → ∀ i, i < p.n.toNat → iB P q (t0 (tst g 0 ((p1 P nn).take k)) p + i) = ab (l.getD i 0) := by
  intro k p hp he q l hl i hi
  match k, hp with
  | 0, hp =>
    cases hp
    have e : t0 (tst g 0 ((p1 P nn).take 0)) ⟨P, nn, false⟩ + i = i := by show 0 + i = i; omega
    rw [e]
    unfold iB
    rw [show P.getD q [] = l by rw [List.getD_eq_getElem?_getD, hl]; rfl]
  | k + 1, hp => cases hp
theorem p1_r (g : Gr) (P : List (List Nat)) (nn : Nat) : rsl g (fun _ => iB P) 0 0 (p1 P nn) = [(h1 g P nn, er g P nn)] := rfl
theorem h1_len (g : Gr) (P : List (List Nat)) (nn : Nat) : ∀ (k : Nat) r, (h1 g P nn)[k]? = some r → r.length = nn := by
  intro k r hr
  unfold h1 at hr
  split at hr
  · unfold outR at hr
    rw [List.getElem?_map] at hr
    cases h : g.outs[k]? with
    | none => rw [h] at hr; cases hr
    | some o => rw [h] at hr; cases hr; simp
  · cases hr
/-- In whatever order: the same. -/
theorem h1_perm {g : Gr} {s : List Nat} {τ : Nat → Nat} (h : Pm g.nodes.length s τ) (hw : ne0 g = 0) (P : List (List Nat)) (nn : Nat) : h1 (gp g s τ) P nn = h1 g P nn ∧ er (gp g s τ) P nn = er g P nn := by
  have e : er (gp g s τ) P nn = er g P nn := rfl
  refine ⟨?_, e⟩
  have hW := ne0_wf hw
  unfold h1
  rw [e]
  split
  · refine outR_perm h hw (iB P) (fun i hi => ?_) (fun i hi => ?_) ?_ 0 nn
    · exact (hW.n (nd g i) (by unfold nd; rw [List.getD_eq_getElem?_getD, List.getElem?_eq_getElem hi]; exact List.getElem_mem hi)).1
    · exact (hW.n (nd g i) (by unfold nd; rw [List.getD_eq_getElem?_getD, List.getElem?_eq_getElem hi]; exact List.getElem_mem hi)).2.1
    · exact hW.o
  · rfl
theorem p1_L {w w0 : World} {P : List (List Nat)} {io : Option Addr} {m ic nn : Nat} (hP : Fi.PL w0 w0.heap.size io P) (hm : P.length = m) (hc : m ≤ ic) (hcm : ic ≤ 9223372036854775807) (hb : Below w0.heap.size w0 w) : PcL (w.alloc (Obj.cells #[.slice io m ic, .int .i64 nn, .bool false] 45)) ((w.alloc (Obj.cells #[.slice io m ic, .int .i64 nn, .bool false] 45)).heap.size) (some ⟨w.heap.size, 0, none⟩) (p1 P nn) := ⟨fun i p hp => by
  have hb2 : Below w0.heap.size w0 (w.alloc (Obj.cells #[.slice io m ic, .int .i64 nn, .bool false] 45)) := hb.alloc hb.size _
  match i, hp with
  | 0, hp =>
    cases hp
    refine ⟨w.heap.size, 0, io, ic, rfl, by simp, ?_, ?_, ?_, by show P.length ≤ ic; rw [hm]; exact hc, hcm, PLmono (hP.keep (Nat.le_refl _) (fun b hb => hb2.block b hb) hb2.size) hb2.size⟩
    · simp [go_sem]; exact hm.symm
    · simp [go_sem]
    · simp [go_sem]
  | i + 1, hp => cases hp⟩
/-- The other graph is handed on. -/
theorem L4.gh {w5 ww : World} {hb : Nat} {ins : Int} {N : Nat} {go : Option Addr} {gc : Nat} {g : Gr} {s : List Nat} {τ : Nat → Nat} {uo : Option Addr} {uc : Nat} (hN : NO w5 (hb + 1) (.slice go N gc) (gp g s τ).nodes) (ho : ww.ownsRow w5.heap.size 3 1 (.slice uo (gp g s τ).outs.length uc) (gp g s τ).outs.length (ils (gp g s τ).outs)) (hk : Kx (· = hb) w5 ww) : GH ww (fun b => b < ww.heap.size) (gp g s τ) go uo gc uc := by
  have hN' := hN.keep (w' := ww) (fun j hj hl => hk.block j hl (by omega)) hk.size
  obtain ⟨go', gc', e1, e2, e3, e4⟩ := hN'.ga
  injection e1 with i1 i2 i3
  subst i1
  subst i3
  obtain ⟨ao, c, a1, a2, a3, a4, a5⟩ := L3.ils_z ho
  injection a1 with j1 j2 j3
  subst j1
  subst j3
  exact ⟨e4, e2, a5.keep (fun _ _ _ => rfl) (Nat.le_refl _) (fun b hb hl => hl), a2, a3, a4⟩
end Go.Proofs.Ytlodijemafnkfaj.Gh
