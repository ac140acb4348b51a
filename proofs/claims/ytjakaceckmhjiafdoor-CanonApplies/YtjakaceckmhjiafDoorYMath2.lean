/- Changes of lines: what they do, one behind the other (the plain part of the laws of chapter 9). -/
import Derived.Test.YtjakaceckmhjiafDoorYMath
namespace Go.Proofs.YtjakaceckmhjiafDoor.Y
set_option linter.unusedVariables false
set_option linter.unusedSimpArgs false

def sS (c : Ch) (v : Int) : Int := if c.mir = true then 2 * M.st c.xl c.xo - v + c.s else v + c.s
def sH (c : Ch) (v : Int) : Int := if c.mir = true then 2 * M.hv c.xl c.xa c.xo - v + c.h else v + c.h
/-- What a change makes of a pitch, by places. -/
theorem pe_ok {c : Ch} {l a o : Int} (e : pe c l a o = 0) : M.rt l a o = true ∧ M.inb c.s c.h = true ∧ M.rt (px c l a o) (py c l a o) (pz c l a o) = true ∧ M.st (px c l a o) (pz c l a o) = sS c (M.st l o) ∧ M.hv (px c l a o) (py c l a o) (pz c l a o) = sH c (M.hv l a o) ∧ (c.mir = true → M.rt c.xl c.xa c.xo = true ∧ M.re l a o c.xl c.xa c.xo = 0) := by
  unfold pe at e
  unfold px py pz sS sH
  by_cases hm : c.mir = true
  · rw [if_pos hm] at e
    simp only [hm, if_true]
    by_cases hre : M.re l a o c.xl c.xa c.xo = 0
    · rw [if_neg (by simp [hre])] at e
      obtain ⟨q1, q2, q3, q4, q5⟩ := M.mirror_ok hre
      obtain ⟨m1, m2, m3, m4, m5⟩ := M.move_ok e
      exact ⟨q1, m2, m3, by omega, by omega, fun _ => ⟨q2, hre⟩⟩
    · rw [if_pos hre] at e; exact absurd e hre
  · rw [if_neg hm] at e
    simp only [hm]
    obtain ⟨m1, m2, m3, m4, m5⟩ := M.move_ok e
    exact ⟨m1, m2, m3, by simpa using m4, by simpa using m5, fun h => absurd h (by decide)⟩
theorem cx_rt {c : Ch} {E : Int} {x : Tn} (h : ce c E x = 0) : M.rt (cx c E x).l (cx c E x).a (cx c E x).o = true := (pe_ok (ce_zero h).1).2.2.1
theorem cx_st {c : Ch} {E : Int} {x : Tn} (h : ce c E x = 0) : M.st (cx c E x).l (cx c E x).o = sS c (M.st x.l x.o) := (pe_ok (ce_zero h).1).2.2.2.1
theorem cx_hv {c : Ch} {E : Int} {x : Tn} (h : ce c E x = 0) : M.hv (cx c E x).l (cx c E x).a (cx c E x).o = sH c (M.hv x.l x.a x.o) := (pe_ok (ce_zero h).1).2.2.2.2.1
/-- Tones that are right and stand at one place are one. -/
theorem tn_one {x y : Tn} (hx : M.rt x.l x.a x.o = true) (hy : M.rt y.l y.a y.o = true) (h1 : x.t = y.t) (h2 : x.g = y.g) (h3 : M.st x.l x.o = M.st y.l y.o) (h4 : M.hv x.l x.a x.o = M.hv y.l y.a y.o) : x = y := by
  obtain ⟨e1, e2, e3⟩ := M.rt_one hx hy h3 h4
  exact Tn.same h1 h2 e1 e2 e3

theorem a1_nn {c : Ch} {T : Nat → Tn} {n : Nat} (h : OkL T n) {j : Nat} (hj : j < n) : 0 ≤ a1 c (en T n) (T j) := by
  have h1 := en_ge T n j hj
  have h2 := okT_yes (h.ok j hj)
  unfold a1; split <;> omega
/-- What a change makes is a right tone. -/
theorem cx_ok {c : Ch} {T : Nat → Tn} {n : Nat} (h : OkL T n) (hr : rng c = true) {j : Nat} (hj : j < n) (he : ce c (en T n) (T j) = 0) : okT (cx c (en T n) (T j)) = true := by
  obtain ⟨r1, r2, r3, r4⟩ := rng_yes hr
  obtain ⟨f1, f2⟩ := far_no (ce_zero he).2
  have h1 := a1_nn (c := c) h hj
  have h2 := okT_yes (h.ok j hj)
  have m1 : 0 ≤ c.slow * a1 c (en T n) (T j) := Int.mul_nonneg (by omega) h1
  have m2 : 1 ≤ c.slow * (T j).g := by
    have := Int.mul_le_mul r1 h2.2.2.1 (by omega) (by omega)
    omega
  exact okT_mk ⟨show 0 ≤ c.slow * a1 c (en T n) (T j) + c.d by omega, f1, m2, f2⟩
structure App (c : Ch) (T : Nat → Tn) (n : Nat) (U : Nat → Tn) : Prop where
  ok : ae c T n = 0
  perm : (tab U n).Perm (tab (fun j => cx c (en T n) (T j)) n)
  ord : Ord (tab U n)
theorem App.mem {c : Ch} {T U : Nat → Tn} {n : Nat} (h : App c T n U) {i : Nat} (hi : i < n) : ∃ j, j < n ∧ cx c (en T n) (T j) = U i := by
  have : U i ∈ tab (fun j => cx c (en T n) (T j)) n := h.perm.mem_iff.1 (mem_tab.2 ⟨i, hi, rfl⟩)
  exact mem_tab.1 this
theorem App.mem' {c : Ch} {T U : Nat → Tn} {n : Nat} (h : App c T n U) {j : Nat} (hj : j < n) : ∃ i, i < n ∧ U i = cx c (en T n) (T j) := by
  have : cx c (en T n) (T j) ∈ tab U n := h.perm.mem_iff.2 (mem_tab.2 ⟨j, hj, rfl⟩)
  exact mem_tab.1 this
theorem App.okl {c : Ch} {T U : Nat → Tn} {n : Nat} (h : App c T n U) : OkL U n := by
  obtain ⟨hT, hr, hz⟩ := ae_zero h.ok
  refine ⟨hT.len, fun i hi => ?_, fun i hi => ?_, ord_tab.1 h.ord⟩
  · obtain ⟨j, hj, e⟩ := h.mem hi
    rw [← e]; exact cx_ok hT hr hj (hz j hj)
  · obtain ⟨j, hj, e⟩ := h.mem hi
    rw [← e]; exact cx_rt (hz j hj)
/-- One change and then another one is a third one, where it is so of each tone. -/
theorem twice_ok {c d b : Ch} {T U V Z : Nat → Tn} {n : Nat} (h1 : App c T n U) (h2 : App d U n V) (h3 : App b T n Z)
    (h : ∀ j, j < n → cx d (en U n) (cx c (en T n) (T j)) = cx b (en T n) (T j)) : tab V n = tab Z n := by
  refine ord_one ?_ h2.ord h3.ord
  refine h2.perm.trans (List.Perm.trans ?_ h3.perm.symm)
  have e1 : tab (fun j => cx d (en U n) (U j)) n = (tab U n).map (cx d (en U n)) := (tab_map _ _ _).symm
  rw [e1]
  refine (h1.perm.map _).trans ?_
  rw [tab_map]
  exact List.Perm.of_eq (tab_ext h)
theorem App.one {c : Ch} {T U V : Nat → Tn} {n : Nat} (h1 : App c T n U) (h2 : App c T n V) : tab U n = tab V n := ord_one (h1.perm.trans h2.perm.symm) h1.ord h2.ord
/-- .. by its time and its places. -/
theorem cx_two {c d b : Ch} {E E' E'' : Int} {x : Tn} (hc : ce c E x = 0) (hd : ce d E' (cx c E x) = 0) (hb : ce b E'' x = 0) (ht : d.slow * a1 d E' (cx c E x) + d.d = b.slow * a1 b E'' x + b.d) (hg : d.slow * (c.slow * x.g) = b.slow * x.g)
    (hS : sS d (sS c (M.st x.l x.o)) = sS b (M.st x.l x.o)) (hH : sH d (sH c (M.hv x.l x.a x.o)) = sH b (M.hv x.l x.a x.o)) : cx d E' (cx c E x) = cx b E'' x := by
  refine tn_one (cx_rt hd) (cx_rt hb) ht hg ?_ ?_
  · rw [cx_st hd, cx_st hc, cx_st hb]; exact hS
  · rw [cx_hv hd, cx_hv hc, cx_hv hb]; exact hH
theorem App.each {c d : Ch} {T U V : Nat → Tn} {n : Nat} (h1 : App c T n U) (h2 : App d U n V) {j : Nat} (hj : j < n) : ce c (en T n) (T j) = 0 ∧ ce d (en U n) (cx c (en T n) (T j)) = 0 := by
  refine ⟨(ae_zero h1.ok).2.2 j hj, ?_⟩
  obtain ⟨i, hi, e⟩ := h1.mem' hj
  rw [← e]; exact (ae_zero h2.ok).2.2 i hi

/-- Changes of one kind. -/
def later (a : Int) : Ch := ⟨false, 1, false, 0, 0, 0, 0, 0, a⟩
def slower (a : Int) : Ch := ⟨false, a, false, 0, 0, 0, 0, 0, 0⟩
def moved (s h : Int) : Ch := ⟨false, 1, false, 0, 0, 0, s, h, 0⟩
def mirrored (l a o : Int) : Ch := ⟨false, 1, true, l, a, o, 0, 0, 0⟩
def backed : Ch := ⟨true, 1, false, 0, 0, 0, 0, 0, 0⟩
def sm (a b : Int) : Int := if a < 0 ∨ b < 0 ∨ 1048576 < a ∨ 1048576 < b then -1 else a + b
theorem later_two {a b : Int} {T U V Z : Nat → Tn} {n : Nat} (h1 : App (later a) T n U) (h2 : App (later b) U n V) (h3 : App (later (sm a b)) T n Z) : tab V n = tab Z n := by
  have hs : sm a b = a + b := by
    have := (rng_yes (ae_zero h3.ok).2.1).2.2.1
    unfold later at this
    simp only at this
    unfold sm at this ⊢
    split at this
    · omega
    · rename_i hh; rw [if_neg hh]
  refine twice_ok h1 h2 h3 fun j hj => ?_
  obtain ⟨e1, e2⟩ := h1.each h2 hj
  refine cx_two e1 e2 ((ae_zero h3.ok).2.2 j hj) ?_ ?_ ?_ ?_
  · rw [hs]; show 1 * (1 * (T j).t + a) + b = 1 * (T j).t + (a + b); omega
  · show 1 * (1 * (T j).g) = 1 * (T j).g; omega
  · show M.st (T j).l (T j).o + 0 + 0 = _ + 0; omega
  · show M.hv (T j).l (T j).a (T j).o + 0 + 0 = _ + 0; omega
theorem slower_two {a b : Int} {T U V Z : Nat → Tn} {n : Nat} (h1 : App (slower a) T n U) (h2 : App (slower b) U n V) (h3 : App (slower (a * b)) T n Z) : tab V n = tab Z n := by
  refine twice_ok h1 h2 h3 fun j hj => ?_
  obtain ⟨e1, e2⟩ := h1.each h2 hj
  refine cx_two e1 e2 ((ae_zero h3.ok).2.2 j hj) ?_ ?_ ?_ ?_
  · show b * (a * (T j).t + 0) + 0 = (a * b) * (T j).t + 0
    rw [Int.add_zero, Int.add_zero, Int.add_zero, ← Int.mul_assoc, Int.mul_comm b a]
  · show b * (a * (T j).g) = (a * b) * (T j).g
    rw [← Int.mul_assoc, Int.mul_comm b a]
  · show M.st (T j).l (T j).o + 0 + 0 = _ + 0; omega
  · show M.hv (T j).l (T j).a (T j).o + 0 + 0 = _ + 0; omega
theorem moved_two {s h s' h' : Int} {T U V Z : Nat → Tn} {n : Nat} (hs : M.se s h s' h' = 0) (h1 : App (moved s h) T n U) (h2 : App (moved s' h') U n V) (h3 : App (moved (M.ss s h s' h') (M.sh s h s' h')) T n Z) : tab V n = tab Z n := by
  obtain ⟨_, _, _, q1, q2⟩ := M.sum_ok hs
  refine twice_ok h1 h2 h3 fun j hj => ?_
  obtain ⟨e1, e2⟩ := h1.each h2 hj
  refine cx_two e1 e2 ((ae_zero h3.ok).2.2 j hj) ?_ ?_ ?_ ?_
  · show 1 * (1 * (T j).t + 0) + 0 = 1 * (T j).t + 0; omega
  · show 1 * (1 * (T j).g) = 1 * (T j).g; omega
  · show M.st (T j).l (T j).o + s + s' = _ + M.ss s h s' h'; omega
  · show M.hv (T j).l (T j).a (T j).o + h + h' = _ + M.sh s h s' h'; omega
theorem mirrored_two {l a o : Int} {T U V Z : Nat → Tn} {n : Nat} (h1 : App (mirrored l a o) T n U) (h2 : App (mirrored l a o) U n V) (h3 : App (later 0) T n Z) : tab V n = tab Z n := by
  refine twice_ok h1 h2 h3 fun j hj => ?_
  obtain ⟨e1, e2⟩ := h1.each h2 hj
  refine cx_two e1 e2 ((ae_zero h3.ok).2.2 j hj) ?_ ?_ ?_ ?_
  · show 1 * (1 * (T j).t + 0) + 0 = 1 * (T j).t + 0; omega
  · show 1 * (1 * (T j).g) = 1 * (T j).g; omega
  · show 2 * M.st l o - (2 * M.st l o - M.st (T j).l (T j).o + 0) + 0 = _ + 0; omega
  · show 2 * M.hv l a o - (2 * M.hv l a o - M.hv (T j).l (T j).a (T j).o + 0) + 0 = _ + 0; omega
theorem backed_two {T U V Z : Nat → Tn} {n : Nat} (h0 : 0 < n) (ht : (T 0).t ≤ 0) (h1 : App backed T n U) (h2 : App backed U n V) (h3 : App (later 0) T n Z) : tab V n = tab Z n := by
  obtain ⟨hT, _, _⟩ := ae_zero h1.ok
  have hE : en U n = en T n := by
    refine Int.le_antisymm (en_le U n _ (en_nn T n) fun i hi => ?_) ?_
    · obtain ⟨j, hj, e⟩ := h1.mem hi
      rw [← e]
      show 1 * (en T n - (T j).t - (T j).g) + 0 + 1 * (T j).g ≤ en T n
      have := okT_yes (hT.ok j hj)
      omega
    · obtain ⟨i, hi, e⟩ := h1.mem' (j := 0) h0
      have := en_ge U n i hi
      rw [e] at this
      have e2 : (cx backed (en T n) (T 0)).t + (cx backed (en T n) (T 0)).g = 1 * (en T n - (T 0).t - (T 0).g) + 0 + 1 * (T 0).g := rfl
      rw [e2] at this
      omega
  refine twice_ok h1 h2 h3 fun j hj => ?_
  obtain ⟨e1, e2⟩ := h1.each h2 hj
  refine cx_two e1 e2 ((ae_zero h3.ok).2.2 j hj) ?_ ?_ ?_ ?_
  · rw [hE]; show 1 * (en T n - (1 * (en T n - (T j).t - (T j).g) + 0) - 1 * (T j).g) + 0 = 1 * (T j).t + 0; omega
  · show 1 * (1 * (T j).g) = 1 * (T j).g; omega
  · show M.st (T j).l (T j).o + 0 + 0 = _ + 0; omega
  · show M.hv (T j).l (T j).a (T j).o + 0 + 0 = _ + 0; omega

/-- What is done to time, what is done to pitch, and both. -/
def timeC (b : Bool) (s : Int) : Ch := ⟨b, s, false, 0, 0, 0, 0, 0, 0⟩
def highC (m : Bool) (l a o s h : Int) : Ch := ⟨false, 1, m, l, a, o, s, h, 0⟩
def bothC (b : Bool) (k : Int) (m : Bool) (l a o s h : Int) : Ch := ⟨b, k, m, l, a, o, s, h, 0⟩
theorem pe_high {b : Bool} {k : Int} {m : Bool} {l a o s h x y z : Int} : pe (bothC b k m l a o s h) x y z = pe (highC m l a o s h) x y z := rfl
theorem pe_time {b : Bool} {k x y z : Int} (h : M.rt x y z = true) : pe (timeC b k) x y z = 0 := by
  show M.me x y z 0 0 = 0
  exact (M.move_none h).1
theorem cx_time {b : Bool} {k E : Int} {x : Tn} (h : M.rt x.l x.a x.o = true) : (cx (timeC b k) E x).l = x.l ∧ (cx (timeC b k) E x).a = x.a ∧ (cx (timeC b k) E x).o = x.o := (M.move_none h).2
theorem high_far {m : Bool} {l a o s h E : Int} {x : Tn} (hx : okT x = true) : far (highC m l a o s h) E x = false := by
  have := okT_yes hx
  exact far_mk ⟨by show 1 * x.t + 0 ≤ 1048576; omega, by show 1 * x.g ≤ 1048576; omega⟩
theorem high_ce {m : Bool} {l a o s h E : Int} {x : Tn} (hx : okT x = true) : ce (highC m l a o s h) E x = 0 ↔ pe (highC m l a o s h) x.l x.a x.o = 0 :=
  ⟨fun e => (ce_zero e).1, fun e => ce_mk e (high_far hx)⟩
theorem high_rng {m : Bool} {l a o s h : Int} : rng (highC m l a o s h) = true := rng_mk ⟨by show (1 : Int) ≤ 1; decide, by show (1 : Int) ≤ 16; decide, by show (0 : Int) ≤ 0; decide, by show (0 : Int) ≤ 1048576; decide⟩
theorem high_ae {m : Bool} {l a o s h : Int} {T : Nat → Tn} {n : Nat} (hT : OkL T n) : ae (highC m l a o s h) T n = 0 ↔ ∀ j, j < n → pe (highC m l a o s h) (T j).l (T j).a (T j).o = 0 :=
  ⟨fun e j hj => (high_ce (hT.ok j hj)).1 ((ae_zero e).2.2 j hj), fun e => ae_mk hT high_rng fun j hj => (high_ce (hT.ok j hj)).2 (e j hj)⟩
theorem apart_same {b : Bool} {k : Int} {m : Bool} {l a o s h : Int} {T X : Nat → Tn} {n : Nat} (h1 : App (timeC b k) T n X) : ae (highC m l a o s h) X n = 0 ↔ ae (highC m l a o s h) T n = 0 := by
  obtain ⟨hT, _, _⟩ := ae_zero h1.ok
  rw [high_ae h1.okl, high_ae hT]
  constructor
  · intro h j hj
    obtain ⟨i, hi, e⟩ := h1.mem' hj
    have := h i hi
    obtain ⟨e1, e2, e3⟩ := cx_time (b := b) (k := k) (E := en T n) (hT.rt j hj)
    rw [e, e1, e2, e3] at this
    exact this
  · intro h i hi
    obtain ⟨j, hj, e⟩ := h1.mem hi
    obtain ⟨e1, e2, e3⟩ := cx_time (b := b) (k := k) (E := en T n) (hT.rt j hj)
    rw [← e, e1, e2, e3]
    exact h j hj
theorem apart_end {m : Bool} {l a o s h : Int} {T Y : Nat → Tn} {n : Nat} (h1 : App (highC m l a o s h) T n Y) : en Y n = en T n := by
  refine Int.le_antisymm (en_mem fun x hx => ?_) (en_mem fun x hx => ?_)
  · obtain ⟨i, hi, rfl⟩ := mem_tab.1 hx
    obtain ⟨j, hj, e⟩ := h1.mem hi
    refine ⟨T j, mem_tab.2 ⟨j, hj, rfl⟩, ?_⟩
    rw [← e]
    show 1 * (T j).t + 0 + 1 * (T j).g = (T j).t + (T j).g
    omega
  · obtain ⟨j, hj, rfl⟩ := mem_tab.1 hx
    obtain ⟨i, hi, e⟩ := h1.mem' hj
    refine ⟨Y i, mem_tab.2 ⟨i, hi, rfl⟩, ?_⟩
    rw [e]
    show (T j).t + (T j).g = 1 * (T j).t + 0 + 1 * (T j).g
    omega
theorem apart_time {b : Bool} {k : Int} {m : Bool} {l a o s h : Int} {T X Y : Nat → Tn} {n : Nat} (h1 : App (timeC b k) T n X) (h2 : App (highC m l a o s h) T n Y) : ae (timeC b k) Y n = 0 := by
  obtain ⟨hT, hr, hz⟩ := ae_zero h1.ok
  refine ae_mk h2.okl hr fun i hi => ?_
  obtain ⟨j, hj, e⟩ := h2.mem hi
  refine ce_mk (pe_time (h2.okl.rt i hi)) ?_
  rw [apart_end h2, ← e]
  obtain ⟨f1, f2⟩ := far_no (ce_zero (hz j hj)).2
  refine far_mk ⟨?_, ?_⟩
  · have : a1 (timeC b k) (en T n) (cx (highC m l a o s h) (en T n) (T j)) = a1 (timeC b k) (en T n) (T j) := by
      unfold a1
      have e1 : (cx (highC m l a o s h) (en T n) (T j)).t = 1 * (T j).t + 0 := rfl
      have e2 : (cx (highC m l a o s h) (en T n) (T j)).g = 1 * (T j).g := rfl
      rw [e1, e2]
      split <;> omega
    rw [this]; exact f1
  · show k * (1 * (T j).g) ≤ 1048576
    rw [Int.one_mul]; exact f2
theorem apart_both {b : Bool} {k : Int} {m : Bool} {l a o s h : Int} {T X Y : Nat → Tn} {n : Nat} (h1 : App (timeC b k) T n X) (h2 : App (highC m l a o s h) T n Y) : ae (bothC b k m l a o s h) T n = 0 := by
  obtain ⟨hT, hr, hz⟩ := ae_zero h1.ok
  refine ae_mk hT hr fun j hj => ce_mk ?_ ?_
  · exact (high_ae hT).1 h2.ok j hj
  · exact (ce_zero (hz j hj)).2
theorem apart_one {b : Bool} {k : Int} {m : Bool} {l a o s h : Int} {T X X2 Z : Nat → Tn} {n : Nat} (h1 : App (timeC b k) T n X) (h2 : App (highC m l a o s h) X n X2) (h3 : App (bothC b k m l a o s h) T n Z) : tab X2 n = tab Z n := by
  refine twice_ok h1 h2 h3 fun j hj => ?_
  obtain ⟨e1, e2⟩ := h1.each h2 hj
  refine cx_two e1 e2 ((ae_zero h3.ok).2.2 j hj) ?_ ?_ ?_ ?_
  · show 1 * (k * a1 (timeC b k) (en T n) (T j) + 0) + 0 = k * a1 (timeC b k) (en T n) (T j) + 0; omega
  · show 1 * (k * (T j).g) = k * (T j).g; omega
  · show sS (highC m l a o s h) (M.st (T j).l (T j).o + 0) = sS (highC m l a o s h) (M.st (T j).l (T j).o); rw [Int.add_zero]
  · show sH (highC m l a o s h) (M.hv (T j).l (T j).a (T j).o + 0) = sH (highC m l a o s h) (M.hv (T j).l (T j).a (T j).o); rw [Int.add_zero]
theorem apart_two {b : Bool} {k : Int} {m : Bool} {l a o s h : Int} {T X Y Y2 Z : Nat → Tn} {n : Nat} (h0 : App (timeC b k) T n X) (h1 : App (highC m l a o s h) T n Y) (h2 : App (timeC b k) Y n Y2) (h3 : App (bothC b k m l a o s h) T n Z) : tab Y2 n = tab Z n := by
  have hE := apart_end h1
  refine twice_ok h1 h2 h3 fun j hj => ?_
  obtain ⟨e1, e2⟩ := h1.each h2 hj
  refine cx_two e1 e2 ((ae_zero h3.ok).2.2 j hj) ?_ ?_ ?_ ?_
  · rw [hE]
    have : a1 (timeC b k) (en T n) (cx (highC m l a o s h) (en T n) (T j)) = a1 (bothC b k m l a o s h) (en T n) (T j) := by
      unfold a1
      have e1 : (cx (highC m l a o s h) (en T n) (T j)).t = 1 * (T j).t + 0 := rfl
      have e2 : (cx (highC m l a o s h) (en T n) (T j)).g = 1 * (T j).g := rfl
      rw [e1, e2]
      show (if b = true then _ else _) = (if b = true then _ else _)
      split <;> omega
    rw [this]; rfl
  · show k * (1 * (T j).g) = k * (T j).g; rw [Int.one_mul]
  · show sS (highC m l a o s h) (M.st (T j).l (T j).o) + 0 = sS (highC m l a o s h) (M.st (T j).l (T j).o); rw [Int.add_zero]
  · show sH (highC m l a o s h) (M.hv (T j).l (T j).a (T j).o) + 0 = sH (highC m l a o s h) (M.hv (T j).l (T j).a (T j).o); rw [Int.add_zero]

/-- A line that is later and moved keeps its order. -/
def follow (s h d : Int) : Ch := ⟨false, 1, false, 0, 0, 0, s, h, d⟩
theorem lt_places {x y : Tn} (hx : M.rt x.l x.a x.o = true) (hy : M.rt y.l y.a y.o = true) : lt x y = true ↔ (x.t < y.t ∨ (x.t = y.t ∧ (x.g < y.g ∨ (x.g = y.g ∧ (M.st x.l x.o < M.st y.l y.o ∨ (M.st x.l x.o = M.st y.l y.o ∧ M.hv x.l x.a x.o < M.hv y.l y.a y.o)))))) := by
  have r1 := M.rt_yes hx
  have r2 := M.rt_yes hy
  rw [lt_iff]
  by_cases e : x.l = y.l ∧ x.o = y.o
  · obtain ⟨e1, e2⟩ := e
    unfold M.st M.hv
    rw [e1, e2]
    omega
  · unfold M.st
    have : ¬ (7 * x.o + x.l = 7 * y.o + y.l) := fun h => e ⟨by omega, by omega⟩
    omega
theorem lt_follow {s h d E E' : Int} {x y : Tn} (hx : ce (follow s h d) E x = 0) (hy : ce (follow s h d) E' y = 0) : lt (cx (follow s h d) E x) (cx (follow s h d) E' y) = lt x y := by
  have r1 := (pe_ok (ce_zero hx).1).1
  have r2 := (pe_ok (ce_zero hy).1).1
  rw [Bool.eq_iff_iff, lt_places (cx_rt hx) (cx_rt hy), lt_places r1 r2, cx_st hx, cx_st hy, cx_hv hx, cx_hv hy]
  have e1 : (cx (follow s h d) E x).t = 1 * x.t + d := rfl
  have e2 : (cx (follow s h d) E x).g = 1 * x.g := rfl
  have e3 : (cx (follow s h d) E' y).t = 1 * y.t + d := rfl
  have e4 : (cx (follow s h d) E' y).g = 1 * y.g := rfl
  have e5 : ∀ v, sS (follow s h d) v = v + s := fun v => rfl
  have e6 : ∀ v, sH (follow s h d) v = v + h := fun v => rfl
  rw [e1, e2, e3, e4, e5, e5, e6, e6]
  omega
theorem follow_is {s h d : Int} {T X : Nat → Tn} {n : Nat} (h1 : App (follow s h d) T n X) : ∀ j, j < n → X j = cx (follow s h d) (en T n) (T j) := by
  obtain ⟨hT, hr, hz⟩ := ae_zero h1.ok
  have ho : Ord (tab (fun j => cx (follow s h d) (en T n) (T j)) n) := ord_tab.2 fun i j hij hj => by
    rw [lt_follow (hz j hj) (hz i (by omega))]
    exact hT.ord i j hij hj
  exact fun j hj => tab_eq (ord_one h1.perm h1.ord ho) j hj
end Go.Proofs.YtjakaceckmhjiafDoor.Y
