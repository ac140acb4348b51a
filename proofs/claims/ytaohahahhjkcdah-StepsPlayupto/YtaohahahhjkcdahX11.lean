/- What plain.Play comes to: turns as they lie, what was played in a row of one's own. -/
import Derived.Test.YtaohahahhjkcdahX10
namespace Go.Proofs.Ytaohahahhjkcdah.X
open Go.RowKit Go.Maps Go.Sort
set_option linter.unusedVariables false
set_option linter.unusedSimpArgs false

/-- What came of a turn. -/
structure M.Pd where
  se : Int
  er : Int
  ev : List Z.M.Ev
  p : Int
def M.sk1 (a s : Int) : Int × Int := if 0 ≤ s then M.sk a s else (0, a)
def M.pd1 (E : List Z.M.Ev) (a : Int) (t : Int × Int) : M.Pd := ⟨(M.sk1 a t.1).1, (M.nx E (M.sk1 a t.1).2 t.2).1, (M.nx E (M.sk1 a t.1).2 t.2).2.1, (M.nx E (M.sk1 a t.1).2 t.2).2.2⟩
def M.py (E : List Z.M.Ev) : Int → List (Int × Int) → List M.Pd
  | _, [] => []
  | a, t :: r => M.pd1 E a t :: M.py E (M.pd1 E a t).p r
def M.ap (E : List Z.M.Ev) : Int → List (Int × Int) → Int
  | a, [] => a
  | a, t :: r => M.ap E (M.pd1 E a t).p r
theorem M.py_snoc (E : List Z.M.Ev) (a : Int) (l : List (Int × Int)) (t : Int × Int) : M.py E a (l ++ [t]) = M.py E a l ++ [M.pd1 E (M.ap E a l) t] ∧ M.ap E a (l ++ [t]) = (M.pd1 E (M.ap E a l) t).p := by
  induction l generalizing a with
  | nil => exact ⟨rfl, rfl⟩
  | cons x r ih =>
    obtain ⟨h1, h2⟩ := ih (M.pd1 E a x).p
    exact ⟨congrArg (M.pd1 E a x :: ·) h1, h2⟩
theorem M.py_len (E : List Z.M.Ev) (a : Int) (l : List (Int × Int)) : (M.py E a l).length = l.length := by
  induction l generalizing a with
  | nil => rfl
  | cons x r ih => rw [M.py, List.length_cons, List.length_cons, ih]
/-- Turns as they lie. -/
structure TL (w : World) (S : Nat → Prop) (ao : Option Addr) (T : List (Int × Int)) : Prop where
  at' : 0 < T.length → ∃ b off, ao = some ⟨b, off, none⟩ ∧ S b ∧ ∀ j t, T[j]? = some t → w.cell? ⟨b, off + j * 2, none⟩ = some (.int .i64 t.1) ∧ w.cell? ⟨b, off + j * 2 + 1, none⟩ = some (.int .i64 t.2) ∧ t.2 ≤ 9223372036854775807
theorem TL.keep {w w' : World} {S : Nat → Prop} {ao : Option Addr} {T : List (Int × Int)} (h : TL w S ao T) (hk : Kp S w w') : TL w' S ao T := ⟨fun hn => by
  obtain ⟨b, off, h1, h2, h3⟩ := h.at' hn
  exact ⟨b, off, h1, h2, fun j t hj => ⟨hk.cell h2 (h3 j t hj).1, hk.cell h2 (h3 j t hj).2.1, (h3 j t hj).2.2⟩⟩⟩
/-- What was played, in a row of one's own. -/
structure OD (w : World) (base : Nat) (v : Value) (P : List M.Pd) : Prop where
  ex : ∃ C : Nat → List Value, w.ownsRow base 36 4 v P.length (rows C P.length) ∧ (∀ j, (C j).length = 4) ∧ ∀ j p, P[j]? = some p → ∃ ev, C j = [.int .i64 p.se, .int .i64 p.er, ev, .int .i64 p.p] ∧ EVs w (Sb base w v) ev p.ev
theorem OD.nil (w : World) (base : Nat) : OD w base (.slice none 0 0) [] := ⟨fun _ => [.bool false, .bool false, .bool false, .bool false], World.ownsRow_nil _ _ _ _, fun _ => rfl, fun j p h => by simp at h⟩
theorem OD.form {w : World} {base : Nat} {v : Value} {P : List M.Pd} (h : OD w base v P) : ∃ ao c, v = .slice ao P.length c ∧ P.length ≤ c ∧ c ≤ 9223372036854775807 := by
  obtain ⟨C, h1, _⟩ := h.ex; exact own_form h1
theorem OD.lt {w : World} {base : Nat} {v : Value} {P : List M.Pd} (h : OD w base v P) : ∀ k, v.ownBlock = some k → base ≤ k ∧ k < w.heap.size := fun k hk => by
  obtain ⟨C, h1, _⟩ := h.ex; exact ⟨Z.own_block h1 k hk, Z.own_lt h1 k hk⟩
/-- It stays as it is where its blocks do. -/
theorem OD.step {w w' : World} {base : Nat} {v : Value} {P : List M.Pd} (h : OD w base v P) (hk : ∀ j, base ≤ j → j < w.heap.size → w'.heap[j]? = w.heap[j]?) (hz : w.heap.size ≤ w'.heap.size) : OD w' base v P := by
  obtain ⟨C, h1, h2, h3⟩ := h.ex
  refine ⟨C, Z.own_step h1 (fun k hk' => hk k (Z.own_block h1 k hk') (Z.own_lt h1 k hk')), h2, fun j p hj => ?_⟩
  obtain ⟨ev, g1, g2⟩ := h3 j p hj
  exact ⟨ev, g1, g2.keep (fun b hb => hk b hb.1 hb.2.1) (fun b hb => ⟨hb.1, by have := hb.2.1; omega, hb.2.2⟩)⟩
theorem OD.put {w w' : World} {base : Nat} {v v' : Value} {P : List M.Pd} (C : Nat → List Value) (h2 : ∀ j, (C j).length = 4) (h3 : ∀ j p, P[j]? = some p → ∃ ev, C j = [.int .i64 p.se, .int .i64 p.er, ev, .int .i64 p.p] ∧ EVs w (Sb base w v) ev p.ev)
    (hg : Z.Gw w w' v v') {p : M.Pd} {ev : Value}
    (hr : w'.ownsRow base 36 4 v' (P.length + 1) (rows C P.length ++ [.int .i64 p.se, .int .i64 p.er, ev, .int .i64 p.p]))
    (hp : EVs w' (Sb base w' v') ev p.ev) : OD w' base v' (P ++ [p]) := by
  have hz := hg.gr.size
  refine ⟨X.ex C P.length [.int .i64 p.se, .int .i64 p.er, ev, .int .i64 p.p], ?_, ex_len h2 rfl, fun j q hj => ?_⟩
  · rw [List.length_append, List.length_cons, List.length_nil, ex_rows]; exact hr
  · by_cases e : j < P.length
    · rw [List.getElem?_append_left e] at hj
      obtain ⟨ev', g1, g2⟩ := h3 j q hj
      refine ⟨ev', (if_neg (by omega)).trans g1, g2.keep (fun b hb => hg.gr.block b hb.2.1 hb.2.2) (fun b hb => ⟨hb.1, by have := hb.2.1; omega, ?_⟩)⟩
      rcases hg.ob with q | ⟨k, q, hk⟩
      · rw [q]; exact hb.2.2
      · rw [q]; intro q2; simp at q2; have := hb.2.1; omega
    · have hjl : j < (P ++ [p]).length := (List.getElem?_eq_some_iff.1 hj).1
      simp at hjl
      obtain rfl : j = P.length := by omega
      rw [List.getElem?_append_right (Nat.le_refl _)] at hj
      simp at hj
      subst hj
      exact ⟨ev, if_pos rfl, hp⟩
theorem infoD : (Try.prog.info? 36).map (fun i => (i.zero, i.size, i.bytes)) = some (some (.agg #[.int .i64 0, .int .i64 0, .slice none 0 0, .int .i64 0]), 4, 48) := by kernel_rfl
/-- append(s, x) where s is one's own row of what was played. -/
theorem wpList_append_pd {w : World} {ops : Array Oper} {rest : List Oper} {o : Oper} {a : Act} {Q : Exit → Act → World → Prop} (hgd : o.guard = none) (s y : Operand)
    (ho : o.op = .call { callee := .builtin .append, args := #[s, y], argTypes := #[27, 27] })
    (base : Nat) (v : Value) (n : Nat) (xs : List Value) (hs : a.eval s = v) (hown : w.ownsRow base 36 4 v n xs)
    (g : Nat) (c0 c1 c2 c3 : Value) (hx : a.eval y = .slice (some ⟨g, 0, none⟩) 1 1) (h0 : w.cell? ⟨g, 0, none⟩ = some c0) (h1 : w.cell? ⟨g, 1, none⟩ = some c1) (h2 : w.cell? ⟨g, 2, none⟩ = some c2) (h3 : w.cell? ⟨g, 3, none⟩ = some c3)
    (hone : c0.oneCell' = true ∧ c1.oneCell' = true ∧ c2.oneCell' = true ∧ c3.oneCell' = true) (h63 : n ≤ 1048576) (hbase : base ≤ w.heap.size)
    (h : ∀ v' w', w'.ownsRow base 36 4 v' (n + 1) (xs ++ [c0, c1, c2, c3]) → Z.Gw w w' v v' → wpList Try.prog ops Q rest (a.put o.dst v') w') :
    wpList Try.prog ops Q (o :: rest) a w := by
  obtain ⟨i, hi, hz, hz1, hz2⟩ := info_parts infoD
  refine wpList_append_own_at w hgd s y 27 ho base 36 i _ 4 48 Try.underlying27 hi hz hz1 hz2 rfl (by omega) v n xs hs hown ⟨g, 0, none⟩ 1 1 [c0, c1, c2, c3] hx rfl ?_ ?_ (by unfold maxLen; omega) (by omega) hbase (fun v' w' k1 k2 _ k4 => h v' w' k1 ⟨k2, k4.imp id (fun e => ⟨_, e, Nat.le_refl _⟩)⟩)
  · intro j u hj
    match j, hj with
    | 0, hj => simp at hj; subst hj; simpa [Addr.add] using h0
    | 1, hj => simp at hj; subst hj; simpa [Addr.add] using h1
    | 2, hj => simp at hj; subst hj; simpa [Addr.add] using h2
    | 3, hj => simp at hj; subst hj; simpa [Addr.add] using h3
    | j + 4, hj => simp at hj
  · intro u hu
    simp at hu
    rcases hu with rfl | rfl | rfl | rfl
    · exact hone.1
    · exact hone.2.1
    · exact hone.2.2.1
    · exact hone.2.2.2
theorem Plr.other {w : World} {pp b o : Nat} {l : List M.Sc} {a : Int} {v : Value} (h : Plr w pp l a) (hb : pp < b) : Plr (w.setCell ⟨b, o, none⟩ v) pp l a := by
  obtain ⟨ao, c, g1, g2, g3, g4⟩ := h.c0
  have oth : ∀ x, (w.setCell ⟨b, o, none⟩ v).cell? ⟨pp, x, none⟩ = w.cell? ⟨pp, x, none⟩ := fun x => World.cell?_setCell_other _ _ _ _ (fun e => by have := congrArg Addr.block e; simp at this; omega)
  exact ⟨⟨ao, c, (oth 0).trans g1, g2, g3, g4.keep (fun j hj => Below.heap_setCell _ _ _ _ (by show j ≠ b; omega)) (fun _ h => h)⟩, (oth 1).trans h.c1, (World.frozen?_setCell _ _ _ _).trans h.z1, by simpa [World.setCell] using h.lt, h.a0, h.a1⟩
/-- The variable of what came of a turn. -/
structure X4 (w : World) (b : Nat) (c0 c1 c2 c3 : Value) : Prop where
  c0 : w.cell? ⟨b, 0, none⟩ = some c0
  c1 : w.cell? ⟨b, 1, none⟩ = some c1
  c2 : w.cell? ⟨b, 2, none⟩ = some c2
  c3 : w.cell? ⟨b, 3, none⟩ = some c3
  f : ∀ o, w.frozen? ⟨b, o, none⟩ = false
  lt : b < w.heap.size
theorem X4.blk {w w' : World} {b : Nat} {c0 c1 c2 c3 : Value} (h : X4 w b c0 c1 c2 c3) (hb : w'.heap[b]? = w.heap[b]?) (hz : w.heap.size ≤ w'.heap.size) : X4 w' b c0 c1 c2 c3 :=
  ⟨(World.cell?_of_block (w := w) (w' := w') (a := ⟨b, 0, none⟩) hb).trans h.c0, (World.cell?_of_block (w := w) (w' := w') (a := ⟨b, 1, none⟩) hb).trans h.c1, (World.cell?_of_block (w := w) (w' := w') (a := ⟨b, 2, none⟩) hb).trans h.c2, (World.cell?_of_block (w := w) (w' := w') (a := ⟨b, 3, none⟩) hb).trans h.c3, fun o => (World.frozen?_of_block (w := w) (w' := w') (a := ⟨b, o, none⟩) hb).trans (h.f o), Nat.lt_of_lt_of_le h.lt hz⟩
theorem X4.oth {w : World} {b x o : Nat} (v : Value) (h : x ≠ o) : (w.setCell ⟨b, x, none⟩ v).cell? ⟨b, o, none⟩ = w.cell? ⟨b, o, none⟩ := World.cell?_setCell_other _ _ _ _ (fun e => h (congrArg Addr.off e))
theorem X4.fz {w : World} {b x : Nat} {c0 c1 c2 c3 : Value} (h : X4 w b c0 c1 c2 c3) (v : Value) : (∀ o, (w.setCell ⟨b, x, none⟩ v).frozen? ⟨b, o, none⟩ = false) ∧ b < (w.setCell ⟨b, x, none⟩ v).heap.size :=
  ⟨fun o => (World.frozen?_setCell _ _ _ _).trans (h.f o), by simpa [World.setCell] using h.lt⟩
theorem X4.set0 {w : World} {b : Nat} {c0 c1 c2 c3 : Value} (h : X4 w b c0 c1 c2 c3) (v : Value) : X4 (w.setCell ⟨b, 0, none⟩ v) b v c1 c2 c3 :=
  ⟨World.cell?_setCell_same _ _ _ h.c0, (oth v (by decide)).trans h.c1, (oth v (by decide)).trans h.c2, (oth v (by decide)).trans h.c3, (h.fz v).1, (h.fz v).2⟩
theorem X4.set1 {w : World} {b : Nat} {c0 c1 c2 c3 : Value} (h : X4 w b c0 c1 c2 c3) (v : Value) : X4 (w.setCell ⟨b, 1, none⟩ v) b c0 v c2 c3 :=
  ⟨(oth v (by decide)).trans h.c0, World.cell?_setCell_same _ _ _ h.c1, (oth v (by decide)).trans h.c2, (oth v (by decide)).trans h.c3, (h.fz v).1, (h.fz v).2⟩
theorem X4.set2 {w : World} {b : Nat} {c0 c1 c2 c3 : Value} (h : X4 w b c0 c1 c2 c3) (v : Value) : X4 (w.setCell ⟨b, 2, none⟩ v) b c0 c1 v c3 :=
  ⟨(oth v (by decide)).trans h.c0, (oth v (by decide)).trans h.c1, World.cell?_setCell_same _ _ _ h.c2, (oth v (by decide)).trans h.c3, (h.fz v).1, (h.fz v).2⟩
theorem X4.set3 {w : World} {b : Nat} {c0 c1 c2 c3 : Value} (h : X4 w b c0 c1 c2 c3) (v : Value) : X4 (w.setCell ⟨b, 3, none⟩ v) b c0 c1 c2 v :=
  ⟨(oth v (by decide)).trans h.c0, (oth v (by decide)).trans h.c1, (oth v (by decide)).trans h.c2, World.cell?_setCell_same _ _ _ h.c3, (h.fz v).1, (h.fz v).2⟩
/-- What a turn of Play keeps: all below N but the player's block. -/
structure Kn (w : World) (pp N : Nat) (w' : World) : Prop where
  k : ∀ j, j < N → j ≠ pp → w'.heap[j]? = w.heap[j]?
  z : w.heap.size ≤ w'.heap.size
  b : Below pp w w'
theorem Kn.trans {w w1 w2 : World} {pp N : Nat} (h : Kn w pp N w1) (h2 : Kn w1 pp N w2) : Kn w pp N w2 :=
  ⟨fun j hj hne => (h2.k j hj hne).trans (h.k j hj hne), Nat.le_trans h.z h2.z, h.b.trans h2.b⟩
theorem Kn.set {w : World} {pp N b o : Nat} {v : Value} (hb : N ≤ b) (hp : pp < N) : Kn w pp N (w.setCell ⟨b, o, none⟩ v) :=
  ⟨fun j hj hne => Below.heap_setCell _ _ _ _ (by show j ≠ b; omega), by simp [World.setCell], (Below.refl pp w).setCell (p := ⟨b, o, none⟩) (by show pp ≤ b; omega) _⟩
theorem Kn.bel {w w' : World} {pp N : Nat} (hb : Below w.heap.size w w') (hN : N ≤ w.heap.size) (hp : pp < N) : Kn w pp N w' :=
  ⟨fun j hj _ => hb.block j (by omega), hb.size, hb.mono (by omega)⟩
theorem EVs.one {w : World} {S : Nat → Prop} {v : Value} {L : List Z.M.Ev} (h : EVs w S v L) : ∃ ao c, v = .slice ao L.length c ∧ L.length ≤ c ∧ c ≤ 9223372036854775807 := by
  obtain ⟨ao, c, h1, h2, h3, _⟩ := h; exact ⟨ao, c, h1, h2, h3⟩
theorem Plr.gw {w w' : World} {pp : Nat} {l : List M.Sc} {a : Int} {v v' : Value} (h : Plr w pp l a) (hg : Z.Gw w w' v v') (ho : ∀ j, v.ownBlock = some j → pp < j) : Plr w' pp l a := by
  obtain ⟨ao, c, g1, g2, g3, g4⟩ := h.c0
  have hl := h.lt
  have hz := hg.gr.size
  have hk : ∀ j, j ≤ pp → w'.heap[j]? = w.heap[j]? := fun j hj => hg.gr.block j (by omega) (fun q => by have := ho j q.symm; omega)
  exact ⟨⟨ao, c, (World.cell?_of_block (w := w) (w' := w') (a := ⟨pp, 0, none⟩) (hk pp (Nat.le_refl _))).trans g1, g2, g3, g4.keep (fun j hj => hk j (Nat.le_of_lt hj)) (fun _ h => h)⟩, (World.cell?_of_block (w := w) (w' := w') (a := ⟨pp, 1, none⟩) (hk pp (Nat.le_refl _))).trans h.c1, (World.frozen?_of_block (w := w) (w' := w') (a := ⟨pp, 1, none⟩) (hk pp (Nat.le_refl _))).trans h.z1, by omega, h.a0, h.a1⟩
/-- What Play answers. -/
structure PyQ (w : World) (l : List M.Sc) (T : List (Int × Int)) (e : Ending) (w' : World) : Prop where
  b : Below w.heap.size w w'
  bad : (M.cks l 1 0 0).1 ≠ 0 → e = .returned (.tuple #[.slice none 0 0, .int .i64 (M.cks l 1 0 0).1])
  ok : (M.cks l 1 0 0).1 = 0 → ∃ v base, e = .returned (.tuple #[v, .int .i64 0]) ∧ w.heap.size ≤ base ∧ OD w' base v (M.py (M.pls l 0) 0 T)

set_option maxHeartbeats 4000000 in
theorem Play_any (l : List M.Sc) (T : List (Int × Int)) (w : World) (ao : Option Addr) (c : Nat) (tao : Option Addr) (tc : Nat) (hL : LL w (· < w.heap.size) ao l) (hc : l.length ≤ c) (hcm : c ≤ 9223372036854775807) (hT : TL w (· < w.heap.size) tao T) (htc : T.length ≤ tc) (htm : tc ≤ 9223372036854775807) (hTn : T.length ≤ 1048576) :
    Calls Try.prog 9 #[.slice ao l.length c, .slice tao T.length tc] w fun e w' => PyQ w l T e w' := by
  have HN := New_any l w ao c hL hc hcm
  by_cases hz : (M.cks l 1 0 0).1 = 0
  · obtain ⟨g1, g2, g3, g4, g5, g6⟩ := M.cks_right (by omega) (by omega) (by omega) hz
    have Hz : Hid ((M.cks l 1 0 0).1 = 0) := hz
    have HT : Hid (TL w (· < w.heap.size) tao T) := hT
    have HNx := fun (pp : Nat) (a x : Int) (W : World) (h1 : Plr W pp l a) (h2 : x ≤ 9223372036854775807) => Next_any l g6 (by omega) pp a x W h1 h2
    have HSk := fun (pp : Nat) (a x : Int) (W : World) (h1 : Plr W pp l a) => Seek_any l pp a x W h1
    have HAt := fun (pp : Nat) (a : Int) (W : World) (h1 : Plr W pp l a) => At_any l pp a W h1
    clear g1 g2 g3 g4 g5 g6 hL hT
    obtain ⟨E, hE⟩ : ∃ E, E = M.pls l 0 := ⟨_, rfl⟩
    rw [← hE] at HNx
    have HE : Hid (E = M.pls l 0) := hE
    clear hE
    go_enter Try.func9, Try.ntmps9
    go_wp2_with fail
    refine HN.mono ?_
    rintro e w1 ⟨hb1, _, hok⟩
    obtain ⟨pp, rfl, hpp, hP1⟩ := hok hz
    have lt1 := hP1.lt
    have zb := hb1.size
    have H0 : Hid (OD w1 w1.heap.size (.slice none 0 0) (M.py E 0 (T.take 0))) := OD.nil _ _
    have HP0 : Hid (Plr w1 pp l (M.ap E 0 (T.take 0))) := hP1
    clear hok hz hP1 HN
    go_wp2_with fail
    go_loopw [22, 8] (fun i v wr => ∃ (k : Nat), k ≤ T.length ∧ i = .int .i64 k ∧ Hid (OD wr w1.heap.size v (M.py E 0 (T.take k))) ∧ Hid (Plr wr pp l (M.ap E 0 (T.take k))) ∧ Below w.heap.size w wr ∧ w1.heap.size ≤ wr.heap.size) (fun i _ _ => T.length - (intOf i).toNat)
    case atStart => exact ⟨0, by omega, rfl, H0, HP0, hb1, Nat.le_refl _⟩
    case round =>
      obtain ⟨k, hkn, rfl, hO, hP, hbr, hzr⟩ := hrel
      clear H0 HP0
      by_cases hlt : k < T.length
      · have hlt' : (k : Int) < (T.length : Int) := by omega
        obtain ⟨t, ht⟩ : ∃ t, T[k]? = some t := ⟨_, List.getElem?_eq_getElem hlt⟩
        obtain ⟨b, off, rfl, hbB, q0⟩ := (HT.out.keep (Kp.below hbr)).at' (by omega)
        obtain ⟨r0, r1, r2⟩ := q0 k t ht
        have bz : b < wr.heap.size := by omega
        have pz : pp < wr.heap.size := by omega
        have w3 : IntKind.i64.wrap ((k : Int) + 1) = (k : Int) + 1 := wid (by omega) (by omega)
        have hsn := M.py_snoc E 0 (T.take k) t
        rw [← M.take_one ht] at hsn
        obtain ⟨s1, s2⟩ := hsn
        have S1 : Hid (M.py E 0 (T.take (k + 1)) = M.py E 0 (T.take k) ++ [M.pd1 E (M.ap E 0 (T.take k)) t]) := s1
        have S2 : Hid (M.ap E 0 (T.take (k + 1)) = (M.pd1 E (M.ap E 0 (T.take k)) t).p) := s2
        have hln : (M.py E 0 (T.take k)).length ≤ 1048576 := by rw [M.py_len, List.length_take]; omega
        have HPd : Hid (M.pd1 E (M.ap E 0 (T.take k)) t = ⟨(M.sk1 (M.ap E 0 (T.take k)) t.1).1, (M.nx E (M.sk1 (M.ap E 0 (T.take k)) t.1).2 t.2).1, (M.nx E (M.sk1 (M.ap E 0 (T.take k)) t.1).2 t.2).2.1, (M.nx E (M.sk1 (M.ap E 0 (T.take k)) t.1).2 t.2).2.2⟩) := rfl
        clear s1 s2 ht q0
        generalize M.ap E 0 (T.take k) = a at *
        generalize M.py E 0 (T.take k) = PY at *
        generalize M.pd1 E a t = PD at *
        obtain ⟨ts, tt⟩ := t
        dsimp only at *
        have hA1 : ∀ o1, Plr ((wr.alloc o1).alloc (Obj.cells #[.int .i64 0, .int .i64 0, .slice none 0 0, .int .i64 0] 36)) pp l a ∧ X4 ((wr.alloc o1).alloc (Obj.cells #[.int .i64 0, .int .i64 0, .slice none 0 0, .int .i64 0] 36)) (wr.heap.size + 1) (.int .i64 0) (.int .i64 0) (.slice none 0 0) (.int .i64 0) ∧ Kn wr pp wr.heap.size ((wr.alloc o1).alloc (Obj.cells #[.int .i64 0, .int .i64 0, .slice none 0 0, .int .i64 0] 36)) := fun o1 => by
          have hb : Below wr.heap.size wr ((wr.alloc o1).alloc (Obj.cells #[.int .i64 0, .int .i64 0, .slice none 0 0, .int .i64 0] 36)) := ((Below.refl _ wr).alloc (Nat.le_refl _) _).alloc (by simp) _
          exact ⟨hP.out.bel hb, ⟨by simp [go_sem], by simp [go_sem], by simp [go_sem], by simp [go_sem], fun o => by simp [go_sem], by simp⟩, Kn.bel hb (Nat.le_refl _) pz⟩
        obtain ⟨p1, x1, k1⟩ := hA1 (Obj.cells #[.int .i64 ts, .int .i64 tt] 31)
        have hsz1 : ((wr.alloc (Obj.cells #[.int .i64 ts, .int .i64 tt] 31)).alloc (Obj.cells #[.int .i64 0, .int .i64 0, .slice none 0 0, .int .i64 0] 36)).heap.size = wr.heap.size + 2 := by simp
        have tt1 : ((wr.alloc (Obj.cells #[.int .i64 ts, .int .i64 tt] 31)).alloc (Obj.cells #[.int .i64 0, .int .i64 0, .slice none 0 0, .int .i64 0] 36)).cell? ⟨wr.heap.size, 1, none⟩ = some (.int .i64 tt) := by simp [go_sem]
        have tt0 : ((wr.alloc (Obj.cells #[.int .i64 ts, .int .i64 tt] 31)).alloc (Obj.cells #[.int .i64 0, .int .i64 0, .slice none 0 0, .int .i64 0] 36)).cell? ⟨wr.heap.size, 0, none⟩ = some (.int .i64 ts) := by simp [go_sem]
        clear hA1 hP
        by_cases cs : 0 ≤ ts
        · have eK : M.sk1 a ts = M.sk a ts := if_pos cs
          rw [eK] at HPd
          have HS := HSk pp a ts _ p1
          clear eK HSk
          generalize M.sk a ts = SK at *
          obtain ⟨SE, SA⟩ := SK
          dsimp only at *
          have hpdn := HPd
          go_wp2_with fail
          generalize (wr.alloc (Obj.cells #[.int .i64 ts, .int .i64 tt] 31)).alloc (Obj.cells #[.int .i64 0, .int .i64 0, .slice none 0 0, .int .i64 0] 36) = W1 at *
          refine HS.mono ?_
          rintro e w2 ⟨rfl, p2, z2, k2, b2⟩
          have x2 := x1.blk (k2 (wr.heap.size + 1) (by omega)) (by omega)
          have kk2 : Kn W1 pp wr.heap.size w2 := ⟨fun j hj hne => k2 j hne, by omega, b2⟩
          have tt2 : w2.cell? ⟨wr.heap.size, 1, none⟩ = some (.int .i64 tt) := (World.cell?_of_block (w := W1) (w' := w2) (a := ⟨wr.heap.size, 1, none⟩) (k2 wr.heap.size (by omega))).trans tt1
          have x3 := x2.set0 (.int .i64 SE)
          have p3 := p2.other (b := wr.heap.size + 1) (o := 0) (v := .int .i64 SE) (by omega)
          have kk3 := ((k1.trans kk2).trans (Kn.set (w := w2) (o := 0) (v := .int .i64 SE) (show wr.heap.size ≤ wr.heap.size + 1 by omega) pz))
          have HX := HNx pp SA tt _ p3 r2
          have g0 := x2.c0
          have gf := x2.f 0
          have gl := x2.lt
          have hs2 : w2.heap.size = wr.heap.size + 2 := by omega
          clear HNx HS p1 p2 x1 k1 kk2 k2 b2 tt1 tt0 hsz1
          go_wp2_with fail
          generalize w2.setCell ⟨wr.heap.size + 1, 0, none⟩ (.int .i64 SE) = W3 at *
          have hs3 := x3.lt
          clear g0 gf gl tt2 x2
          generalize hNX : M.nx E SA tt = NX at *
          obtain ⟨NE, NL, NA⟩ := NX
          refine HX.mono ?_
          rintro e w4 ⟨⟨v, rfl, hev⟩, p4, z4, k4, b4⟩
          dsimp only at *
          obtain ⟨va, vc, rfl, hv1, hv2⟩ := hev.one
          have x4 := x3.blk (k4 (wr.heap.size + 1) hs3 (by omega)) z4
          have x5 := (x4.set2 (.slice va NL.length vc)).set1 (.int .i64 NE)
          have p5 := (p4.other (b := wr.heap.size + 1) (o := 2) (v := .slice va NL.length vc) (by omega)).other (b := wr.heap.size + 1) (o := 1) (v := .int .i64 NE) (by omega)
          have kk4 : Kn W3 pp wr.heap.size w4 := ⟨fun j hj hne => k4 j (by omega) hne, z4, b4⟩
          have kk5 := ((kk3.trans kk4).trans (Kn.set (w := w4) (b := wr.heap.size + 1) (o := 2) (v := .slice va NL.length vc) (by omega) pz)).trans (Kn.set (w := w4.setCell ⟨wr.heap.size + 1, 2, none⟩ (.slice va NL.length vc)) (b := wr.heap.size + 1) (o := 1) (v := .int .i64 NE) (by omega) pz)
          have hev5 : EVs ((w4.setCell ⟨wr.heap.size + 1, 2, none⟩ (.slice va NL.length vc)).setCell ⟨wr.heap.size + 1, 1, none⟩ (.int .i64 NE)) (fun j => wr.heap.size + 1 < j ∧ j < ((w4.setCell ⟨wr.heap.size + 1, 2, none⟩ (.slice va NL.length vc)).setCell ⟨wr.heap.size + 1, 1, none⟩ (.int .i64 NE)).heap.size) (.slice va NL.length vc) NL :=
            hev.keep (fun j hj => (Below.heap_setCell _ _ _ _ (show j ≠ wr.heap.size + 1 by have := hj.1; omega)).trans (Below.heap_setCell _ _ _ _ (show j ≠ wr.heap.size + 1 by have := hj.1; omega))) (fun j hj => ⟨by have := hj.1; omega, by simpa [World.setCell] using hj.2⟩)
          have HA5 := HAt pp NA _ p5
          have g1 := x4.c1
          have g2 := x4.c2
          have gf1 := x4.f 1
          have gf2 := x4.f 2
          have gl := x4.lt
          clear HAt hev x3 kk3 kk4 k4 b4 p4 HX
          go_wp2_with fail
          generalize (w4.setCell ⟨wr.heap.size + 1, 2, none⟩ (.slice va NL.length vc)).setCell ⟨wr.heap.size + 1, 1, none⟩ (.int .i64 NE) = W5 at *
          clear g1 g2 gf1 gf2 gl x4
          refine HA5.mono ?_
          rintro e w6 ⟨rfl, hw6⟩
          rw [hw6]
          clear hw6
          have gl5 := x5.lt
          have g3 := x5.c3
          have gf3 := x5.f 3
          have x6 := x5.set3 (.int .i64 NA)
          have p6 := p5.other (b := wr.heap.size + 1) (o := 3) (v := .int .i64 NA) (by omega)
          have kk6 := kk5.trans (Kn.set (w := W5) (b := wr.heap.size + 1) (o := 3) (v := .int .i64 NA) (by omega) pz)
          have hev6 : EVs (W5.setCell ⟨wr.heap.size + 1, 3, none⟩ (.int .i64 NA)) (fun j => wr.heap.size + 1 < j ∧ j < (W5.setCell ⟨wr.heap.size + 1, 3, none⟩ (.int .i64 NA)).heap.size) (.slice va NL.length vc) NL :=
            hev5.keep (fun j hj => Below.heap_setCell _ _ _ _ (show j ≠ wr.heap.size + 1 by have := hj.1; omega)) (fun j hj => ⟨hj.1, by simpa [World.setCell] using hj.2⟩)
          obtain ⟨W6, hW6⟩ : ∃ x, x = W5.setCell ⟨wr.heap.size + 1, 3, none⟩ (.int .i64 NA) := ⟨_, rfl⟩
          rw [← hW6] at x6 p6 kk6 hev6
          have y0 : (W5.setCell ⟨wr.heap.size + 1, 3, none⟩ (.int .i64 NA)).cell? ⟨wr.heap.size + 1, 0, none⟩ = some (.int .i64 SE) := by rw [← hW6]; exact x6.c0
          have y1 : (W5.setCell ⟨wr.heap.size + 1, 3, none⟩ (.int .i64 NA)).cell? ⟨wr.heap.size + 1, 1, none⟩ = some (.int .i64 NE) := by rw [← hW6]; exact x6.c1
          have y2 : (W5.setCell ⟨wr.heap.size + 1, 3, none⟩ (.int .i64 NA)).cell? ⟨wr.heap.size + 1, 2, none⟩ = some (.slice va NL.length vc) := by rw [← hW6]; exact x6.c2
          have y3 : (W5.setCell ⟨wr.heap.size + 1, 3, none⟩ (.int .i64 NA)).cell? ⟨wr.heap.size + 1, 3, none⟩ = some (.int .i64 NA) := by rw [← hW6]; exact x6.c3
          have gl6 : wr.heap.size + 1 < (W5.setCell ⟨wr.heap.size + 1, 3, none⟩ (.int .i64 NA)).heap.size := by rw [← hW6]; exact x6.lt
          have hbX : Below W6.heap.size W6 (W6.alloc (Obj.cells #[.int .i64 SE, .int .i64 NE, .slice va NL.length vc, .int .i64 NA] 36)) := (Below.refl _ _).alloc (Nat.le_refl _) _
          have hz6 := kk6.z
          have hX7 : OD (W6.alloc (Obj.cells #[.int .i64 SE, .int .i64 NE, .slice va NL.length vc, .int .i64 NA] 36)) w1.heap.size u8 PY := hO.out.step (fun j h1 h2 => (hbX.block j (by omega)).trans (kk6.k j h2 (by omega))) (by simp; omega)
          have hev7 : EVs (W6.alloc (Obj.cells #[.int .i64 SE, .int .i64 NE, .slice va NL.length vc, .int .i64 NA] 36)) (fun j => wr.heap.size + 1 < j ∧ j < W6.heap.size) (.slice va NL.length vc) NL := hev6.keep (fun j hj => hbX.block j hj.2) (fun _ h => h)
          have hlo : ∀ j, u8.ownBlock = some j → w1.heap.size ≤ j ∧ j < wr.heap.size := hO.out.lt
          have p7 : Plr (W6.alloc (Obj.cells #[.int .i64 SE, .int .i64 NE, .slice va NL.length vc, .int .i64 NA] 36)) pp l NA := p6.bel hbX
          obtain ⟨C, hC1, hC2, hC3⟩ := hX7.ex
          have HC3 : Hid (∀ j p, PY[j]? = some p → ∃ ev, C j = [.int .i64 p.se, .int .i64 p.er, ev, .int .i64 p.p] ∧ EVs (W6.alloc (Obj.cells #[.int .i64 SE, .int .i64 NE, .slice va NL.length vc, .int .i64 NA] 36)) (Sb w1.heap.size (W6.alloc (Obj.cells #[.int .i64 SE, .int .i64 NE, .slice va NL.length vc, .int .i64 NA] 36)) u8) ev p.ev) := hC3
          have hbase7 : w1.heap.size ≤ (W6.alloc (Obj.cells #[.int .i64 SE, .int .i64 NE, .slice va NL.length vc, .int .i64 NA] 36)).heap.size := by simp; omega
          have n0 : (W6.alloc (Obj.cells #[.int .i64 SE, .int .i64 NE, .slice va NL.length vc, .int .i64 NA] 36)).cell? ⟨W6.heap.size, 0, none⟩ = some (.int .i64 SE) := by simp [go_sem]
          have n1 : (W6.alloc (Obj.cells #[.int .i64 SE, .int .i64 NE, .slice va NL.length vc, .int .i64 NA] 36)).cell? ⟨W6.heap.size, 1, none⟩ = some (.int .i64 NE) := by simp [go_sem]
          have n2 : (W6.alloc (Obj.cells #[.int .i64 SE, .int .i64 NE, .slice va NL.length vc, .int .i64 NA] 36)).cell? ⟨W6.heap.size, 2, none⟩ = some (.slice va NL.length vc) := by simp [go_sem]
          have n3 : (W6.alloc (Obj.cells #[.int .i64 SE, .int .i64 NE, .slice va NL.length vc, .int .i64 NA] 36)).cell? ⟨W6.heap.size, 3, none⟩ = some (.int .i64 NA) := by simp [go_sem]
          have hs6 : W6.heap.size = W5.heap.size := by rw [hW6]; simp [World.setCell]
          rw [hs6] at n0 n1 n2 n3
          have HFIN : Hid (∀ (v7 : Value) (w7 : World), w7.ownsRow w1.heap.size 36 4 v7 (PY.length + 1) (rows C PY.length ++ [.int .i64 SE, .int .i64 NE, .slice va NL.length vc, .int .i64 NA]) → Z.Gw (W6.alloc (Obj.cells #[.int .i64 SE, .int .i64 NE, .slice va NL.length vc, .int .i64 NA] 36)) w7 u8 v7 → OD w7 w1.heap.size v7 (M.py E 0 (T.take (k + 1))) ∧ Plr w7 pp l (M.ap E 0 (T.take (k + 1))) ∧ Below w.heap.size w w7 ∧ w1.heap.size ≤ w7.heap.size) := fun v7 w7 hr7 hg7 => by
            have hz7 := hg7.gr.size
            simp at hz7
            have hpd := HPd.out
            refine ⟨?_, ?_, ?_, by omega⟩
            · rw [S1.out, hpd]
              refine OD.put C hC2 HC3.out hg7 hr7 (hev7.keep (fun j hj => hg7.gr.block j (by simp; have := hj.2; omega) (fun q => by have := hlo j q.symm; have := hj.1; omega)) (fun j hj => ⟨by have := hj.1; omega, by have := hj.2; omega, ?_⟩))
              rcases hg7.ob with q | ⟨i, q, hi⟩
              · rw [q]; intro q2; have := hlo j q2.symm; have := hj.1; omega
              · rw [q]; intro q2; simp at q2 hi; have := hj.2; omega
            · rw [S2.out, hpd]
              exact p7.gw hg7 (fun j hj => by have := hlo j hj; omega)
            · refine hbr.trans ((kk6.b.mono (by omega)).trans ((hbX.mono (by omega)).trans (hg7.bel (B := w.heap.size) (by simp; omega) (fun j hj => by have := hlo j hj; omega))))
          clear hX7 hC3 HC3 hev5 hev6 hev7 hO x5 x6 p5 p6 p7 kk5 kk6 HPd S1 S2 HA5 hs6
          subst hW6
          go_wp2_with (at_builtin; refine wpList_append_pd rfl _ _ rfl w1.heap.size u8 PY.length (rows C PY.length) rfl hC1 W5.heap.size _ _ _ _ rfl n0 n1 n2 n3 ⟨rfl, rfl, rfl, rfl⟩ hln hbase7 ?_; intro v7 w7 hr7 hg7; obtain ⟨f1, f2, f3, f4⟩ := HFIN.out v7 w7 hr7 hg7)
          exact ⟨⟨k + 1, by omega, by go_num, f1, f2, f3, f4⟩, by simp [intOf]; omega⟩
        · have eK : M.sk1 a ts = (0, a) := if_neg cs
          rw [eK] at HPd
          have HX := HNx pp a tt _ p1 r2
          clear eK HSk HNx
          dsimp only at *
          have x3 := x1
          have kk3 := k1
          have hs3 := x1.lt
          generalize hNX : M.nx E a tt = NX at *
          obtain ⟨NE, NL, NA⟩ := NX
          dsimp only at *
          go_wp2_with fail
          generalize (wr.alloc (Obj.cells #[.int .i64 ts, .int .i64 tt] 31)).alloc (Obj.cells #[.int .i64 0, .int .i64 0, .slice none 0 0, .int .i64 0] 36) = W3 at *
          clear x1 k1 p1 tt0 tt1
          refine HX.mono ?_
          rintro e w4 ⟨⟨v, rfl, hev⟩, p4, z4, k4, b4⟩
          dsimp only at *
          obtain ⟨va, vc, rfl, hv1, hv2⟩ := hev.one
          have x4 := x3.blk (k4 (wr.heap.size + 1) hs3 (by omega)) z4
          have x5 := (x4.set2 (.slice va NL.length vc)).set1 (.int .i64 NE)
          have p5 := (p4.other (b := wr.heap.size + 1) (o := 2) (v := .slice va NL.length vc) (by omega)).other (b := wr.heap.size + 1) (o := 1) (v := .int .i64 NE) (by omega)
          have kk4 : Kn W3 pp wr.heap.size w4 := ⟨fun j hj hne => k4 j (by omega) hne, z4, b4⟩
          have kk5 := ((kk3.trans kk4).trans (Kn.set (w := w4) (b := wr.heap.size + 1) (o := 2) (v := .slice va NL.length vc) (by omega) pz)).trans (Kn.set (w := w4.setCell ⟨wr.heap.size + 1, 2, none⟩ (.slice va NL.length vc)) (b := wr.heap.size + 1) (o := 1) (v := .int .i64 NE) (by omega) pz)
          have hev5 : EVs ((w4.setCell ⟨wr.heap.size + 1, 2, none⟩ (.slice va NL.length vc)).setCell ⟨wr.heap.size + 1, 1, none⟩ (.int .i64 NE)) (fun j => wr.heap.size + 1 < j ∧ j < ((w4.setCell ⟨wr.heap.size + 1, 2, none⟩ (.slice va NL.length vc)).setCell ⟨wr.heap.size + 1, 1, none⟩ (.int .i64 NE)).heap.size) (.slice va NL.length vc) NL :=
            hev.keep (fun j hj => (Below.heap_setCell _ _ _ _ (show j ≠ wr.heap.size + 1 by have := hj.1; omega)).trans (Below.heap_setCell _ _ _ _ (show j ≠ wr.heap.size + 1 by have := hj.1; omega))) (fun j hj => ⟨by have := hj.1; omega, by simpa [World.setCell] using hj.2⟩)
          have HA5 := HAt pp NA _ p5
          have g1 := x4.c1
          have g2 := x4.c2
          have gf1 := x4.f 1
          have gf2 := x4.f 2
          have gl := x4.lt
          clear HAt hev x3 kk3 kk4 k4 b4 p4 HX
          go_wp2_with fail
          generalize (w4.setCell ⟨wr.heap.size + 1, 2, none⟩ (.slice va NL.length vc)).setCell ⟨wr.heap.size + 1, 1, none⟩ (.int .i64 NE) = W5 at *
          clear g1 g2 gf1 gf2 gl x4
          refine HA5.mono ?_
          rintro e w6 ⟨rfl, hw6⟩
          rw [hw6]
          clear hw6
          have gl5 := x5.lt
          have g3 := x5.c3
          have gf3 := x5.f 3
          have x6 := x5.set3 (.int .i64 NA)
          have p6 := p5.other (b := wr.heap.size + 1) (o := 3) (v := .int .i64 NA) (by omega)
          have kk6 := kk5.trans (Kn.set (w := W5) (b := wr.heap.size + 1) (o := 3) (v := .int .i64 NA) (by omega) pz)
          have hev6 : EVs (W5.setCell ⟨wr.heap.size + 1, 3, none⟩ (.int .i64 NA)) (fun j => wr.heap.size + 1 < j ∧ j < (W5.setCell ⟨wr.heap.size + 1, 3, none⟩ (.int .i64 NA)).heap.size) (.slice va NL.length vc) NL :=
            hev5.keep (fun j hj => Below.heap_setCell _ _ _ _ (show j ≠ wr.heap.size + 1 by have := hj.1; omega)) (fun j hj => ⟨hj.1, by simpa [World.setCell] using hj.2⟩)
          obtain ⟨W6, hW6⟩ : ∃ x, x = W5.setCell ⟨wr.heap.size + 1, 3, none⟩ (.int .i64 NA) := ⟨_, rfl⟩
          rw [← hW6] at x6 p6 kk6 hev6
          have y0 : (W5.setCell ⟨wr.heap.size + 1, 3, none⟩ (.int .i64 NA)).cell? ⟨wr.heap.size + 1, 0, none⟩ = some (.int .i64 0) := by rw [← hW6]; exact x6.c0
          have y1 : (W5.setCell ⟨wr.heap.size + 1, 3, none⟩ (.int .i64 NA)).cell? ⟨wr.heap.size + 1, 1, none⟩ = some (.int .i64 NE) := by rw [← hW6]; exact x6.c1
          have y2 : (W5.setCell ⟨wr.heap.size + 1, 3, none⟩ (.int .i64 NA)).cell? ⟨wr.heap.size + 1, 2, none⟩ = some (.slice va NL.length vc) := by rw [← hW6]; exact x6.c2
          have y3 : (W5.setCell ⟨wr.heap.size + 1, 3, none⟩ (.int .i64 NA)).cell? ⟨wr.heap.size + 1, 3, none⟩ = some (.int .i64 NA) := by rw [← hW6]; exact x6.c3
          have gl6 : wr.heap.size + 1 < (W5.setCell ⟨wr.heap.size + 1, 3, none⟩ (.int .i64 NA)).heap.size := by rw [← hW6]; exact x6.lt
          have hbX : Below W6.heap.size W6 (W6.alloc (Obj.cells #[.int .i64 0, .int .i64 NE, .slice va NL.length vc, .int .i64 NA] 36)) := (Below.refl _ _).alloc (Nat.le_refl _) _
          have hz6 := kk6.z
          have hX7 : OD (W6.alloc (Obj.cells #[.int .i64 0, .int .i64 NE, .slice va NL.length vc, .int .i64 NA] 36)) w1.heap.size u8 PY := hO.out.step (fun j h1 h2 => (hbX.block j (by omega)).trans (kk6.k j h2 (by omega))) (by simp; omega)
          have hev7 : EVs (W6.alloc (Obj.cells #[.int .i64 0, .int .i64 NE, .slice va NL.length vc, .int .i64 NA] 36)) (fun j => wr.heap.size + 1 < j ∧ j < W6.heap.size) (.slice va NL.length vc) NL := hev6.keep (fun j hj => hbX.block j hj.2) (fun _ h => h)
          have hlo : ∀ j, u8.ownBlock = some j → w1.heap.size ≤ j ∧ j < wr.heap.size := hO.out.lt
          have p7 : Plr (W6.alloc (Obj.cells #[.int .i64 0, .int .i64 NE, .slice va NL.length vc, .int .i64 NA] 36)) pp l NA := p6.bel hbX
          obtain ⟨C, hC1, hC2, hC3⟩ := hX7.ex
          have HC3 : Hid (∀ j p, PY[j]? = some p → ∃ ev, C j = [.int .i64 p.se, .int .i64 p.er, ev, .int .i64 p.p] ∧ EVs (W6.alloc (Obj.cells #[.int .i64 0, .int .i64 NE, .slice va NL.length vc, .int .i64 NA] 36)) (Sb w1.heap.size (W6.alloc (Obj.cells #[.int .i64 0, .int .i64 NE, .slice va NL.length vc, .int .i64 NA] 36)) u8) ev p.ev) := hC3
          have hbase7 : w1.heap.size ≤ (W6.alloc (Obj.cells #[.int .i64 0, .int .i64 NE, .slice va NL.length vc, .int .i64 NA] 36)).heap.size := by simp; omega
          have n0 : (W6.alloc (Obj.cells #[.int .i64 0, .int .i64 NE, .slice va NL.length vc, .int .i64 NA] 36)).cell? ⟨W6.heap.size, 0, none⟩ = some (.int .i64 0) := by simp [go_sem]
          have n1 : (W6.alloc (Obj.cells #[.int .i64 0, .int .i64 NE, .slice va NL.length vc, .int .i64 NA] 36)).cell? ⟨W6.heap.size, 1, none⟩ = some (.int .i64 NE) := by simp [go_sem]
          have n2 : (W6.alloc (Obj.cells #[.int .i64 0, .int .i64 NE, .slice va NL.length vc, .int .i64 NA] 36)).cell? ⟨W6.heap.size, 2, none⟩ = some (.slice va NL.length vc) := by simp [go_sem]
          have n3 : (W6.alloc (Obj.cells #[.int .i64 0, .int .i64 NE, .slice va NL.length vc, .int .i64 NA] 36)).cell? ⟨W6.heap.size, 3, none⟩ = some (.int .i64 NA) := by simp [go_sem]
          have hs6 : W6.heap.size = W5.heap.size := by rw [hW6]; simp [World.setCell]
          rw [hs6] at n0 n1 n2 n3
          have HFIN : Hid (∀ (v7 : Value) (w7 : World), w7.ownsRow w1.heap.size 36 4 v7 (PY.length + 1) (rows C PY.length ++ [.int .i64 0, .int .i64 NE, .slice va NL.length vc, .int .i64 NA]) → Z.Gw (W6.alloc (Obj.cells #[.int .i64 0, .int .i64 NE, .slice va NL.length vc, .int .i64 NA] 36)) w7 u8 v7 → OD w7 w1.heap.size v7 (M.py E 0 (T.take (k + 1))) ∧ Plr w7 pp l (M.ap E 0 (T.take (k + 1))) ∧ Below w.heap.size w w7 ∧ w1.heap.size ≤ w7.heap.size) := fun v7 w7 hr7 hg7 => by
            have hz7 := hg7.gr.size
            simp at hz7
            have hpd := HPd.out
            refine ⟨?_, ?_, ?_, by omega⟩
            · rw [S1.out, hpd]
              refine OD.put C hC2 HC3.out hg7 hr7 (hev7.keep (fun j hj => hg7.gr.block j (by simp; have := hj.2; omega) (fun q => by have := hlo j q.symm; have := hj.1; omega)) (fun j hj => ⟨by have := hj.1; omega, by have := hj.2; omega, ?_⟩))
              rcases hg7.ob with q | ⟨i, q, hi⟩
              · rw [q]; intro q2; have := hlo j q2.symm; have := hj.1; omega
              · rw [q]; intro q2; simp at q2 hi; have := hj.2; omega
            · rw [S2.out, hpd]
              exact p7.gw hg7 (fun j hj => by have := hlo j hj; omega)
            · refine hbr.trans ((kk6.b.mono (by omega)).trans ((hbX.mono (by omega)).trans (hg7.bel (B := w.heap.size) (by simp; omega) (fun j hj => by have := hlo j hj; omega))))
          clear hX7 hC3 HC3 hev5 hev6 hev7 hO x5 x6 p5 p6 p7 kk5 kk6 HPd S1 S2 HA5 hs6
          subst hW6
          go_wp2_with (at_builtin; refine wpList_append_pd rfl _ _ rfl w1.heap.size u8 PY.length (rows C PY.length) rfl hC1 W5.heap.size _ _ _ _ rfl n0 n1 n2 n3 ⟨rfl, rfl, rfl, rfl⟩ hln hbase7 ?_; intro v7 w7 hr7 hg7; obtain ⟨f1, f2, f3, f4⟩ := HFIN.out v7 w7 hr7 hg7)
          exact ⟨⟨k + 1, by omega, by go_num, f1, f2, f3, f4⟩, by simp [intOf]; omega⟩
      · obtain rfl : k = T.length := by omega
        have hlt' : ¬ ((T.length : Nat) : Int) < T.length := by omega
        have hO' := hO.out
        rw [List.take_length] at hO'
        have HO' : Hid (OD wr w1.heap.size u8 (M.py E 0 T)) := hO'
        clear hO hO' hP
        go_wp2_with fail
        go_returns
        exact ⟨hbr, fun h => absurd Hz.out h, fun _ => ⟨u8, w1.heap.size, rfl, zb, by rw [← HE.out]; exact HO'.out⟩⟩
  · have Hz : Hid ((M.cks l 1 0 0).1 ≠ 0) := hz
    obtain ⟨V, hV⟩ : ∃ V, V = (M.cks l 1 0 0).1 := ⟨_, rfl⟩
    have HV : Hid (V = (M.cks l 1 0 0).1) := hV
    have hy : (V != 0) = true := by rw [hV]; simpa using hz
    clear hL hT
    go_enter Try.func9, Try.ntmps9
    go_wp2_with fail
    refine HN.mono ?_
    rintro e w1 ⟨hb1, hbad, _⟩
    have he := hbad hz
    rw [← hV] at he
    subst he
    clear hbad hz hV HN
    go_wp2_with fail
    go_returns
    exact ⟨hb1, fun _ => by rw [← HV.out]; rfl, fun h => absurd h Hz.out⟩
end Go.Proofs.Ytaohahahhjkcdah.X
