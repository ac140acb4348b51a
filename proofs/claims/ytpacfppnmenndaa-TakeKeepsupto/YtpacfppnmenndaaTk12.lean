/- The disk: Size, Get, Put. -/
import Derived.Test.YtpacfppnmenndaaTk11
namespace Go.Proofs.Ytpacfppnmenndaa.Tk
open Go.RowKit Go.Maps Go.Sort Go.Proofs.Ytpacfppnmenndaa.Rg
open Go.Proofs.Ytpacfppnmenndaa.Y (Tn lt okT wr fst cod bfr OkL TL tab tc rows)
set_option linter.unusedVariables false
set_option linter.unusedSimpArgs false

/-- A disk at block db, its words at block wb. -/
structure DB (w : World) (db wb : Nat) (wo : Option Addr) (cap : Nat) (ws : List Int) (lf : Int) : Prop where
  ld : db < w.heap.size
  lw : 0 < ws.length → wo = some ⟨wb, 0, none⟩ ∧ wb < w.heap.size ∧ wb ≠ db
  c0 : w.cell? ⟨db, 0, none⟩ = some (.slice wo ws.length cap)
  c1 : w.cell? ⟨db, 1, none⟩ = some (.int .i64 lf)
  c2 : w.cell? ⟨db, 2, none⟩ = some (.bool false)
  fd : ∀ i, w.frozen? ⟨db, i, none⟩ = false
  wc : ∀ (i : Nat) x, ws[i]? = some x → w.cell? ⟨wb, i, none⟩ = some (.int .i64 x)
  wf : ∀ i, i < ws.length → w.frozen? ⟨wb, i, none⟩ = false
  m1 : ws.length ≤ cap
  m2 : cap ≤ 9223372036854775807
theorem DB.keep {w w' : World} {db wb cap : Nat} {wo : Option Addr} {ws : List Int} {lf : Int} (h : DB w db wb wo cap ws lf) (h1 : w'.heap[db]? = w.heap[db]?) (h2 : 0 < ws.length → w'.heap[wb]? = w.heap[wb]?) (hz : w.heap.size ≤ w'.heap.size) : DB w' db wb wo cap ws lf :=
  { ld := Nat.lt_of_lt_of_le h.ld hz
    lw := fun hn => by obtain ⟨a, b, c⟩ := h.lw hn; exact ⟨a, Nat.lt_of_lt_of_le b hz, c⟩
    c0 := blk h1 h.c0
    c1 := blk h1 h.c1
    c2 := blk h1 h.c2
    fd := fun i => (World.frozen?_of_block h1).trans (h.fd i)
    wc := fun i x hi => blk (h2 (by have := (List.getElem?_eq_some_iff.1 hi).1; omega)) (h.wc i x hi)
    wf := fun i hi => (World.frozen?_of_block (h2 (by omega))).trans (h.wf i hi)
    m1 := h.m1
    m2 := h.m2 }
theorem DB.bel {w w' : World} {db wb cap : Nat} {wo : Option Addr} {ws : List Int} {lf : Int} (h : DB w db wb wo cap ws lf) (hb : Below w.heap.size w w') : DB w' db wb wo cap ws lf := h.keep (hb.block db h.ld) (fun hn => hb.block wb (h.lw hn).2.1) hb.size
/-- All blocks but two are as they were. -/
structure KD (db wb : Nat) (w w' : World) : Prop where
  os : w'.os = w.os
  tp : w'.tape = w.tape
  op : w'.output = w.output
  z : w.heap.size ≤ w'.heap.size
  k : ∀ j, j < w.heap.size → j ≠ db → j ≠ wb → w'.heap[j]? = w.heap[j]?
theorem KD.refl (db wb : Nat) (w : World) : KD db wb w w := ⟨rfl, rfl, rfl, Nat.le_refl _, fun _ _ _ _ => rfl⟩
theorem KD.trans {db wb : Nat} {w w1 w2 : World} (h : KD db wb w w1) (h2 : KD db wb w1 w2) : KD db wb w w2 := ⟨h2.os.trans h.os, h2.tp.trans h.tp, h2.op.trans h.op, Nat.le_trans h.z h2.z, fun j hj h3 h4 => (h2.k j (Nat.lt_of_lt_of_le hj h.z) h3 h4).trans (h.k j hj h3 h4)⟩
theorem KD.of {db wb : Nat} {w w1 : World} (h : Below w.heap.size w w1) : KD db wb w w1 := ⟨h.os, h.tape, h.output, h.size, fun j hj _ _ => h.block j hj⟩
theorem KD.below {db wb B : Nat} {w w1 : World} (h : KD db wb w w1) (h1 : B ≤ db) (h2 : B ≤ wb) (hB : B ≤ w.heap.size) : Below B w w1 := ⟨h.os, h.tp, h.op, h.z, fun j hj => h.k j (by omega) (by omega) (by omega)⟩
set_option maxHeartbeats 2000000 in
theorem Size_any (db wb cap : Nat) (wo : Option Addr) (ws : List Int) (lf : Int) (w : World) (h : DB w db wb wo cap ws lf) :
    Calls Try.prog 70 #[.pointer (some ⟨db, 0, none⟩)] w fun e w' => e = .returned (.int .i64 ws.length) ∧ w' = w := by
  have h0 := h.c0
  have hl := h.ld
  clear h
  generalize ws.length = n at *
  go_enter Try.func70, Try.ntmps70
  go_wp2_with fail
  go_ret
  exact ⟨rfl, rfl⟩
set_option maxHeartbeats 2000000 in
theorem Get_any (db wb cap i : Nat) (wo : Option Addr) (ws : List Int) (lf : Int) (w : World) (h : DB w db wb wo cap ws lf) (hi : i < ws.length) :
    Calls Try.prog 68 #[.pointer (some ⟨db, 0, none⟩), .int .i64 i] w fun e w' => e = .returned (.int .i64 (wd ws i)) ∧ w' = w := by
  have h0 := h.c0
  have hl := h.ld
  obtain ⟨rfl, lw, hne⟩ := h.lw (by omega)
  have hx : ws[i]? = some (wd ws i) := by unfold wd; rw [List.getD_eq_getElem?_getD, List.getElem?_eq_getElem hi]; rfl
  have hc := h.wc i _ hx
  have m1 := h.m1
  have m2 := h.m2
  clear h hx
  generalize ws.length = n at *
  generalize wd ws i = x at *
  have hi2 : (i : Int) < (n : Int) := by omega
  have d1 : decide ((n : Int) ≤ (i : Int)) = false := by simp; omega
  have d2 : decide ((i : Int) < 0) = false := by simp
  have d3 : ¬ n ≤ i := by omega
  go_enter Try.func68, Try.ntmps68
  go_wp2_with fail
  go_ret
  exact ⟨rfl, rfl⟩
/-- A word is put. -/
theorem DB.put {w : World} {db wb cap i : Nat} {wo : Option Addr} {ws : List Int} {lf lf' x : Int} (h : DB w db wb wo cap ws lf) (hi : i < ws.length) (W : World) (hW : W = w.setCell ⟨wb, i, none⟩ (.int .i64 x) ∧ lf' = lf ∨ W = (w.setCell ⟨db, 1, none⟩ (.int .i64 lf')).setCell ⟨wb, i, none⟩ (.int .i64 x)) : DB W db wb wo cap (ws.set i x) lf' ∧ KD db wb w W := by
  obtain ⟨e, lw, hne⟩ := h.lw (by omega)
  have hl : (ws.set i x).length = ws.length := List.length_set
  have hx : ∃ y, ws[i]? = some y := ⟨_, List.getElem?_eq_getElem hi⟩
  obtain ⟨y, hy⟩ := hx
  have oth : ∀ (W : World) (b o b' o' : Nat) (v : Value), ¬ (b = b' ∧ o = o') → (W.setCell ⟨b, o, none⟩ v).cell? ⟨b', o', none⟩ = W.cell? ⟨b', o', none⟩ := fun W b o b' o' v hn => World.cell?_setCell_other W _ _ v (fun e => hn ⟨congrArg Addr.block e, congrArg Addr.off e⟩)
  rcases hW with ⟨rfl, rfl⟩ | rfl
  · refine ⟨{ ld := by simpa [World.setCell] using h.ld, lw := fun _ => ⟨e, by simpa [World.setCell] using lw, hne⟩, c0 := ?_, c1 := ?_, c2 := ?_, fd := fun j => by rw [World.frozen?_setCell]; exact h.fd j, wc := fun j z hj => ?_, wf := fun j hj => by rw [World.frozen?_setCell]; exact h.wf j (by omega), m1 := by rw [hl]; exact h.m1, m2 := h.m2 }, ⟨rfl, rfl, rfl, by simp [World.setCell], fun j _ h1 h2 => Below.heap_setCell _ _ _ _ h2⟩⟩
    · rw [oth _ _ _ _ _ _ (by omega), hl]; exact h.c0
    · rw [oth _ _ _ _ _ _ (by omega)]; exact h.c1
    · rw [oth _ _ _ _ _ _ (by omega)]; exact h.c2
    · by_cases ej : j = i
      · subst ej
        rw [List.getElem?_set_self hi] at hj
        cases hj
        exact World.cell?_setCell_same _ _ _ (h.wc j y hy)
      · rw [List.getElem?_set_ne (by omega)] at hj
        rw [oth _ _ _ _ _ _ (by omega)]
        exact h.wc j z hj
  · refine ⟨{ ld := by simpa [World.setCell] using h.ld, lw := fun _ => ⟨e, by simpa [World.setCell] using lw, hne⟩, c0 := ?_, c1 := ?_, c2 := ?_, fd := fun j => by rw [World.frozen?_setCell, World.frozen?_setCell]; exact h.fd j, wc := fun j z hj => ?_, wf := fun j hj => by rw [World.frozen?_setCell, World.frozen?_setCell]; exact h.wf j (by omega), m1 := by rw [hl]; exact h.m1, m2 := h.m2 }, ⟨rfl, rfl, rfl, by simp [World.setCell], fun j _ h1 h2 => (Below.heap_setCell _ _ _ _ h2).trans (Below.heap_setCell _ _ _ _ h1)⟩⟩
    · rw [oth _ _ _ _ _ _ (by omega), oth _ _ _ _ _ _ (by omega), hl]; exact h.c0
    · rw [oth _ _ _ _ _ _ (by omega)]; exact World.cell?_setCell_same _ _ _ h.c1
    · rw [oth _ _ _ _ _ _ (by omega), oth _ _ _ _ _ _ (by omega)]; exact h.c2
    · by_cases ej : j = i
      · subst ej
        rw [List.getElem?_set_self hi] at hj
        cases hj
        exact World.cell?_setCell_same _ _ _ (by rw [oth _ _ _ _ _ _ (by omega)]; exact h.wc j y hy)
      · rw [List.getElem?_set_ne (by omega)] at hj
        rw [oth _ _ _ _ _ _ (by omega), oth _ _ _ _ _ _ (by omega)]
        exact h.wc j z hj
/-- What Put leaves. -/
structure PuQ (w : World) (db wb : Nat) (wo : Option Addr) (cap : Nat) (ws : List Int) (lf : Int) (i : Nat) (x : Int) (e : Ending) (w' : World) : Prop where
  e : e = .returned (.bool (decide (lf ≠ 0)))
  d : DB w' db wb wo cap (if lf = 0 then ws else ws.set i x) (if 0 < lf then lf - 1 else lf)
  k : KD db wb w w'
  z : w'.heap.size = w.heap.size
set_option maxRecDepth 20000 in
set_option maxHeartbeats 4000000 in
theorem Put_any (db wb cap i : Nat) (wo : Option Addr) (ws : List Int) (lf x : Int) (w : World) (h : DB w db wb wo cap ws lf) (hi : i < ws.length) (hlf : -9223372036854775808 ≤ lf ∧ lf ≤ 9223372036854775807) :
    Calls Try.prog 69 #[.pointer (some ⟨db, 0, none⟩), .int .i64 i, .int .i64 x] w fun e w' => PuQ w db wb wo cap ws lf i x e w' := by
  have h0 := h.c0
  have h1 := h.c1
  have hl := h.ld
  obtain ⟨e, lw, hne⟩ := h.lw (by omega)
  subst e
  have hx : ∃ y, ws[i]? = some y := ⟨_, List.getElem?_eq_getElem hi⟩
  obtain ⟨y, hy⟩ := hx
  have hc := h.wc i _ hy
  have hf := h.wf i hi
  have hfd := h.fd 1
  have m1 := h.m1
  have m2 := h.m2
  have HD : Hid (DB w db wb (some ⟨wb, 0, none⟩) cap ws lf ∧ i < ws.length) := ⟨h, hi⟩
  clear h hy
  have HN : Hid (∀ e w', PuQ w db wb (some ⟨wb, 0, none⟩) cap ws lf i x e w' ↔ PuQ w db wb (some ⟨wb, 0, none⟩) cap ws lf i x e w') := fun _ _ => Iff.rfl
  obtain ⟨Q, hQ⟩ : ∃ Q, Q = PuQ w db wb (some ⟨wb, 0, none⟩) cap ws lf i x := ⟨_, rfl⟩
  rw [← hQ]
  have HQ : Hid (Q = PuQ w db wb (some ⟨wb, 0, none⟩) cap ws lf i x) := hQ
  clear hQ HN
  generalize hn : ws.length = n at *
  have Hn : Hid (ws.length = n) := hn
  clear hn
  have hi2 : (i : Int) < (n : Int) := by omega
  have d1 : decide ((n : Int) ≤ (i : Int)) = false := by simp; omega
  have d2 : decide ((i : Int) < 0) = false := by simp
  have d3 : ¬ n ≤ i := by omega
  have w1 : IntKind.i64.wrap (lf - 1) = lf - 1 ∨ lf ≤ 0 := by
    by_cases hp : 0 < lf
    · exact .inl (wid (by omega) (by omega))
    · exact .inr (by omega)
  by_cases hz : lf = 0
  · subst hz
    have hq : Q (.returned (.bool false)) w := by
      rw [HQ.out]
      exact ⟨by simp, by rw [if_pos rfl, if_neg (by omega)]; exact HD.out.1, KD.refl _ _ _, rfl⟩
    go_enter Try.func69, Try.ntmps69
    go_wp2_with fail
    exact hq
  · have dz : (lf == 0) = false := by simp [hz]
    by_cases hp : 0 < lf
    · have hw1 : IntKind.i64.wrap (lf - 1) = lf - 1 := wid (by omega) (by omega)
      have dp : decide (0 < lf) = true := by simp [hp]
      obtain ⟨WF, hWF⟩ : ∃ X, X = (w.setCell ⟨db, 1, none⟩ (.int .i64 (lf - 1))).setCell ⟨wb, i, none⟩ (.int .i64 x) := ⟨_, rfl⟩
      have hq : Q (.returned (.bool true)) WF := by
        rw [HQ.out]
        obtain ⟨p1, p2⟩ := HD.out.1.put (by rw [Hn.out]; omega) WF (.inr hWF)
        exact ⟨by simp [hz], by rw [if_neg hz, if_pos hp]; exact p1, p2, by rw [hWF]; simp [World.setCell]⟩
      clear w1
      go_enter Try.func69, Try.ntmps69
      go_wp2_with fail
      rw [← hWF]
      exact hq
    · have dp : decide (0 < lf) = false := by simp; omega
      obtain ⟨WF, hWF⟩ : ∃ X, X = w.setCell ⟨wb, i, none⟩ (.int .i64 x) := ⟨_, rfl⟩
      have hq : Q (.returned (.bool true)) WF := by
        rw [HQ.out]
        obtain ⟨p1, p2⟩ := HD.out.1.put (by rw [Hn.out]; omega) WF (.inl ⟨hWF, rfl⟩)
        exact ⟨by simp [hz], by rw [if_neg hz, if_neg hp]; exact p1, p2, by rw [hWF]; simp [World.setCell]⟩
      clear w1
      go_enter Try.func69, Try.ntmps69
      go_wp2_with fail
      rw [← hWF]
      exact hq
end Go.Proofs.Ytpacfppnmenndaa.Tk
