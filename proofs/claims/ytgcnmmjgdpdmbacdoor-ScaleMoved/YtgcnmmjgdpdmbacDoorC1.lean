/- What the program's Notes comes to. -/
import Derived.Test.YtgcnmmjgdpdmbacDoorQW5
import Derived.Test.YtgcnmmjgdpdmbacDoorS7
import Derived.Test.YtgcnmmjgdpdmbacDoorCMath
import Derived.Laws.Rows
namespace Go.Proofs.YtgcnmmjgdpdmbacDoor
open Go.RowKit
attribute [local go_sem ↓] Go.wp_at_zero Go.wp_at_succ
set_option linter.unusedSimpArgs false

/-- The table of chords lies where the program lays it. -/
structure Over (w : World) : Prop where
  sz : 0 < w.heap.size
  c : ∀ k i : Nat, 1 ≤ k → k < 10 → i < 3 → w.cell? ⟨0, k * 3 + i, none⟩ = some (.int .i64 (M.stk k i))
theorem Over.step {w w' : World} (h : Over w) (hb : Below w.heap.size w w') : Over w' :=
  ⟨by have := hb.size; have := h.sz; omega, fun k i h1 h2 h3 => keepC hb h.sz (h.c k i h1 h2 h3)⟩

theorem idx3 (h : Nat → Int) (i : Nat) (hi : i < 3) (w : World) : (Instr.index 74 (.agg #[.int .i64 (h 0), .int .i64 (h 1), .int .i64 (h 2)]) (.int .i64 i)).run Tryd.prog w = .ok (.int .i64 (h i)) w := by
  rcases (show i = 0 ∨ i = 1 ∨ i = 2 by omega) with rfl | rfl | rfl <;> kernel_rfl

/-- A row of pitches as it is read. -/
structure PL (w : World) (ao : Option Addr) (n : Nat) (L A O : Nat → Int) : Prop where
  at' : 0 < n → ∃ b off, ao = some ⟨b, off, none⟩ ∧ b < w.heap.size ∧ (∀ j, j < n → w.cell? ⟨b, off + j * 3, none⟩ = some (.int .i64 (L j))) ∧ (∀ j, j < n → w.cell? ⟨b, off + j * 3 + 1, none⟩ = some (.int .i64 (A j))) ∧ (∀ j, j < n → w.cell? ⟨b, off + j * 3 + 2, none⟩ = some (.int .i64 (O j)))
theorem PL.step {w w' : World} {ao : Option Addr} {n : Nat} {L A O : Nat → Int} (h : PL w ao n L A O) (hb : Below w.heap.size w w') : PL w' ao n L A O := by
  refine ⟨fun hn => ?_⟩
  obtain ⟨b, off, h1, h2, h3, h4, h5⟩ := h.at' hn
  have := hb.size
  exact ⟨b, off, h1, by omega, fun j hj => keepC hb h2 (h3 j hj), fun j hj => keepC hb h2 (h4 j hj), fun j hj => keepC hb h2 (h5 j hj)⟩

theorem info23 : (Tryd.prog.info? 26).map (fun i => (i.zero, i.size, i.bytes)) = some (some (.agg #[.int .i64 0, .int .i64 0, .int .i64 0]), 3, 24) := by kernel_rfl
def ntF (l a o k : Int) (j : Nat) : List Value := [.int .i64 (M.nl l a o k j), .int .i64 (M.na l a o k j), .int .i64 (M.no l a o k j)]
theorem own_new (w : World) (base : Nat) (hb : base ≤ w.heap.size) (x y z : Value) (t : TypeId) : (w.alloc (.cells #[x, y, z] t)).ownsRow base t 3 (.slice (some ⟨w.heap.size, 0, none⟩) 1 1) 1 [x, y, z] := by
  refine ⟨rfl, .inr ⟨w.heap.size, 1, #[x, y, z], rfl, hb, ?_, Nat.le_refl _, by unfold maxLen; omega, rfl, rfl⟩⟩
  show (w.heap.push _)[w.heap.size]? = _
  simp

theorem Notes_kind (l a o k : Int) (w : World) (hk : M.kok k = false) :
    Calls Tryd.prog 10 #[.agg #[.int .i64 l, .int .i64 a, .int .i64 o], .int .i64 k] w fun e w' => e = .returned (.tuple #[.slice none 0 0, .int .i64 1]) ∧ Below w.heap.size w w' := by
  have hm' := M.kok_no hk
  by_cases x : k < 1
  all_goals
    go_enter Tryd.func10, Tryd.ntmps10
    go_wp2_with fail
    go_returns
    exact ⟨rfl, by go_grown⟩

theorem Notes_form (l a o k : Int) (w : World) (hk : M.kok k = true) (hr : M.rt l a o = false) :
    Calls Tryd.prog 10 #[.agg #[.int .i64 l, .int .i64 a, .int .i64 o], .int .i64 k] w fun e w' => e = .returned (.tuple #[.slice none 0 0, .int .i64 2]) ∧ Below w.heap.size w w' := by
  have hm' := M.kok_yes hk
  go_enter Tryd.func10, Tryd.ntmps10
  go_wp2_with fail
  refine (Right_any l a o _).mono ?_
  rintro e w1 ⟨rfl, hb1⟩
  rw [hr]
  go_wp2_with fail
  go_returns
  exact ⟨rfl, Below.trans (by go_grown) (hb1.mono (by simp))⟩

/-- What comes of it, whatever it is. -/
def NotesRes (l a o k : Int) (w : World) (e : Ending) (w' : World) : Prop :=
  Below w.heap.size w w' ∧ ((M.nk l a o k = false ∧ e = .returned (.tuple #[.slice none 0 0, .int .i64 3])) ∨
    (M.nk l a o k = true ∧ ∃ b cap, w.heap.size ≤ b ∧ M.cnt k + 1 ≤ cap ∧ cap ≤ 9223372036854775807 ∧ e = .returned (.tuple #[.slice (some ⟨b, 0, none⟩) (M.cnt k + 1 : Nat) cap, .int .i64 0]) ∧ b < w'.heap.size ∧ ∀ j i : Nat, j ≤ M.cnt k → i < 3 → w'.cell? ⟨b, j * 3 + i, none⟩ = (ntF l a o k j)[i]?))

set_option maxRecDepth 20000 in
set_option maxHeartbeats 4000000 in
theorem Notes_in (l a o : Int) (k : Nat) (w : World) (ht : Tab w) (hO : Over w) (hk : M.kok k = true) (hr : M.rt l a o = true) :
    Calls Tryd.prog 10 #[.agg #[.int .i64 l, .int .i64 a, .int .i64 o], .int .i64 k] w (NotesRes l a o k w) := by
  have hk' := M.kok_yes hk
  have hc := M.cnt_bd k
  obtain ⟨i0, hi, hz0, hz1, hz2⟩ := info_parts info23
  go_enter Tryd.func10, Tryd.ntmps10
  go_wp2_with fail
  refine (Right_any l a o _).mono ?_
  rintro e w1 ⟨rfl, hb1⟩
  have z1 := hb1.size
  simp at z1
  rw [hr]
  have h01 : Below w.heap.size w w1 := Below.trans (by go_grown) (hb1.mono (by simp))
  have p0 : w1.cell? ⟨w.heap.size, 0, none⟩ = some (.int .i64 l) := keepC hb1 (by simp) (by simp [go_sem])
  have p1 : w1.cell? ⟨w.heap.size, 1, none⟩ = some (.int .i64 a) := keepC hb1 (by simp) (by simp [go_sem])
  have p2 : w1.cell? ⟨w.heap.size, 2, none⟩ = some (.int .i64 o) := keepC hb1 (by simp) (by simp [go_sem])
  have O1 := hO.step h01
  have o0 : w1.cell? ⟨0, k * 3, none⟩ = some (.int .i64 (M.stk k 0)) := O1.c k 0 (by omega) (by omega) (by omega)
  have o1 := O1.c k 1 (by omega) (by omega) (by omega)
  have o2 := O1.c k 2 (by omega) (by omega) (by omega)
  have osz := O1.sz
  have hsp : w.heap.size < w1.heap.size := by omega
  go_wp2_with fail
  have fin : ∀ (v : Value) (q : Nat) (W : World), q = M.cnt k → W.ownsRow w1.heap.size 26 3 v (q + 1) (rows (ntF l a o k) (q + 1)) → Hid (∀ j, j < q → M.mk l a o (2 * ((j : Int) + 1)) (M.hs k (j + 1)) = true) → Below w1.heap.size w1 W → NotesRes l a o k w (.returned (.tuple #[v, .int .i64 0])) W := by
    intro v q W hq hown hmk hbW
    subst hq
    have hlen : ∀ j, (ntF l a o k j).length = 3 := fun j => rfl
    obtain ⟨g, cap, rfl, h1, h2, h3, h4⟩ := own_cells hown (by omega)
    have hcap : cap ≤ 9223372036854775807 := by
      rcases hown.2 with ⟨h, _⟩ | ⟨g', cap', cur, h, _, _, _, hm, _⟩
      · simp at h
      · simp at h; unfold maxLen at hm; omega
    refine ⟨h01.trans (hbW.mono (by omega)), .inr ⟨M.nko_mk hmk.out, g, cap, by omega, h3, hcap, rfl, h2, fun j i hj hi3 => ?_⟩⟩
    rw [h4 _ (by omega), rows_get hlen _ j i (by omega) hi3]
  have start := own_new w1 w1.heap.size (Nat.le_refl _) (.int .i64 l) (.int .i64 a) (.int .i64 o) 26
  have hst : [Value.int .i64 l, .int .i64 a, .int .i64 o] = rows (ntF l a o k) (0 + 1) := by
    obtain ⟨e1, e2, e3⟩ := M.n_zero (k := k) hr
    simp only [rows, ntF, e1, e2, e3, List.nil_append]
  have start' : (w1.alloc (Obj.cells #[.int .i64 l, .int .i64 a, .int .i64 o] 26)).ownsRow w1.heap.size 26 3 (.slice (some ⟨w1.heap.size, 0, none⟩) 1 1) (0 + 1) (rows (ntF l a o k) (0 + 1)) := by rw [← hst]; exact start
  clear hst start
  go_loopw [6, 25] (fun v i wr => ∃ q : Nat, q ≤ M.cnt k ∧ i = .int .i64 q ∧ wr.ownsRow w1.heap.size 26 3 v (q + 1) (rows (ntF l a o k) (q + 1)) ∧ Hid (∀ j, j < q → M.mk l a o (2 * ((j : Int) + 1)) (M.hs k (j + 1)) = true) ∧ Below w1.heap.size w1 wr)
    (fun _ i _ => 3 - (intOf i).toNat)
  case atStart => exact ⟨0, by omega, rfl, start', fun j hj => by omega, (Below.refl _ _).alloc (Nat.le_refl _) _⟩
  case round =>
    obtain ⟨q, hq, rfl, hown, hmk, hbr⟩ := hrel
    have zr := hbr.size
    replace p0 := keepC hbr (by omega) p0
    replace p1 := keepC hbr (by omega) p1
    replace p2 := keepC hbr (by omega) p2
    have sp : w.heap.size < wr.heap.size := by omega
    have hMv := Move_any l a o (2 * ((q : Int) + 1)) (M.stk k q)
    have hhs : M.hs k (q + 1) = M.stk k q := rfl
    by_cases hq3 : q < 3
    · have hix := idx3 (M.stk k) q hq3
      have hsc := M.stk_cnt (k := k) hk' hq3
      have hsb := M.stk_bd k q
      by_cases hH : M.stk k q = 0
      · have hqc : q = M.cnt k := by have := hsc.1 hH; omega
        have hfin := fun v => fin v q wr hqc
        rw [hH] at hix
        clear fin hsc hMv hhs hqc
        go_wp2_with fail
        go_returns
        exact hfin _ hown hmk hbr
      · have hqc : q < M.cnt k := by
          have := mt hsc.2 hH; omega
        have hHb : (M.stk k q == 0) = false := by simpa using hH
        clear hsc fin
        generalize M.stk k q = H at *
        go_wp2_with fail
        refine (hMv _ ((ht.step h01).step hbr)).mono ?_
        rintro e w2 ⟨rfl, hb2⟩
        have z2 := hb2.size
        have hb12 := hbr.trans (hb2.mono hbr.size)
        cases hm : M.mk l a o (2 * ((q : Int) + 1)) H
        · rw [M.me_no hm hr]
          go_wp2_with fail
          go_returns
          have hX := h01.trans (hb12.mono (show w.heap.size ≤ w1.heap.size by omega))
          exact ⟨hX.alloc hX.size _, .inl ⟨M.nko_no hqc (by rw [hhs]; exact hm), rfl⟩⟩
        · rw [M.me_yes hm]
          have hown2 := own_step hown hb2
          have hr2 : rows (ntF l a o k) (q + 1) ++ [.int .i64 (M.ml l a o (2 * ((q : Int) + 1)) H), .int .i64 (M.ma l a o (2 * ((q : Int) + 1)) H), .int .i64 (M.mo l a o (2 * ((q : Int) + 1)) H)] = rows (ntF l a o k) (q + 1 + 1) := by
            have e : (2 * ((q + 1 : Nat) : Int)) = 2 * ((q : Int) + 1) := by omega
            show _ = rows (ntF l a o k) (q + 1) ++ ntF l a o k (q + 1)
            simp only [ntF, M.nl, M.na, M.no, hhs, e]
          have hmk2 : Hid (∀ j, j < q + 1 → M.mk l a o (2 * ((j : Int) + 1)) (M.hs k (j + 1)) = true) := fun j hj => by
            by_cases e : j = q
            · rw [e, hhs]; exact hm
            · exact hmk.out j (by omega)
          have HR2 := Hid.out hr2
          generalize M.ml l a o (2 * ((q : Int) + 1)) H = u0 at *
          generalize M.ma l a o (2 * ((q : Int) + 1)) H = u1 at *
          generalize M.mo l a o (2 * ((q : Int) + 1)) H = u2 at *
          have HR3 : Hid (rows (ntF l a o k) (q + 1) ++ [.int .i64 u0, .int .i64 u1, .int .i64 u2] = rows (ntF l a o k) (q + 1 + 1)) := hr2
          clear hr2 HR2 hhs hMv hm hmk
          go_wp2_with (at_builtin; refine wpList_append_own _ rfl (.tmp 44) (.tmp 46) 22 rfl w1.heap.size 26 i0 (.agg #[.int .i64 0, .int .i64 0, .int .i64 0]) 3 24 Tryd.underlying22 hi hz0 hz1 hz2 rfl (by decide) _ (q + 1) (rows (ntF l a o k) (q + 1)) rfl ((hown2.alloc _).alloc _) ⟨w2.heap.size + 1, 0, none⟩ 1 1 [.int .i64 u0, .int .i64 u1, .int .i64 u2] rfl rfl ?c1 ?c2 ?c3 ?c4 ?c5 ?_)
          case c1 =>
            intro j u hj
            match j, hj with
            | 0, hj => simp at hj; subst hj; simp [Addr.add, go_sem]
            | 1, hj => simp at hj; subst hj; simp [Addr.add, go_sem]
            | 2, hj => simp at hj; subst hj; simp [Addr.add, go_sem]
          case c2 => intro u hu; simp at hu; rcases hu with rfl | rfl | rfl <;> rfl
          case c3 => unfold maxLen; omega
          case c4 => omega
          case c5 => simp; omega
          · intro v' w3 hown' hgrow _
            rw [HR3.out] at hown'
            have hb13 : Below w1.heap.size w1 w3 := ((hb12.alloc hb12.size _).alloc (by simp; omega) _).grown hgrow (by simp; omega) (own_block hown)
            clear hgrow hown2 hown HR3
            go_wp2_with fail
            go_roundw
            case rel => first | exact ⟨q + 1, by omega, by go_num, hown', hmk2, hb13⟩ | ((repeat apply Exists.intro); exact ⟨⟨q + 1, by omega, by go_num, hown', hmk2, hb13⟩, rfl⟩)
            case measure => simp [intOf]; omega
    · have hqc : q = M.cnt k := by omega
      have hfin := fun v => fin v q wr hqc
      clear fin hMv hhs hqc
      go_wp2_with fail
      go_returns
      exact hfin _ hown hmk hbr

end Go.Proofs.YtgcnmmjgdpdmbacDoor
