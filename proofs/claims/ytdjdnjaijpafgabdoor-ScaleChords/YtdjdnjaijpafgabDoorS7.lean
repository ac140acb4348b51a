/- What the document's Scale and SameClasses come to. -/
import Derived.Test.YtdjdnjaijpafgabDoorS6
import Derived.OwnWalk
import Derived.Laws.OwnMore
namespace Go.Proofs.YtdjdnjaijpafgabDoor
open Go.RowKit
set_option linter.unusedSimpArgs false

/-- A row's cells, element by element. -/
def rows (F : Nat → List Value) : Nat → List Value
  | 0 => []
  | k + 1 => rows F k ++ F k
theorem rows_len {F : Nat → List Value} {s : Nat} (h : ∀ j, (F j).length = s) (k : Nat) : (rows F k).length = k * s := by
  induction k with
  | zero => simp [rows]
  | succ k ih => simp [rows, ih, h, Nat.succ_mul]
theorem rows_get {F : Nat → List Value} {s : Nat} (h : ∀ j, (F j).length = s) (k j i : Nat) (hj : j < k) (hi : i < s) : (rows F k)[j * s + i]? = (F j)[i]? := by
  induction k with
  | zero => omega
  | succ k ih =>
    simp only [rows]
    by_cases e : j = k
    · subst e
      rw [List.getElem?_append_right (by rw [rows_len h]; omega), rows_len h]
      congr 1; omega
    · have hjk : j < k := by omega
      rw [List.getElem?_append_left (by rw [rows_len h]; have : (j + 1) * s ≤ k * s := Nat.mul_le_mul_right s hjk; rw [Nat.succ_mul] at this; omega)]
      exact ih hjk
theorem own_step {w w' : World} {base : Nat} {e : TypeId} {size : Nat} {v : Value} {n : Nat} {xs : List Value} (h : w.ownsRow base e size v n xs) (hb : Below w.heap.size w w') : w'.ownsRow base e size v n xs := by
  refine ⟨h.1, ?_⟩
  rcases h.2 with hn | ⟨g, cap, cur, rfl, h1, h2, rest⟩
  · exact .inl hn
  · refine .inr ⟨g, cap, cur, rfl, h1, ?_, rest⟩
    rw [hb.block g (by exact (Array.getElem?_eq_some_iff.1 h2).1)]; exact h2
theorem own_block {w : World} {base : Nat} {e : TypeId} {size : Nat} {v : Value} {n : Nat} {xs : List Value} (h : w.ownsRow base e size v n xs) : ∀ k, v.ownBlock = some k → base ≤ k := by
  intro k hk
  rcases h.2 with ⟨rfl, _⟩ | ⟨g, cap, cur, rfl, h1, h2, rest⟩
  · simp [Value.ownBlock] at hk
  · simp [Value.ownBlock] at hk; omega
/-- An owned row that is not empty lies in a block of its own. -/
theorem own_cells {w : World} {base : Nat} {e : TypeId} {size : Nat} {v : Value} {n : Nat} {xs : List Value} (h : w.ownsRow base e size v n xs) (hn : 0 < n) :
    ∃ g cap, v = .slice (some ⟨g, 0, none⟩) n cap ∧ base ≤ g ∧ g < w.heap.size ∧ n ≤ cap ∧ ∀ j, j < n * size → w.cell? ⟨g, j, none⟩ = xs[j]? := by
  rcases h.2 with ⟨_, h0⟩ | ⟨g, cap, cur, rfl, h1, h2, h3, rest⟩
  · omega
  · exact ⟨g, cap, rfl, h1, (Array.getElem?_eq_some_iff.1 h2).1, h3, fun j hj => h.cellAt j hj⟩

theorem info47 : (Tryd.prog.info? 47).map (fun i => (i.zero, i.size, i.bytes)) = some (some (.agg #[.int .i64 0, .int .i64 0]), 2, 16) := by kernel_rfl

/-- A row of classes as it is read: seven steps of a key. -/
structure Sev (w : World) (b : Nat) (s l : Int) : Prop where
  lt : b < w.heap.size
  c0 : ∀ j : Nat, j < 7 → w.cell? ⟨b, j * 2, none⟩ = some (.int .i64 ((l + j) % 7))
  c1 : ∀ j : Nat, j < 7 → w.cell? ⟨b, j * 2 + 1, none⟩ = some (.int .i64 (M.al s ((l + j) % 7)))
theorem Sev.step {w w' : World} {B b : Nat} {s l : Int} (h : Sev w b s l) (hb : Below B w w') (hB : b < B) (hs : B ≤ w.heap.size) : Sev w' b s l := by
  have hz := hb.size
  exact ⟨by omega, fun j hj => keepC hb hB (h.c0 j hj), fun j hj => keepC hb hB (h.c1 j hj)⟩
theorem Row7.sev {w : World} {b : Nat} {s l : Int} (h : Row7 w b s l 7) : Sev w b s l := ⟨h.lt, fun j hj => (h.don j hj).1, fun j hj => (h.don j hj).2⟩

def clsF (S x : Int) (j : Nat) : List Value := [.int .i64 ((x + j) % 7), .int .i64 (M.al S ((x + j) % 7))]

theorem refScale_no (l a m : Int) (w : World) (a1 : -9223372036854775808 ≤ a) (a2 : a ≤ 9223372036854775807) (hk : M.zk l a m = false) :
    Calls Tryd.prog 22 #[.agg #[.int .i64 l, .int .i64 a], .int .i64 m] w fun e w' => e = .returned (.tuple #[.slice none 0 0, .int .i64 (M.ze l a m)]) ∧ Below w.heap.size w w' := by
  have hz := M.ze_ne hk
  have hS := fun w => refSigns_any l a m w a1 a2
  generalize M.ze l a m = E at *
  go_enter Tryd.func22, Tryd.ntmps22
  go_wp2_with fail
  refine (hS _).mono ?_
  rintro e w1 ⟨rfl, hb1⟩
  go_wp2_with fail
  go_returns
  exact ⟨rfl, Below.trans (by go_grown) (hb1.mono (by simp))⟩

set_option maxHeartbeats 2000000 in
set_option maxRecDepth 20000 in
theorem refScale_yes (x : Nat) (a m : Int) (w : World) (hk : M.zk x a m = true) (hx : x < 7) :
    Calls Tryd.prog 22 #[.agg #[.int .i64 x, .int .i64 a], .int .i64 m] w fun e w' => ∃ b cap, w.heap.size ≤ b ∧ 7 ≤ cap ∧ e = .returned (.tuple #[.slice (some ⟨b, 0, none⟩) 7 cap, .int .i64 0]) ∧ Below w.heap.size w w' ∧ Sev w' b (M.zr x a m) x := by
  have hz := M.zr_bd hk
  have har := M.rt_yes (M.zk_yes hk).2.1
  have hS := fun w => refSigns_any x a m w (by omega) (by omega)
  rw [M.zs_yes hk, M.ze_yes hk] at hS
  generalize M.zr x a m = S at *
  obtain ⟨i0, hi, hz0, hz1, hz2⟩ := info_parts info47
  go_enter Tryd.func22, Tryd.ntmps22
  go_wp2_with fail
  refine (hS _).mono ?_
  rintro e w1 ⟨rfl, hb1⟩
  have hs1 := hb1.size
  simp at hs1
  have hb01 : Below w.heap.size w w1 := Below.trans (by go_grown) (hb1.mono (by simp))
  have p0 : w1.cell? ⟨w.heap.size, 0, none⟩ = some (.int .i64 x) := keepC hb1 (by simp) (by simp [go_sem])
  go_wp2_with fail
  go_loopw [8, 9] (fun v i wr => ∃ k : Nat, k ≤ 7 ∧ i = .int .i64 k ∧ wr.ownsRow w1.heap.size 47 2 v k (rows (clsF S x) k) ∧ Below w1.heap.size w1 wr)
    (fun _ i _ => 7 - (intOf i).toNat)
  case atStart => exact ⟨0, by omega, rfl, World.ownsRow_nil _ _ _ _, Below.refl _ _⟩
  case round =>
    obtain ⟨k, hk7, rfl, hown, hbr⟩ := hrel
    have zr := hbr.size
    have q0 := keepC hbr (show w.heap.size < w1.heap.size by omega) p0
    by_cases hlt : k < 7
    · obtain ⟨y, hy, hy2, hy3⟩ : ∃ y : Nat, ((x : Int) + k).tmod 7 = y ∧ ((x : Int) + k) % 7 = y ∧ y < 7 := ⟨(x + k) % 7, by rw [Int.tmod_eq_emod_of_nonneg (by omega)]; omega, by omega, by omega⟩
      have Hy : Hid (((x : Int) + k) % 7 = y) := hy2
      clear hy2
      go_wp2_with fail
      refine (Major_any S _ (by omega) (by omega)).mono ?_
      rintro e w2 ⟨b, hbb, rfl, hb2, hrow⟩
      have z2 := hb2.size
      have hyc := hrow.c y hy3
      have hlb := hrow.lt
      have hown2 := own_step hown hb2
      have hb02 := hbr.trans (hb2.mono zr)
      clear hrow
      go_wp2_with (at_builtin; refine wpList_append_own _ rfl (.tmp 29) (.tmp 37) 50 rfl w1.heap.size 47 i0 (.agg #[.int .i64 0, .int .i64 0]) 2 16 Tryd.underlying50 hi hz0 hz1 hz2 rfl (by decide) _ k (rows (clsF S x) k) rfl (hown2.alloc _) ⟨w2.heap.size, 0, none⟩ 1 1 [.int .i64 y, .int .i64 (M.al S y)] rfl rfl ?c1 ?c2 ?c3 ?c4 ?c5 ?_)
      case c1 =>
        intro j u hj
        match j, hj with
        | 0, hj => simp at hj; subst hj; simp [Addr.add]
        | 1, hj => simp at hj; subst hj; simp [Addr.add]
      case c2 => intro u hu; simp at hu; rcases hu with rfl | rfl <;> rfl
      case c3 => unfold maxLen; omega
      case c4 => omega
      case c5 => simp; omega
      · intro v' w3 hown' hgrow _
        have hr : rows (clsF S x) k ++ [.int .i64 y, .int .i64 (M.al S y)] = rows (clsF S x) (k + 1) := by simp only [rows, clsF]; rw [Hy.out]
        rw [hr] at hown'
        have hb03 : Below w1.heap.size w1 w3 := (hb02.alloc hb02.size _).grown hgrow (by simp; omega) (own_block hown)
        clear hgrow hown2 hown hr
        go_wp2_with fail
        go_roundw
        case rel => exact ⟨k + 1, by omega, by go_num, hown', hb03⟩
        case measure => simp [intOf]; omega
    · have e7 : k = 7 := by omega
      subst e7
      obtain ⟨g, cap, rfl, h1, h2, h3, h4⟩ := own_cells hown (by omega)
      have hlen : ∀ j, (clsF S x j).length = 2 := fun j => rfl
      go_wp2_with fail
      go_returns
      refine ⟨g, cap, by omega, h3, rfl, hb01.trans (hbr.mono (by omega)), h2, fun j hj => ?_, fun j hj => ?_⟩
      · rw [h4 _ (by omega), ← Nat.add_zero (j * 2), rows_get hlen 7 j 0 hj (by omega)]; rfl
      · rw [h4 _ (by omega), rows_get hlen 7 j 1 hj (by omega)]; rfl

theorem SameClasses_nil (w : World) :
    Calls Tryd.prog 23 #[.slice none 0 0, .slice none 0 0] w fun e w' => e = .returned (.bool true) ∧ Below w.heap.size w w' := by
  go_enter Tryd.func23, Tryd.ntmps23
  go_wp2_with fail
  refine wp_loop_rounds 1 ?_
  rw [rounds_succ]
  go_wp2_with fail
  go_ret
  exact ⟨rfl, by go_grown⟩

set_option maxHeartbeats 1000000 in
theorem SameClasses_sev (b b' c c' : Nat) (s l : Int) (w : World) (h : Sev w b s l) (h' : Sev w b' s l) :
    Calls Tryd.prog 23 #[.slice (some ⟨b, 0, none⟩) 7 c, .slice (some ⟨b', 0, none⟩) 7 c'] w fun e w' => e = .returned (.bool true) ∧ Below w.heap.size w w' := by
  have hl := h.lt
  have hl' := h'.lt
  go_enter Tryd.func23, Tryd.ntmps23
  go_wp2_with fail
  go_loopw [13] (fun i wr => ∃ k : Nat, k ≤ 7 ∧ i = .int .i64 k ∧ Below w.heap.size w wr)
    (fun i _ => 7 - (intOf i).toNat)
  case atStart => exact ⟨0, by omega, rfl, Below.refl _ _⟩
  case round =>
    obtain ⟨k, hk7, rfl, hbr⟩ := hrel
    have zr := hbr.size
    by_cases hlt : k < 7
    · have q0 := keepC hbr hl (h.c0 k hlt)
      have q1 := keepC hbr hl (h.c1 k hlt)
      have r0 := keepC hbr hl' (h'.c0 k hlt)
      have r1 := keepC hbr hl' (h'.c1 k hlt)
      generalize (l + k) % 7 = y at *
      generalize M.al s y = u at *
      go_wp2_with fail
      go_region
      go_wp2_with fail
      go_roundw
      case rel => exact ⟨k + 1, by omega, by go_num, hbr.drew⟩
      case measure => simp [intOf]; omega
    · go_wp2_with fail
      go_ret
      exact ⟨rfl, hbr⟩

end Go.Proofs.YtdjdnjaijpafgabDoor
