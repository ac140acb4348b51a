/- What within, New, Rest and the document's Wrong come to. -/
import Derived.Test.YtjfmpgfpehnnjaiFi2
import Derived.Deep.OwnRows
import Derived.Laws.MakeOwn
import Derived.Maps.AppendAt
namespace Go.Proofs.Ytjfmpgfpehnnjai.Fi
open Go.RowKit Go.Maps Go.Sort Fl
set_option linter.unusedSimpArgs false
set_option linter.unusedVariables false

theorem wid {x : Int} (h1 : -9223372036854775808 ≤ x) (h2 : x ≤ 9223372036854775807) : IntKind.i64.wrap x = x := by
  rw [IntKind.wrap_i64]; omega
/-- From -4 MaxGain to 4 MaxGain. -/
def wi (x : Nat) : Bool := geT x 13929633647456944128 && leT x 4706261610602168320
def wa (f : Nat → Nat) (n : Nat) : Bool := (List.range n).all fun i => wi (f i)
theorem wa_yes {f : Nat → Nat} {n : Nat} (h : ∀ i, i < n → wi (f i) = true) : wa f n = true := by
  unfold wa; rw [List.all_eq_true]; intro i hi; exact h i (List.mem_range.1 hi)
theorem wa_no {f : Nat → Nat} {n k : Nat} (hk : k < n) (h : wi (f k) = false) : wa f n = false := by
  cases hc : wa f n with
  | false => rfl
  | true => unfold wa at hc; rw [List.all_eq_true] at hc; rw [hc k (List.mem_range.2 hk)] at h; cases h
theorem neg_most (w : World) : (Op.unary .neg (.float .f64 4706261610602168320)).run Try.prog w = .ok (.float .f64 13929633647456944128) w := by kernel_rfl
theorem wi_ways (x : Nat) : (wi x = false ∧ (FloatKind.f64.format.order x 13929633647456944128 == some .gt || FloatKind.f64.format.order x 13929633647456944128 == some .eq) = false) ∨
    ((FloatKind.f64.format.order x 13929633647456944128 == some .gt || FloatKind.f64.format.order x 13929633647456944128 == some .eq) = true ∧ (FloatKind.f64.format.order x 4706261610602168320 == some .lt || FloatKind.f64.format.order x 4706261610602168320 == some .eq) = wi x) := by
  cases h : geT x 13929633647456944128
  · left; exact ⟨by unfold wi; rw [h]; rfl, h⟩
  · right; refine ⟨h, ?_⟩
    unfold wi; rw [h]; rfl
set_option maxHeartbeats 2000000 in
theorem within_any (b n c : Nat) (f : Nat → Nat) (w : World) (hf : ∀ i, i < n → w.cell? ⟨b, i, none⟩ = some (.float .f64 (f i))) (hn : n ≤ c) (hc : c ≤ 4194304) :
    Calls Try.prog 35 #[.float .f64 4706261610602168320, .slice (some ⟨b, 0, none⟩) n c] w fun e w' => e = .returned (.bool (wa f n)) ∧ Below w.heap.size w w' := by
  have hng := neg_most
  have HR : Hid (∀ v, wa f n = v → Ending.returned (.bool v) = .returned (.bool (wa f n))) := fun v h => by rw [h]
  have HF : Hid (∀ i, i < n → w.cell? ⟨b, i, none⟩ = some (.float .f64 (f i))) := hf
  clear hf
  go_enter Try.func35, Try.ntmps35
  go_wp2_with fail
  go_loopw [9] (fun i ww => ∃ k : Nat, k ≤ n ∧ i = .int .i64 k ∧ ww = w ∧ Hid (∀ j, j < k → wi (f j) = true)) (fun i _ => n - (intOf i).toNat)
  case atStart => exact ⟨0, by omega, rfl, rfl, fun j hj => absurd hj (by omega)⟩
  case round =>
    obtain ⟨k, hk, rfl, rfl, hP⟩ := hrel
    by_cases hlt : k < n
    · have cf := HF.out k hlt
      have hlt' : (k : Int) < (n : Int) := by omega
      have w3 : IntKind.i64.wrap ((k : Int) + 1) = (k : Int) + 1 := wid (by omega) (by omega)
      rcases wi_ways (f k) with ⟨h0, h1⟩ | ⟨h1, h2⟩
      · have HN : Hid (wa f n = false) := wa_no hlt h0
        generalize f k = X at *
        clear h0
        go_wp2_with (simp only [hng])
        go_ret
        exact ⟨HR.out _ HN.out, by go_grown⟩
      · cases h3 : wi (f k)
        · have HN : Hid (wa f n = false) := wa_no hlt h3
          rw [h3] at h2
          generalize f k = X at *
          clear h3
          go_wp2_with (simp only [hng])
          go_ret
          exact ⟨HR.out _ HN.out, by go_grown⟩
        · rw [h3] at h2
          have hP2 : Hid (∀ j, j < k + 1 → wi (f j) = true) := fun j hj => by
            by_cases e : j = k
            · rw [e]; exact h3
            · exact hP.out j (by omega)
          generalize f k = X at *
          clear h3
          go_wp2_with (simp only [hng])
          go_roundw
          case rel => exact ⟨k + 1, by omega, by go_num, (by first | exact rfl | trivial), hP2⟩
          case measure => simp [intOf]; omega
    · obtain rfl : k = n := by omega
      have HN : Hid (wa f k = true) := wa_yes hP.out
      clear hlt
      go_wp2_with (simp only [hng])
      go_ret
      exact ⟨HR.out _ HN.out, by go_grown⟩
/-- All five are right. -/
def inC (c : Cf) : Bool := wi c.b0 && wi c.b1 && wi c.b2 && wi c.a1 && wi c.a2
def cN (c : Cf) (i : Nat) : Nat := match i with
  | 0 => c.b0
  | 1 => c.b1
  | 2 => c.b2
  | 3 => c.a1
  | _ => c.a2
theorem wa_in (c : Cf) : wa (cN c) 5 = inC c := by
  show (wi c.b0 && (wi c.b1 && (wi c.b2 && (wi c.a1 && (wi c.a2 && true))))) = _
  unfold inC
  cases wi c.b0 <;> cases wi c.b1 <;> cases wi c.b2 <;> cases wi c.a1 <;> cases wi c.a2 <;> rfl
@[reducible] def cv (c : Cf) : Value := .agg #[.float .f64 c.b0, .float .f64 c.b1, .float .f64 c.b2, .float .f64 c.a1, .float .f64 c.a2]
theorem FC.new {w : World} {b i : Nat} (h : w.cell? ⟨b, i, none⟩ = some (.float .f64 0)) : FC w b i (some 0) := ⟨0, h, by decide, by decide⟩
/-- What New answers. -/
structure NewQ (w : World) (c : Cf) (e : Ending) (w' : World) : Prop where
  b : Below w.heap.size w w'
  bad : inC c = false → e = .returned (.tuple #[.pointer none, .int .i64 3])
  ok : inC c = true → ∃ v, e = .returned (.tuple #[.pointer (some ⟨v, 0, none⟩), .int .i64 0]) ∧ w.heap.size ≤ v ∧ FL w' v c rest0
set_option maxHeartbeats 2000000 in
theorem New_any (c : Cf) (w : World) : Calls Try.prog 20 #[cv c] w fun e w' => NewQ w c e w' := by
  have q := fun (w' : World) (b : Nat) (h : ∀ i, i < 5 → w'.cell? ⟨b, i, none⟩ = some (.float .f64 (cN c i))) => within_any b 5 5 (cN c) w' h (by omega) (by omega)
  have hwa := wa_in c
  rw [hwa] at q
  have HQ : Hid (inC c = false → ∀ e w', e = .returned (.tuple #[.pointer none, .int .i64 3]) → Below w.heap.size w w' → NewQ w c e w') := fun h e w' he hb => ⟨hb, fun _ => he, fun h2 => (by rw [h] at h2; cases h2)⟩
  have HQ2 : Hid (inC c = true → ∀ e w' v, e = .returned (.tuple #[.pointer (some ⟨v, 0, none⟩), .int .i64 0]) → Below w.heap.size w w' → w.heap.size ≤ v → FL w' v c rest0 → NewQ w c e w') := fun h e w' v he hb hv hF => ⟨hb, fun h2 => (by rw [h] at h2; cases h2), fun _ => ⟨v, he, hv, hF⟩⟩
  obtain ⟨b0, b1, b2, a1, a2⟩ := c
  have q' := fun (w' : World) (b : Nat) (h0 : w'.cell? ⟨b, 0, none⟩ = some (.float .f64 b0)) (h1 : w'.cell? ⟨b, 1, none⟩ = some (.float .f64 b1)) (h2 : w'.cell? ⟨b, 2, none⟩ = some (.float .f64 b2)) (h3 : w'.cell? ⟨b, 3, none⟩ = some (.float .f64 a1)) (h4 : w'.cell? ⟨b, 4, none⟩ = some (.float .f64 a2)) => q w' b (fun i hi => by
    match i, hi with
    | 0, _ => exact h0
    | 1, _ => exact h1
    | 2, _ => exact h2
    | 3, _ => exact h3
    | 4, _ => exact h4)
  clear q hwa
  generalize hI : inC ⟨b0, b1, b2, a1, a2⟩ = I at *
  clear hI
  go_enter Try.func20, Try.ntmps20
  go_wp2_with fail
  refine (q' _ _ ?_ ?_ ?_ ?_ ?_).mono ?_
  · simp [go_sem]
  · simp [go_sem]
  · simp [go_sem]
  · simp [go_sem]
  · simp [go_sem]
  rintro e w1 ⟨rfl, hb1⟩
  have hb : Below w.heap.size w w1 := Below.trans (by go_grown) (hb1.mono (by simp; omega))
  have x0 := keepC hb1 (a := ⟨w.heap.size, 0, none⟩) (v := .float .f64 b0) (by simp; omega) (by simp [go_sem])
  have x1 := keepC hb1 (a := ⟨w.heap.size, 1, none⟩) (v := .float .f64 b1) (by simp; omega) (by simp [go_sem])
  have x2 := keepC hb1 (a := ⟨w.heap.size, 2, none⟩) (v := .float .f64 b2) (by simp; omega) (by simp [go_sem])
  have x3 := keepC hb1 (a := ⟨w.heap.size, 3, none⟩) (v := .float .f64 a1) (by simp; omega) (by simp [go_sem])
  have x4 := keepC hb1 (a := ⟨w.heap.size, 4, none⟩) (v := .float .f64 a2) (by simp; omega) (by simp [go_sem])
  have s1 : w.heap.size < w1.heap.size := by have := hb1.size; simp at this; omega
  clear hb1 q'
  cases I
  · go_wp2_with fail
    go_returns
    exact HQ.out (by first | exact rfl | trivial) _ _ rfl hb
  · go_wp2_with fail
    go_returns
    refine HQ2.out (by first | exact rfl | trivial) _ _ _ rfl (hb.alloc (by omega) _) (by omega) ⟨by simp [go_sem], by simp [go_sem], by simp [go_sem], by simp [go_sem], by simp [go_sem], FC.new (by simp [go_sem]), FC.new (by simp [go_sem]), FC.new (by simp [go_sem]), FC.new (by simp [go_sem]), fun i => by simp [go_sem], by simp⟩
set_option maxHeartbeats 2000000 in
theorem refWrong_any (c : Cf) (w : World) : Calls Try.prog 11 #[cv c] w fun e w' => e = .returned (.bool (!inC c)) ∧ Below w.heap.size w w' := by
  have HR : Hid (∀ v, inC c = !v → Ending.returned (.bool v) = .returned (.bool (!inC c))) := fun v h => by rw [h]; cases v <;> rfl
  have hwa := wa_in c
  have HF : Hid (∀ (w' : World) (b : Nat), w'.cell? ⟨b, 0, none⟩ = some (.float .f64 c.b0) → w'.cell? ⟨b, 1, none⟩ = some (.float .f64 c.b1) → w'.cell? ⟨b, 2, none⟩ = some (.float .f64 c.b2) → w'.cell? ⟨b, 3, none⟩ = some (.float .f64 c.a1) → w'.cell? ⟨b, 4, none⟩ = some (.float .f64 c.a2) → ∀ i, i < 5 → w'.cell? ⟨b, i, none⟩ = some (.float .f64 (cN c i))) := fun w' b h0 h1 h2 h3 h4 i hi => by
    match i, hi with
    | 0, _ => exact h0
    | 1, _ => exact h1
    | 2, _ => exact h2
    | 3, _ => exact h3
    | 4, _ => exact h4
  generalize hg : cN c = f at *
  clear hg
  obtain ⟨b0, b1, b2, a1, a2⟩ := c
  simp only at *
  rw [← hwa] at HR ⊢
  clear hwa
  have HFF : Hid (∀ i, i < 5 → ((w.alloc (Obj.cells #[.float .f64 b0, .float .f64 b1, .float .f64 b2, .float .f64 a1, .float .f64 a2] 39)).alloc (Obj.cells #[.float .f64 b0, .float .f64 b1, .float .f64 b2, .float .f64 a1, .float .f64 a2] 23)).cell? ⟨w.heap.size + 1, i, none⟩ = some (.float .f64 (f i))) := HF.out _ _ (by simp [go_sem]) (by simp [go_sem]) (by simp [go_sem]) (by simp [go_sem]) (by simp [go_sem])
  have hb : Below w.heap.size w ((w.alloc (Obj.cells #[.float .f64 b0, .float .f64 b1, .float .f64 b2, .float .f64 a1, .float .f64 a2] 39)).alloc (Obj.cells #[.float .f64 b0, .float .f64 b1, .float .f64 b2, .float .f64 a1, .float .f64 a2] 23)) := ((Below.refl _ _).alloc (Nat.le_refl _) _).alloc (by simp) _
  clear HF
  go_enter Try.func11, Try.ntmps11
  go_wp2_with fail
  generalize (w.alloc (Obj.cells #[.float .f64 b0, .float .f64 b1, .float .f64 b2, .float .f64 a1, .float .f64 a2] 39)).alloc (Obj.cells #[.float .f64 b0, .float .f64 b1, .float .f64 b2, .float .f64 a1, .float .f64 a2] 23) = W at *
  go_loopw [17] (fun i ww => ∃ k : Nat, k ≤ 5 ∧ i = .int .i64 k ∧ ww = W ∧ Hid (∀ j, j < k → wi (f j) = true)) (fun i _ => 5 - (intOf i).toNat)
  case atStart => exact ⟨0, by omega, rfl, rfl, fun j hj => absurd hj (by omega)⟩
  case round =>
    obtain ⟨k, hk, rfl, rfl, hP⟩ := hrel
    by_cases hlt : k < 5
    · have cf := HFF.out k hlt
      have hlt' : (k : Int) < 5 := by omega
      have w3 : IntKind.i64.wrap ((k : Int) + 1) = (k : Int) + 1 := wid (by omega) (by omega)
      rcases wi_ways (f k) with ⟨h0, h1⟩ | ⟨h1, h2⟩
      · have HN : Hid (wa f 5 = false) := wa_no hlt h0
        generalize f k = X at *
        clear h0
        go_wp2_with fail
        go_ret
        exact ⟨HR.out _ HN.out, hb⟩
      · cases h3 : wi (f k)
        · have HN : Hid (wa f 5 = false) := wa_no hlt h3
          rw [h3] at h2
          generalize f k = X at *
          clear h3
          go_wp2_with fail
          go_ret
          exact ⟨HR.out _ HN.out, hb⟩
        · rw [h3] at h2
          have hP2 : Hid (∀ j, j < k + 1 → wi (f j) = true) := fun j hj => by
            by_cases e : j = k
            · rw [e]; exact h3
            · exact hP.out j (by omega)
          generalize f k = X at *
          clear h3
          go_wp2_with fail
          go_roundw
          case rel => exact ⟨k + 1, by omega, by go_num, (by first | exact rfl | trivial), hP2⟩
          case measure => simp [intOf]; omega
    · obtain rfl : k = 5 := by omega
      have HN : Hid (wa f 5 = true) := wa_yes hP.out
      clear hlt
      go_wp2_with fail
      go_ret
      exact ⟨HR.out _ HN.out, hb⟩
/-- All blocks below N but b are kept. -/
structure Kn (w : World) (b N : Nat) (w' : World) : Prop where
  k : ∀ j, j < N → j ≠ b → w'.heap[j]? = w.heap[j]?
  z : w.heap.size ≤ w'.heap.size
  b : Below b w w'
theorem Kn.refl (w : World) (b N : Nat) : Kn w b N w := ⟨fun _ _ _ => rfl, Nat.le_refl _, Below.refl _ _⟩
theorem Kn.trans {w w1 w2 : World} {b N : Nat} (h : Kn w b N w1) (h2 : Kn w1 b N w2) : Kn w b N w2 :=
  ⟨fun j hj hne => (h2.k j hj hne).trans (h.k j hj hne), Nat.le_trans h.z h2.z, h.b.trans h2.b⟩
theorem Kn.bel {w w' : World} {b N : Nat} (h : Below w.heap.size w w') (hN : N ≤ w.heap.size) (hb : b < w.heap.size) : Kn w b N w' :=
  ⟨fun j hj _ => h.block j (by omega), h.size, h.mono (by omega)⟩
theorem Kn.put {w : World} {b N c i : Nat} {v : Value} (hc : c = b ∨ N ≤ c) (hb : b ≤ c) : Kn w b N (w.setCell ⟨c, i, none⟩ v) :=
  ⟨fun j hj hne => Below.heap_setCell _ _ _ _ (by show j ≠ c; omega), by simp [World.setCell], (Below.refl _ _).setCell (p := ⟨c, i, none⟩) hb _⟩
theorem FC.keep {w w' : World} {b i : Nat} {o : Option Nat} (h : FC w b i o) (hk : w'.heap[b]? = w.heap[b]?) : FC w' b i o := by
  obtain ⟨X, h1, h2, h3⟩ := h
  exact ⟨X, (World.cell?_of_block (w := w) (w' := w') (a := ⟨b, i, none⟩) hk).trans h1, h2, h3⟩
theorem FL.keep {w w' : World} {b : Nat} {c : Cf} {s : St} (h : FL w b c s) (hk : w'.heap[b]? = w.heap[b]?) (hz : w.heap.size ≤ w'.heap.size) : FL w' b c s := by
  have hc : ∀ i, w'.cell? ⟨b, i, none⟩ = w.cell? ⟨b, i, none⟩ := fun i => World.cell?_of_block (w := w) (w' := w') (a := ⟨b, i, none⟩) hk
  exact ⟨(hc 0).trans h.c0, (hc 1).trans h.c1, (hc 2).trans h.c2, (hc 3).trans h.c3, (hc 4).trans h.c4, h.c5.keep hk, h.c6.keep hk, h.c7.keep hk, h.c8.keep hk, fun i => (World.frozen?_of_block (w := w) (w' := w') (a := ⟨b, i, none⟩) hk).trans (h.f i), by have := h.lt; omega⟩
theorem FL.bel {w w' : World} {b : Nat} {c : Cf} {s : St} (h : FL w b c s) (hb : Below w.heap.size w w') : FL w' b c s := h.keep (hb.block b h.lt) hb.size
theorem oth {w : World} {b i j : Nat} (v : Value) (h : j ≠ i) : (w.setCell ⟨b, j, none⟩ v).cell? ⟨b, i, none⟩ = w.cell? ⟨b, i, none⟩ := World.cell?_setCell_other _ _ _ _ (fun e => h (congrArg Addr.off e))
end Go.Proofs.Ytjfmpgfpehnnjai.Fi
