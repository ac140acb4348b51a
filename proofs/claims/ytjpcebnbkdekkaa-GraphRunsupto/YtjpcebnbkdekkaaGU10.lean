/- What within, New, Rest and the document's Wrong come to. -/
import Derived.Test.YtjpcebnbkdekkaaGU8
import Derived.Deep.OwnRows
import Derived.Laws.MakeOwn
import Derived.Maps.AppendAt
namespace Go.Proofs.Ytjpcebnbkdekkaa.Fi
open Go.RowKit Go.Maps Go.Sort Fl
set_option linter.unusedSimpArgs false
set_option linter.unusedVariables false

theorem wid {x : Int} (h1 : -9223372036854775808 ≤ x) (h2 : x ≤ 9223372036854775807) : IntKind.i64.wrap x = x := by
  rw [IntKind.wrap_i64]; omega
/-- From -4 MaxGain to 4 MaxGain. -/
def wi (x : Nat) : Bool := geT x 13929633647456944128 && leT x 4706261610602168320
def wa (f : Nat → Nat) (n : Nat) : Bool := (List.range n).all fun i => wi (f i)
theorem wa_yes {f : Nat → Nat} {n : Nat} (h : ∀ i, i < n → wi (f i) = true) : wa f n = true := by
  unfold wa; rw [List.all_eq_true]; intro i hi; exact h i (List.mem_range.1 hi)
theorem wa_no {f : Nat → Nat} {n k : Nat} (hk : k < n) (h : wi (f k) = false) : wa f n = false := by
  cases hc : wa f n with
  | false => rfl
  | true => unfold wa at hc; rw [List.all_eq_true] at hc; rw [hc k (List.mem_range.2 hk)] at h; cases h
theorem neg_most (w : World) : (Op.unary .neg (.float .f64 4706261610602168320)).run Try.prog w = .ok (.float .f64 13929633647456944128) w := by kernel_rfl
theorem wi_ways (x : Nat) : (wi x = false ∧ (FloatKind.f64.format.order x 13929633647456944128 == some .gt || FloatKind.f64.format.order x 13929633647456944128 == some .eq) = false) ∨
    ((FloatKind.f64.format.order x 13929633647456944128 == some .gt || FloatKind.f64.format.order x 13929633647456944128 == some .eq) = true ∧ (FloatKind.f64.format.order x 4706261610602168320 == some .lt || FloatKind.f64.format.order x 4706261610602168320 == some .eq) = wi x) := by
  cases h : geT x 13929633647456944128
  · left; exact ⟨by unfold wi; rw [h]; rfl, h⟩
  · right; refine ⟨h, ?_⟩
    unfold wi; rw [h]; rfl
set_option maxHeartbeats 2000000 in
theorem within_any (b n c : Nat) (f : Nat → Nat) (w : World) (hf : ∀ i, i < n → w.cell? ⟨b, i, none⟩ = some (.float .f64 (f i))) (hn : n ≤ c) (hc : c ≤ 4194304) :
    Calls Try.prog 57 #[.float .f64 4706261610602168320, .slice (some ⟨b, 0, none⟩) n c] w fun e w' => e = .returned (.bool (wa f n)) ∧ Below w.heap.size w w' := by
  have hng := neg_most
  have HR : Hid (∀ v, wa f n = v → Ending.returned (.bool v) = .returned (.bool (wa f n))) := fun v h => by rw [h]
  have HF : Hid (∀ i, i < n → w.cell? ⟨b, i, none⟩ = some (.float .f64 (f i))) := hf
  clear hf
  go_enter Try.func57, Try.ntmps57
  go_wp2_with fail
  go_loopw [9] (fun i ww => ∃ k : Nat, k ≤ n ∧ i = .int .i64 k ∧ ww = w ∧ Hid (∀ j, j < k → wi (f j) = true)) (fun i _ => n - (intOf i).toNat)
  case atStart => exact ⟨0, by omega, rfl, rfl, fun j hj => absurd hj (by omega)⟩
  case round =>
    obtain ⟨k, hk, rfl, rfl, hP⟩ := hrel
    by_cases hlt : k < n
    · have cf := HF.out k hlt
      have hlt' : (k : Int) < (n : Int) := by omega
      have w3 : IntKind.i64.wrap ((k : Int) + 1) = (k : Int) + 1 := wid (by omega) (by omega)
      rcases wi_ways (f k) with ⟨h0, h1⟩ | ⟨h1, h2⟩
      · have HN : Hid (wa f n = false) := wa_no hlt h0
        generalize f k = X at *
        clear h0
        go_wp2_with (simp only [hng])
        go_ret
        exact ⟨HR.out _ HN.out, by go_grown⟩
      · cases h3 : wi (f k)
        · have HN : Hid (wa f n = false) := wa_no hlt h3
          rw [h3] at h2
          generalize f k = X at *
          clear h3
          go_wp2_with (simp only [hng])
          go_ret
          exact ⟨HR.out _ HN.out, by go_grown⟩
        · rw [h3] at h2
          have hP2 : Hid (∀ j, j < k + 1 → wi (f j) = true) := fun j hj => by
            by_cases e : j = k
            · rw [e]; exact h3
            · exact hP.out j (by omega)
          generalize f k = X at *
          clear h3
          go_wp2_with (simp only [hng])
          go_roundw
          case rel => exact ⟨k + 1, by omega, by go_num, (by first | exact rfl | trivial), hP2⟩
          case measure => simp [intOf]; omega
    · obtain rfl : k = n := by omega
      have HN : Hid (wa f k = true) := wa_yes hP.out
      clear hlt
      go_wp2_with (simp only [hng])
      go_ret
      exact ⟨HR.out _ HN.out, by go_grown⟩
/-- All five are right. -/
def inC (c : Cf) : Bool := wi c.b0 && wi c.b1 && wi c.b2 && wi c.a1 && wi c.a2
def cN (c : Cf) (i : Nat) : Nat := match i with
  | 0 => c.b0
  | 1 => c.b1
  | 2 => c.b2
  | 3 => c.a1
  | _ => c.a2
theorem wa_in (c : Cf) : wa (cN c) 5 = inC c := by
  show (wi c.b0 && (wi c.b1 && (wi c.b2 && (wi c.a1 && (wi c.a2 && true))))) = _
  unfold inC
  cases wi c.b0 <;> cases wi c.b1 <;> cases wi c.b2 <;> cases wi c.a1 <;> cases wi c.a2 <;> rfl
@[reducible] def cv (c : Cf) : Value := .agg #[.float .f64 c.b0, .float .f64 c.b1, .float .f64 c.b2, .float .f64 c.a1, .float .f64 c.a2]
theorem FC.new {w : World} {b i : Nat} (h : w.cell? ⟨b, i, none⟩ = some (.float .f64 0)) : FC w b i (some 0) := ⟨0, h, by decide, by decide⟩
/-- What New answers. -/
structure NewQ (w : World) (c : Cf) (e : Ending) (w' : World) : Prop where
  b : Below w.heap.size w w'
  bad : inC c = false → e = .returned (.tuple #[.pointer none, .int .i64 3])
  ok : inC c = true → ∃ v, e = .returned (.tuple #[.pointer (some ⟨v, 0, none⟩), .int .i64 0]) ∧ w.heap.size ≤ v ∧ FL w' v c rest0
set_option maxHeartbeats 2000000 in
theorem New_any (c : Cf) (w : World) : Calls Try.prog 49 #[cv c] w fun e w' => NewQ w c e w' := by
  have q := fun (w' : World) (b : Nat) (h : ∀ i, i < 5 → w'.cell? ⟨b, i, none⟩ = some (.float .f64 (cN c i))) => within_any b 5 5 (cN c) w' h (by omega) (by omega)
  have hwa := wa_in c
  rw [hwa] at q
  have HQ : Hid (inC c = false → ∀ e w', e = .returned (.tuple #[.pointer none, .int .i64 3]) → Below w.heap.size w w' → NewQ w c e w') := fun h e w' he hb => ⟨hb, fun _ => he, fun h2 => (by rw [h] at h2; cases h2)⟩
  have HQ2 : Hid (inC c = true → ∀ e w' v, e = .returned (.tuple #[.pointer (some ⟨v, 0, none⟩), .int .i64 0]) → Below w.heap.size w w' → w.heap.size ≤ v → FL w' v c rest0 → NewQ w c e w') := fun h e w' v he hb hv hF => ⟨hb, fun h2 => (by rw [h] at h2; cases h2), fun _ => ⟨v, he, hv, hF⟩⟩
  obtain ⟨b0, b1, b2, a1, a2⟩ := c
  have q' := fun (w' : World) (b : Nat) (h0 : w'.cell? ⟨b, 0, none⟩ = some (.float .f64 b0)) (h1 : w'.cell? ⟨b, 1, none⟩ = some (.float .f64 b1)) (h2 : w'.cell? ⟨b, 2, none⟩ = some (.float .f64 b2)) (h3 : w'.cell? ⟨b, 3, none⟩ = some (.float .f64 a1)) (h4 : w'.cell? ⟨b, 4, none⟩ = some (.float .f64 a2)) => q w' b (fun i hi => by
    match i, hi with
    | 0, _ => exact h0
    | 1, _ => exact h1
    | 2, _ => exact h2
    | 3, _ => exact h3
    | 4, _ => exact h4)
  clear q hwa
  generalize hI : inC ⟨b0, b1, b2, a1, a2⟩ = I at *
  clear hI
  go_enter Try.func49, Try.ntmps49
  go_wp2_with fail
  refine (q' _ _ ?_ ?_ ?_ ?_ ?_).mono ?_
  · simp [go_sem]
  · simp [go_sem]
  · simp [go_sem]
  · simp [go_sem]
  · simp [go_sem]
  rintro e w1 ⟨rfl, hb1⟩
  have hb : Below w.heap.size w w1 := Below.trans (by go_grown) (hb1.mono (by simp; omega))
  have x0 := keepC hb1 (a := ⟨w.heap.size, 0, none⟩) (v := .float .f64 b0) (by simp; omega) (by simp [go_sem])
  have x1 := keepC hb1 (a := ⟨w.heap.size, 1, none⟩) (v := .float .f64 b1) (by simp; omega) (by simp [go_sem])
  have x2 := keepC hb1 (a := ⟨w.heap.size, 2, none⟩) (v := .float .f64 b2) (by simp; omega) (by simp [go_sem])
  have x3 := keepC hb1 (a := ⟨w.heap.size, 3, none⟩) (v := .float .f64 a1) (by simp; omega) (by simp [go_sem])
  have x4 := keepC hb1 (a := ⟨w.heap.size, 4, none⟩) (v := .float .f64 a2) (by simp; omega) (by simp [go_sem])
  have s1 : w.heap.size < w1.heap.size := by have := hb1.size; simp at this; omega
  clear hb1 q'
  cases I
  · go_wp2_with fail
    go_returns
    exact HQ.out (by first | exact rfl | trivial) _ _ rfl hb
  · go_wp2_with fail
    go_returns
    refine HQ2.out (by first | exact rfl | trivial) _ _ _ rfl (hb.alloc (by omega) _) (by omega) ⟨by simp [go_sem], by simp [go_sem], by simp [go_sem], by simp [go_sem], by simp [go_sem], FC.new (by simp [go_sem]), FC.new (by simp [go_sem]), FC.new (by simp [go_sem]), FC.new (by simp [go_sem]), fun i => by simp [go_sem], by simp⟩
set_option maxHeartbeats 2000000 in
theorem refWrong_any (c : Cf) (w : World) : Calls Try.prog 31 #[cv c] w fun e w' => e = .returned (.bool (!inC c)) ∧ Below w.heap.size w w' := by
  have HR : Hid (∀ v, inC c = !v → Ending.returned (.bool v) = .returned (.bool (!inC c))) := fun v h => by rw [h]; cases v <;> rfl
  have hwa := wa_in c
  have HF : Hid (∀ (w' : World) (b : Nat), w'.cell? ⟨b, 0, none⟩ = some (.float .f64 c.b0) → w'.cell? ⟨b, 1, none⟩ = some (.float .f64 c.b1) → w'.cell? ⟨b, 2, none⟩ = some (.float .f64 c.b2) → w'.cell? ⟨b, 3, none⟩ = some (.float .f64 c.a1) → w'.cell? ⟨b, 4, none⟩ = some (.float .f64 c.a2) → ∀ i, i < 5 → w'.cell? ⟨b, i, none⟩ = some (.float .f64 (cN c i))) := fun w' b h0 h1 h2 h3 h4 i hi => by
    match i, hi with
    | 0, _ => exact h0
    | 1, _ => exact h1
    | 2, _ => exact h2
    | 3, _ => exact h3
    | 4, _ => exact h4
  generalize hg : cN c = f at *
  clear hg
  obtain ⟨b0, b1, b2, a1, a2⟩ := c
  simp only at *
  rw [← hwa] at HR ⊢
  clear hwa
  have HFF : Hid (∀ i, i < 5 → ((w.alloc (Obj.cells #[.float .f64 b0, .float .f64 b1, .float .f64 b2, .float .f64 a1, .float .f64 a2] 48)).alloc (Obj.cells #[.float .f64 b0, .float .f64 b1, .float .f64 b2, .float .f64 a1, .float .f64 a2] 46)).cell? ⟨w.heap.size + 1, i, none⟩ = some (.float .f64 (f i))) := HF.out _ _ (by simp [go_sem]) (by simp [go_sem]) (by simp [go_sem]) (by simp [go_sem]) (by simp [go_sem])
  have hb : Below w.heap.size w ((w.alloc (Obj.cells #[.float .f64 b0, .float .f64 b1, .float .f64 b2, .float .f64 a1, .float .f64 a2] 48)).alloc (Obj.cells #[.float .f64 b0, .float .f64 b1, .float .f64 b2, .float .f64 a1, .float .f64 a2] 46)) := ((Below.refl _ _).alloc (Nat.le_refl _) _).alloc (by simp) _
  clear HF
  go_enter Try.func31, Try.ntmps31
  go_wp2_with fail
  generalize (w.alloc (Obj.cells #[.float .f64 b0, .float .f64 b1, .float .f64 b2, .float .f64 a1, .float .f64 a2] 48)).alloc (Obj.cells #[.float .f64 b0, .float .f64 b1, .float .f64 b2, .float .f64 a1, .float .f64 a2] 46) = W at *
  go_loopw [17] (fun i ww => ∃ k : Nat, k ≤ 5 ∧ i = .int .i64 k ∧ ww = W ∧ Hid (∀ j, j < k → wi (f j) = true)) (fun i _ => 5 - (intOf i).toNat)
  case atStart => exact ⟨0, by omega, rfl, rfl, fun j hj => absurd hj (by omega)⟩
  case round =>
    obtain ⟨k, hk, rfl, rfl, hP⟩ := hrel
    by_cases hlt : k < 5
    · have cf := HFF.out k hlt
      have hlt' : (k : Int) < 5 := by omega
      have w3 : IntKind.i64.wrap ((k : Int) + 1) = (k : Int) + 1 := wid (by omega) (by omega)
      rcases wi_ways (f k) with ⟨h0, h1⟩ | ⟨h1, h2⟩
      · have HN : Hid (wa f 5 = false) := wa_no hlt h0
        generalize f k = X at *
        clear h0
        go_wp2_with fail
        go_ret
        exact ⟨HR.out _ HN.out, hb⟩
      · cases h3 : wi (f k)
        · have HN : Hid (wa f 5 = false) := wa_no hlt h3
          rw [h3] at h2
          generalize f k = X at *
          clear h3
          go_wp2_with fail
          go_ret
          exact ⟨HR.out _ HN.out, hb⟩
        · rw [h3] at h2
          have hP2 : Hid (∀ j, j < k + 1 → wi (f j) = true) := fun j hj => by
            by_cases e : j = k
            · rw [e]; exact h3
            · exact hP.out j (by omega)
          generalize f k = X at *
          clear h3
          go_wp2_with fail
          go_roundw
          case rel => exact ⟨k + 1, by omega, by go_num, (by first | exact rfl | trivial), hP2⟩
          case measure => simp [intOf]; omega
    · obtain rfl : k = 5 := by omega
      have HN : Hid (wa f 5 = true) := wa_yes hP.out
      clear hlt
      go_wp2_with fail
      go_ret
      exact ⟨HR.out _ HN.out, hb⟩
/-- All blocks below N but b are kept. -/
structure Kn (w : World) (b N : Nat) (w' : World) : Prop where
  k : ∀ j, j < N → j ≠ b → w'.heap[j]? = w.heap[j]?
  z : w.heap.size ≤ w'.heap.size
  b : Below b w w'
theorem Kn.refl (w : World) (b N : Nat) : Kn w b N w := ⟨fun _ _ _ => rfl, Nat.le_refl _, Below.refl _ _⟩
theorem Kn.trans {w w1 w2 : World} {b N : Nat} (h : Kn w b N w1) (h2 : Kn w1 b N w2) : Kn w b N w2 :=
  ⟨fun j hj hne => (h2.k j hj hne).trans (h.k j hj hne), Nat.le_trans h.z h2.z, h.b.trans h2.b⟩
theorem Kn.bel {w w' : World} {b N : Nat} (h : Below w.heap.size w w') (hN : N ≤ w.heap.size) (hb : b < w.heap.size) : Kn w b N w' :=
  ⟨fun j hj _ => h.block j (by omega), h.size, h.mono (by omega)⟩
theorem Kn.put {w : World} {b N c i : Nat} {v : Value} (hc : c = b ∨ N ≤ c) (hb : b ≤ c) : Kn w b N (w.setCell ⟨c, i, none⟩ v) :=
  ⟨fun j hj hne => Below.heap_setCell _ _ _ _ (by show j ≠ c; omega), by simp [World.setCell], (Below.refl _ _).setCell (p := ⟨c, i, none⟩) hb _⟩
theorem FC.keep {w w' : World} {b i : Nat} {o : Option Nat} (h : FC w b i o) (hk : w'.heap[b]? = w.heap[b]?) : FC w' b i o := by
  obtain ⟨X, h1, h2, h3⟩ := h
  exact ⟨X, (World.cell?_of_block (w := w) (w' := w') (a := ⟨b, i, none⟩) hk).trans h1, h2, h3⟩
theorem FL.keep {w w' : World} {b : Nat} {c : Cf} {s : St} (h : FL w b c s) (hk : w'.heap[b]? = w.heap[b]?) (hz : w.heap.size ≤ w'.heap.size) : FL w' b c s := by
  have hc : ∀ i, w'.cell? ⟨b, i, none⟩ = w.cell? ⟨b, i, none⟩ := fun i => World.cell?_of_block (w := w) (w' := w') (a := ⟨b, i, none⟩) hk
  exact ⟨(hc 0).trans h.c0, (hc 1).trans h.c1, (hc 2).trans h.c2, (hc 3).trans h.c3, (hc 4).trans h.c4, h.c5.keep hk, h.c6.keep hk, h.c7.keep hk, h.c8.keep hk, fun i => (World.frozen?_of_block (w := w) (w' := w') (a := ⟨b, i, none⟩) hk).trans (h.f i), by have := h.lt; omega⟩
theorem FL.bel {w w' : World} {b : Nat} {c : Cf} {s : St} (h : FL w b c s) (hb : Below w.heap.size w w') : FL w' b c s := h.keep (hb.block b h.lt) hb.size
theorem oth {w : World} {b i j : Nat} (v : Value) (h : j ≠ i) : (w.setCell ⟨b, j, none⟩ v).cell? ⟨b, i, none⟩ = w.cell? ⟨b, i, none⟩ := World.cell?_setCell_other _ _ _ _ (fun e => h (congrArg Addr.off e))
end Go.Proofs.Ytjpcebnbkdekkaa.Fi

/- What Rest and Run come to. -/
namespace Go.Proofs.Ytjpcebnbkdekkaa.Fi
open Go.RowKit Go.Maps Go.Sort Fl
set_option linter.unusedSimpArgs false
set_option linter.unusedVariables false

theorem infoF : (Try.prog.info? 46).map (fun i => (i.zero, i.size, i.bytes)) = some (some (.float .f64 0), 1, 8) := by kernel_rfl
/-- Words in memory. -/
structure IL (w : World) (S : Nat → Prop) (ao : Option Addr) (l : List Nat) : Prop where
  at' : 0 < l.length → ∃ b off, ao = some ⟨b, off, none⟩ ∧ b < w.heap.size ∧ S b ∧ ∀ (j : Nat) x, l[j]? = some x → w.cell? ⟨b, off + j, none⟩ = some (.float .f64 x) ∧ x < 18446744073709551616
theorem IL.keep {w w' : World} {S S' : Nat → Prop} {ao : Option Addr} {l : List Nat} (h : IL w S ao l) (hk : ∀ b, S b → b < w.heap.size → w'.heap[b]? = w.heap[b]?) (hz : w.heap.size ≤ w'.heap.size) (hs : ∀ b, S b → b < w.heap.size → S' b) : IL w' S' ao l := ⟨fun hn => by
  obtain ⟨b, off, h1, h2, h3, h4⟩ := h.at' hn
  exact ⟨b, off, h1, by omega, hs b h3 h2, fun j x hj => ⟨(World.cell?_of_block (w := w) (w' := w') (a := ⟨b, off + j, none⟩) (hk b h3 h2)).trans (h4 j x hj).1, (h4 j x hj).2⟩⟩⟩
theorem IL.bel {w w' : World} {S : Nat → Prop} {ao : Option Addr} {l : List Nat} (h : IL w S ao l) (hb : Below w.heap.size w w') : IL w' S ao l := h.keep (fun b _ hl => hb.block b hl) hb.size (fun _ h _ => h)
/-- A filter's own cells, put anew. -/
theorem FL.put {w w' : World} {b : Nat} {c : Cf} {s s' : St} (h : FL w b c s) (hc : ∀ i, i < 5 → w'.cell? ⟨b, i, none⟩ = w.cell? ⟨b, i, none⟩) (h5 : FC w' b 5 s'.x1) (h6 : FC w' b 6 s'.x2) (h7 : FC w' b 7 s'.y1) (h8 : FC w' b 8 s'.y2) (hf : ∀ i, w'.frozen? ⟨b, i, none⟩ = w.frozen? ⟨b, i, none⟩) (hz : w'.heap.size = w.heap.size) : FL w' b c s' :=
  ⟨(hc 0 (by decide)).trans h.c0, (hc 1 (by decide)).trans h.c1, (hc 2 (by decide)).trans h.c2, (hc 3 (by decide)).trans h.c3, (hc 4 (by decide)).trans h.c4, h5, h6, h7, h8, fun i => (hf i).trans (h.f i), by have := h.lt; omega⟩
set_option maxHeartbeats 2000000 in
theorem Rest_any (c : Cf) (s : St) (b : Nat) (w : World) (hF : FL w b c s) :
    Calls Try.prog 96 #[.pointer (some ⟨b, 0, none⟩)] w fun e w' => e = .returned (.tuple #[]) ∧ FL w' b c rest0 ∧ Kn w b w.heap.size w' := by
  have HF : Hid (FL w b c s) := hF
  obtain ⟨c0, c1, c2, c3, c4, ⟨X1, c5, X1l, X1a⟩, ⟨X2, c6, X2l, X2a⟩, ⟨Y1, c7, Y1l, Y1a⟩, ⟨Y2, c8, Y2l, Y2a⟩, f, lt⟩ := hF
  have f0 := f 0
  have f1 := f 1
  have f2 := f 2
  have f3 := f 3
  have f4 := f 4
  have f5 := f 5
  have f6 := f 6
  have f7 := f 7
  have f8 := f 8
  have HfA : Hid (∀ i, w.frozen? ⟨b, i, none⟩ = false) := f
  clear f
  go_enter Try.func96, Try.ntmps96
  go_wp2_with fail
  go_end0
  refine ⟨rfl, ⟨?_, ?_, ?_, ?_, ?_, FC.new ?_, FC.new ?_, FC.new ?_, FC.new ?_, fun i => ?_, by simpa [World.setCell] using lt⟩, ?_⟩
  · simp [go_sem, c0]
  · simp [go_sem, c1]
  · simp [go_sem, c2]
  · simp [go_sem, c3]
  · simp [go_sem, c4]
  · simp [go_sem, c5]
  · simp [go_sem, c6]
  · simp [go_sem, c7]
  · simp [go_sem, c8]
  · simp only [World.frozen?_setCell]; exact HfA.out i
  · exact (((((((((Kn.put (.inl rfl) (Nat.le_refl _)).trans (Kn.put (.inl rfl) (Nat.le_refl _))).trans (Kn.put (.inl rfl) (Nat.le_refl _))).trans (Kn.put (.inl rfl) (Nat.le_refl _))).trans (Kn.put (.inl rfl) (Nat.le_refl _))).trans (Kn.put (.inl rfl) (Nat.le_refl _))).trans (Kn.put (.inl rfl) (Nat.le_refl _))).trans (Kn.put (.inl rfl) (Nat.le_refl _))).trans (Kn.put (.inl rfl) (Nat.le_refl _)))
/-- Floats in a block of their own. -/
def FR (w : World) (nb n : Nat) (f : Nat → Nat) : Prop := w.rowIs nb 46 n (fun i => .float .f64 (f i))
/-- What Run leaves. -/
structure RnQ (w : World) (b : Nat) (c : Cf) (s : St) (l : List Nat) (e : Ending) (w' : World) : Prop where
  ex : e = .returned (.slice (some ⟨w.heap.size, 0, none⟩) l.length l.length)
  fr : ∃ g : List Nat, g.length = l.length ∧ abs g = outs c s (abs l) ∧ (∀ x ∈ g, x < 18446744073709551616) ∧ FR w' w.heap.size l.length (fun i => g.getD i 0)
  v : FL w' b c (sts c s (abs l))
  k : Kn w b w.heap.size w'
  z : w.heap.size < w'.heap.size
theorem getD_snoc (g : List Nat) (y i : Nat) : (g ++ [y]).getD i 0 = if i = g.length then y else g.getD i 0 := by
  simp only [List.getD_eq_getElem?_getD]
  by_cases c : i < g.length
  · rw [List.getElem?_append_left c, if_neg (by omega)]
  · rw [List.getElem?_append_right (by omega)]
    by_cases d : i = g.length
    · subst d; simp
    · rw [if_neg d, List.getElem?_eq_none (by simp; omega), List.getElem?_eq_none (by omega)]
set_option maxHeartbeats 4000000 in
theorem Run_any (c : Cf) (s : St) (b : Nat) (S : Nat → Prop) (l : List Nat) (ao : Option Addr) (cp : Nat) (w : World) (hF : FL w b c s) (hL : IL w S ao l) (hS : ∀ k, S k → k ≠ b) (hc : l.length ≤ cp) (hcm : cp ≤ 9223372036854775807) (hl : l.length ≤ 17592186044416) :
    Calls Try.prog 98 #[.pointer (some ⟨b, 0, none⟩), .slice ao l.length cp] w fun e w' => RnQ w b c s l e w' := by
  obtain ⟨n, hn⟩ : ∃ n, n = l.length := ⟨_, rfl⟩
  rw [← hn] at hc hl ⊢
  have mk : (Instr.makeSlice 38 (.int .i64 (n : Int)) (.int .i64 (n : Int))).run Try.prog w = .ok (.slice (some ⟨w.heap.size, 0, none⟩) n n) (w.alloc (.cells (madeCells #[.float .f64 0] n) 46)) := run_make_row' (P := Try.prog) 38 46 (.float .f64 0) 8 Try.underlying38 infoF rfl .i64 .i64 n (by omega) (by omega) w
  have lt := hF.lt
  have HL : Hid (IL w S ao l) := hL
  have HS : Hid (∀ k, S k → k ≠ b) := hS
  have hbA : Below w.heap.size w (w.alloc (.cells (madeCells #[.float .f64 0] n) 46)) := (Below.refl _ _).alloc (Nat.le_refl _) _
  have HF : Hid (FR (w.alloc (.cells (madeCells #[.float .f64 0] n) 46)) w.heap.size n (fun i => ([] : List Nat).getD i 0)) := World.rowIs.congr (World.rowIs_made w (.float .f64 0) n 46) (fun i _ => rfl)
  have HV : Hid (FL (w.alloc (.cells (madeCells #[.float .f64 0] n) 46)) b c s) := hF.bel hbA
  have hzA : (w.alloc (.cells (madeCells #[.float .f64 0] n) 46)).heap.size = w.heap.size + 1 := by simp
  have Hn : Hid (n = l.length) := hn
  clear hF hn hL hS
  go_enter Try.func98, Try.ntmps98
  go_wp2_with (simp only [mk])
  generalize w.alloc (.cells (madeCells #[.float .f64 0] n) 46) = W0 at *
  clear mk
  go_loopw [14] (fun i ww => ∃ k : Nat, k ≤ n ∧ i = .int .i64 k ∧ Hid (FL ww b c (sts c s (abs (l.take k)))) ∧ Hid (∃ g : List Nat, g.length = k ∧ abs g = outs c s (abs (l.take k)) ∧ (∀ x ∈ g, x < 18446744073709551616) ∧ FR ww w.heap.size n (fun i => g.getD i 0)) ∧ Kn w b w.heap.size ww ∧ w.heap.size < ww.heap.size) (fun i _ => n - (intOf i).toNat)
  case atStart => exact ⟨0, by omega, rfl, HV, ⟨[], rfl, rfl, fun x hx => absurd hx (by simp), HF.out⟩, Kn.bel hbA (Nat.le_refl _) lt, by omega⟩
  case round =>
    obtain ⟨k, hk, rfl, hV, hG, hK, hz⟩ := hrel
    clear HV HF
    by_cases hlt : k < n
    · obtain ⟨x, hx⟩ : ∃ x, l[k]? = some x := ⟨_, List.getElem?_eq_getElem (by rw [← Hn.out]; exact hlt)⟩
      obtain ⟨nb, of, rfl, hnb, hSb, q0⟩ := HL.out.at' (by rw [← Hn.out]; omega)
      obtain ⟨r0, r1⟩ := q0 k x hx
      have hne0 := HS.out nb hSb
      have r0' : wr.cell? ⟨nb, of + k, none⟩ = some (.float .f64 x) := (World.cell?_of_block (w := w) (w' := wr) (a := ⟨nb, of + k, none⟩) (hK.k nb hnb hne0)).trans r0
      have HO : Hid (outs c s (abs (l.take (k + 1))) = outs c s (abs (l.take k)) ++ [nx c (sts c s (abs (l.take k))) (ab x)]) := outs_step c s hx
      have HT : Hid (sts c s (abs (l.take (k + 1))) = adv c (sts c s (abs (l.take k))) (ab x)) := sts_step c s hx
      have hlt' : (k : Int) < (n : Int) := by omega
      have w3 : IntKind.i64.wrap ((k : Int) + 1) = (k : Int) + 1 := wid (by omega) (by omega)
      have q1 := next_any c (sts c s (abs (l.take k))) b x wr r1 hV.out
      have hnb' : nb < wr.heap.size := by have := hK.z; omega
      generalize sts c s (abs (l.take k)) = SS at *
      clear q0 hx r0
      go_wp2_with fail
      refine q1.mono ?_
      rintro e w2 ⟨r, rfl, hr, hra, hb2⟩
      have HV2 : Hid (FL w2 b c SS) := hV.out.bel hb2
      obtain ⟨g, g1, g2, g3, g4⟩ := hG.out
      have HF2 : Hid (FR w2 w.heap.size n (fun i => g.getD i 0)) := World.rowIs.of_block g4 (hb2.block _ hz)
      have hz2 : w.heap.size < w2.heap.size := by have := hb2.size; omega
      obtain ⟨c0, c1, c2, c3, c4, ⟨X1, c5, X1l, X1a⟩, ⟨X2, c6, X2l, X2a⟩, ⟨Y1, c7, Y1l, Y1a⟩, ⟨Y2, c8, Y2l, Y2a⟩, f, lt2⟩ := HV2.out
      have f5 := f 5
      have f6 := f 6
      have f7 := f 7
      have f8 := f 8
      have y : w2.cell? ⟨w.heap.size, k, none⟩ = some (.float .f64 (g.getD k 0)) := World.rowIs.cell HF2.out hlt
      have yf := World.rowIs.frozen HF2.out k
      generalize g.getD k 0 = gk at *
      have hne : b ≠ w.heap.size := by omega
      have hne' : w.heap.size ≠ b := by omega
      have HX : Hid (X1l = X1l ∧ ab X1 = SS.x1 ∧ ab Y1 = SS.y1 ∧ ab r = nx c SS (ab x)) := ⟨rfl, X1a, Y1a, hra⟩
      have HG : Hid (g.length = k ∧ abs g = outs c s (abs (l.take k)) ∧ ∀ x ∈ g, x < 18446744073709551616) := ⟨g1, g2, g3⟩
      clear hV hG g1 g2 g3 g4 X1a X2a Y1a Y2a hra f q1 c0 c1 c2 c3 c4
      go_wp2_with fail
      go_roundw
      case measure => simp [intOf]; omega
      case rel =>
        have ob : ∀ (W : World) (v : Value) (i : Nat), (W.setCell ⟨w.heap.size, k, none⟩ v).cell? ⟨b, i, none⟩ = W.cell? ⟨b, i, none⟩ := fun W v i => World.cell?_setCell_other _ _ _ _ (fun e => hne' (congrArg Addr.block e))
        obtain ⟨_, ex1, ey1, er⟩ := HX.out
        obtain ⟨g1, g2, g3⟩ := HG.out
        refine ⟨k + 1, by omega, by go_num, ?_, ⟨g ++ [r], by rw [List.length_append, g1]; rfl, ?_, fun z hz => ?_, ?_⟩, ?_, ?_⟩
        · unfold Hid
          rw [HT.out]
          refine HV2.out.put (fun i hi => ?_) ⟨x, ?_, r1, rfl⟩ ⟨X1, ?_, X1l, ex1⟩ ⟨r, ?_, hr, er⟩ ⟨Y1, ?_, Y1l, ey1⟩ (fun i => ?_) (by simp [World.setCell])
          · rw [ob, oth _ (by omega), oth _ (by omega), oth _ (by omega), oth _ (by omega)]
          · rw [ob, oth _ (by omega), oth _ (by omega), oth _ (by omega)]; exact World.cell?_setCell_same _ _ _ c5
          · rw [ob, oth _ (by omega), oth _ (by omega)]; exact World.cell?_setCell_same _ _ _ (by rw [oth _ (by omega)]; exact c6)
          · rw [ob, oth _ (by omega)]; exact World.cell?_setCell_same _ _ _ (by rw [oth _ (by omega), oth _ (by omega)]; exact c7)
          · rw [ob]; exact World.cell?_setCell_same _ _ _ (by rw [oth _ (by omega), oth _ (by omega), oth _ (by omega)]; exact c8)
          · simp only [World.frozen?_setCell]
        · rw [HO.out, abs_app, g2, ← er]; rfl
        · rcases List.mem_append.1 hz with q | q
          · exact g3 z q
          · simp at q; subst q; exact hr
        · refine World.rowIs.congr (World.rowIs.set (World.rowIs.setOther (World.rowIs.setOther (World.rowIs.setOther (World.rowIs.setOther HF2.out hne' _) hne' _) hne' _) hne' _) k (.float .f64 r)) (fun i hi => ?_)
          show _ = Value.float .f64 ((g ++ [r]).getD i 0)
          rw [getD_snoc, g1]
          by_cases e : i = k
          · rw [if_pos e, if_pos e]
          · rw [if_neg e, if_neg e]
        · exact (((((hK.trans (Kn.bel hb2 (by omega) (by omega))).trans (Kn.put (.inl rfl) (Nat.le_refl _))).trans (Kn.put (.inl rfl) (Nat.le_refl _))).trans (Kn.put (.inl rfl) (Nat.le_refl _))).trans (Kn.put (.inl rfl) (Nat.le_refl _))).trans (Kn.put (.inr (Nat.le_refl _)) (by omega))
        · simpa [World.setCell] using hz2
    · obtain rfl : k = n := by omega
      go_wp2_with fail
      go_ret
      obtain ⟨g, g1, g2, g3, g4⟩ := hG.out
      have ht : l.take k = l := List.take_of_length_le (by rw [← Hn.out]; exact Nat.le_refl _)
      rw [ht] at g2
      have hv := hV.out
      rw [ht] at hv
      have Hn' := Hn.out
      exact ⟨by rw [← Hn']; rfl, ⟨g, by rw [g1, Hn'], g2, g3, by rw [← Hn']; exact g4⟩, hv, hK, hz⟩
end Go.Proofs.Ytjpcebnbkdekkaa.Fi
