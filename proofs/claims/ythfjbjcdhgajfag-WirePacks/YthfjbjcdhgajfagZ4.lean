/- Bytes in a row of one's own; what the program's appendWait and appendEvent come to. -/
import Derived.Test.YthfjbjcdhgajfagZ1
import Derived.Maps.AppendAt
import Derived.OneCell
import Derived.Laws.AppendOwnNone
namespace Go.Proofs.Ythfjbjcdhgajfag.Z
open Go.RowKit Go.Maps
set_option linter.unusedVariables false
set_option linter.unusedSimpArgs false

/-- A byte as a cell. -/
def bc (x : Nat) : Value := .int .u8 (x : Int)
/-- v is a row of one's own that holds these bytes. -/
def OB (w : World) (base : Nat) (v : Value) (xs : List Nat) : Prop := w.ownsRow base 5 1 v xs.length (xs.map bc)
theorem own_block {w : World} {base : Nat} {e : TypeId} {size : Nat} {v : Value} {n : Nat} {xs : List Value} (h : w.ownsRow base e size v n xs) : ∀ k, v.ownBlock = some k → base ≤ k := by
  intro k hk
  rcases h.2 with ⟨rfl, _⟩ | ⟨g, cap, cur, rfl, h1, h2, rest⟩
  · simp [Value.ownBlock] at hk
  · simp [Value.ownBlock] at hk; omega
theorem own_lt {w : World} {base : Nat} {e : TypeId} {size : Nat} {v : Value} {n : Nat} {xs : List Value} (h : w.ownsRow base e size v n xs) : ∀ k, v.ownBlock = some k → k < w.heap.size := by
  intro k hk
  rcases h.2 with ⟨rfl, _⟩ | ⟨g, cap, cur, rfl, h1, h2, rest⟩
  · simp [Value.ownBlock] at hk
  · simp [Value.ownBlock] at hk; subst hk; exact (Array.getElem?_eq_some_iff.1 h2).1
theorem own_step {w w' : World} {base : Nat} {e : TypeId} {size : Nat} {v : Value} {n : Nat} {xs : List Value} (h : w.ownsRow base e size v n xs) (hb : ∀ k, v.ownBlock = some k → w'.heap[k]? = w.heap[k]?) : w'.ownsRow base e size v n xs := by
  refine ⟨h.1, ?_⟩
  rcases h.2 with hn | ⟨g, cap, cur, rfl, h1, h2, rest⟩
  · exact .inl hn
  · refine .inr ⟨g, cap, cur, rfl, h1, ?_, rest⟩
    rw [hb g rfl]; exact h2
theorem OB.keep {w w' : World} {base : Nat} {v : Value} {xs : List Nat} (h : OB w base v xs) (hb : Below w.heap.size w w') : OB w' base v xs :=
  own_step h (fun k hk => hb.block k (own_lt h k hk))
/-- What an append keeps: all but the row's own block. -/
structure Gw (w w' : World) (v v' : Value) : Prop where
  gr : w.grownBy w' v.ownBlock
  ob : v'.ownBlock = v.ownBlock ∨ ∃ k, v'.ownBlock = some k ∧ w.heap.size ≤ k
theorem Gw.trans {w w1 w2 : World} {v v1 v2 : Value} (h : Gw w w1 v v1) (h2 : Gw w1 w2 v1 v2) : Gw w w2 v v2 := by
  have z := h.gr.size
  refine ⟨⟨h2.gr.os.trans h.gr.os, h2.gr.tape.trans h.gr.tape, h2.gr.output.trans h.gr.output, Nat.le_trans z h2.gr.size, fun k hk hne => ?_⟩, ?_⟩
  · refine (h2.gr.block k (by omega) ?_).trans (h.gr.block k hk hne)
    rcases h.ob with e | ⟨j, e, hj⟩
    · rw [e]; exact hne
    · rw [e]; intro q; cases q; omega
  · rcases h2.ob with e | ⟨j, e, hj⟩
    · rw [e]; exact h.ob
    · exact Or.inr ⟨j, e, by omega⟩
theorem Gw.below {w w' : World} (v : Value) (hb : Below w.heap.size w w') : Gw w w' v v :=
  ⟨⟨hb.os, hb.tape, hb.output, hb.size, fun k hk _ => hb.block k hk⟩, Or.inl rfl⟩
theorem Gw.bel {w w' : World} {v v' : Value} {B : Nat} (h : Gw w w' v v') (hB : B ≤ w.heap.size) (hr : ∀ k, v.ownBlock = some k → B ≤ k) : Below B w w' :=
  (Below.refl B w).grown h.gr hB hr
theorem Gw.cell {w w' : World} {v v' : Value} (h : Gw w w' v v') {b o : Nat} {u : Value} (hlt : b < w.heap.size) (hne : some b ≠ v.ownBlock) (hc : w.cell? ⟨b, o, none⟩ = some u) : w'.cell? ⟨b, o, none⟩ = some u :=
  (World.cell?_of_block (w := w) (w' := w') (a := ⟨b, o, none⟩) (h.gr.block b hlt hne)).trans hc
theorem Gw.froz {w w' : World} {v v' : Value} (h : Gw w w' v v') {b o : Nat} {u : Bool} (hlt : b < w.heap.size) (hne : some b ≠ v.ownBlock) (hc : w.frozen? ⟨b, o, none⟩ = u) : w'.frozen? ⟨b, o, none⟩ = u :=
  (World.frozen?_of_block (w := w) (w' := w') (a := ⟨b, o, none⟩) (h.gr.block b hlt hne)).trans hc
theorem infoY : (Try.prog.info? 5).map (fun i => (i.zero, i.size, i.bytes)) = some (some (.int .u8 0), 1, 1) := by kernel_rfl
/-- append(s, x) where s is one's own row of bytes. -/
theorem wpList_append_byte {w : World} {ops : Array Oper} {rest : List Oper} {o : Oper} {a : Act} {Q : Exit → Act → World → Prop} (hgd : o.guard = none) (s y : Operand)
    (ho : o.op = .call { callee := .builtin .append, args := #[s, y], argTypes := #[65, 65] })
    (base : Nat) (v : Value) (xs : List Nat) (hs : a.eval s = v) (hown : OB w base v xs)
    (g x : Nat) (hx : a.eval y = .slice (some ⟨g, 0, none⟩) 1 1) (hc : w.cell? ⟨g, 0, none⟩ = some (bc x))
    (h63 : xs.length ≤ 1000000) (hbase : base ≤ w.heap.size)
    (h : ∀ v' w', OB w' base v' (xs ++ [x]) → Gw w w' v v' → wpList Try.prog ops Q rest (a.put o.dst v') w') :
    wpList Try.prog ops Q (o :: rest) a w := by
  obtain ⟨i, hi, hz, hz1, hz2⟩ := info_parts infoY
  refine wpList_append_own_at w hgd s y 65 ho base 5 i (.int .u8 0) 1 1 Try.underlying65 hi hz hz1 hz2 rfl (by omega) v xs.length (xs.map bc) hs hown ⟨g, 0, none⟩ 1 1 [bc x] hx rfl ?_ ?_ (by unfold maxLen; omega) (by omega) hbase (fun v' w' k1 k2 _ k4 => h v' w' ?_ ?_)
  · intro j u hj
    match j, hj with
    | 0, hj => simp at hj; subst hj; simpa [Addr.add] using hc
  · intro u hu; simp at hu; subst hu; rfl
  · unfold OB; simpa using k1
  · exact ⟨k2, k4.imp id (fun e => ⟨_, e, Nat.le_refl _⟩)⟩
theorem gz {w w' : World} {v v' : Value} (h : Gw w w' v v') : w.heap.size ≤ w'.heap.size := h.gr.size
theorem rem_nat (n : Nat) : Int.tmod (n : Int) 128 = ((n % 128 : Nat) : Int) := by
  rw [Int.tmod_eq_emod_of_nonneg (by omega)]; omega

def wA (n : Nat) : List Nat := if 0 < n / 2097152 then [128 + n / 2097152 % 128] else []
def wB (n : Nat) : List Nat := if 0 < n / 16384 then [128 + n / 16384 % 128] else []
def wC (n : Nat) : List Nat := if 0 < n / 128 then [128 + n / 128 % 128] else []
theorem wt_parts (n : Nat) : M.wt n = wA n ++ (wB n ++ (wC n ++ [n % 128])) := rfl
set_option maxHeartbeats 2000000 in
theorem appendWait_any (n : Nat) (hn : n ≤ 268435455) (base : Nat) (v : Value) (xs : List Nat) (w : World) (hown : OB w base v xs) (hbase : base ≤ w.heap.size) (h63 : xs.length ≤ 500000) :
    Calls Try.prog 42 #[v, .int .i64 (n : Int)] w fun e w' => ∃ v', e = .returned v' ∧ OB w' base v' (xs ++ M.wt n) ∧ Gw w w' v v' := by
  go_enter Try.func42, Try.ntmps42
  go_wp2_with fail
  go_loopw [5, 0] (fun s o wr => ∃ (S : Int) (ys : List Nat), s = .int .i64 S ∧ OB wr base o ys ∧ Gw w wr v o ∧ ys.length ≤ 500000 + (21 - S.toNat) ∧ Hid ((S = 21 ∧ ys = xs) ∨ (S = 14 ∧ ys = xs ++ wA n) ∨ (S = 7 ∧ ys = xs ++ (wA n ++ wB n)) ∨ (S = 0 ∧ ys = xs ++ (wA n ++ (wB n ++ wC n))))) (fun s _ _ => (intOf s).toNat)
  case atStart => exact ⟨21, xs, rfl, hown, Gw.below v (Below.refl _ _), by omega, Or.inl ⟨rfl, rfl⟩⟩
  case round =>
    obtain ⟨S, ys, rfl, ho, hg, hlen, hS⟩ := hrel
    rcases hS.out with ⟨rfl, hys⟩ | ⟨rfl, hys⟩ | ⟨rfl, hys⟩ | ⟨rfl, hys⟩
    · clear hS
      have HY : Hid (ys = xs) := hys
      clear hys
      by_cases c : 0 < n / 2097152
      · have c' : (0 : Int) < (n : Int) / 2097152 := by omega
        have hb1 : ∀ os, Below wr.heap.size wr (wr.alloc os) := fun os => by go_grown
        have hW : Hid (wA n = [128 + n / 2097152 % 128]) := if_pos c
        have hv : Hid (Value.int IntKind.u8 (128 + (n : Int) / 2097152 % 128) = bc (128 + n / 2097152 % 128)) := by show _ = _; unfold bc; congr 1
        clear c
        go_wp2_with (at_builtin; refine wpList_append_byte rfl (.tmp 16) (.tmp 21) rfl base _ ys rfl (ho.keep (hb1 _)) wr.heap.size (128 + n / 2097152 % 128) rfl (by rw [← hv.out]; simp [go_sem]) (by omega) ?c2 ?_)
        case c2 => have := hg.gr.size; simp; omega
        intro v' w3 ho' hg'
        have hg3 : Gw w w3 v v' := hg.trans ((Gw.below _ (hb1 _)).trans hg')
        clear hb1 hg' hg ho
        go_wp2_with fail
        go_roundw
        case rel => exact ⟨14, _, rfl, ho', hg3, by simp; omega, Or.inr (Or.inl ⟨rfl, by rw [hW.out, HY.out]⟩)⟩
        case measure => simp [intOf]
      · have c' : ¬ (0 : Int) < (n : Int) / 2097152 := by omega
        have hW : Hid (wA n = []) := if_neg c
        clear c
        go_wp2_with fail
        go_roundw
        case rel => exact ⟨14, ys, rfl, ho, hg, by omega, Or.inr (Or.inl ⟨rfl, by rw [hW.out, HY.out]; simp⟩)⟩
        case measure => simp [intOf]
    · clear hS
      have HY : Hid (ys = xs ++ wA n) := hys
      clear hys
      by_cases c : 0 < n / 16384
      · have c' : (0 : Int) < (n : Int) / 16384 := by omega
        have hb1 : ∀ os, Below wr.heap.size wr (wr.alloc os) := fun os => by go_grown
        have hW : Hid (wB n = [128 + n / 16384 % 128]) := if_pos c
        have hv : Hid (Value.int IntKind.u8 (128 + (n : Int) / 16384 % 128) = bc (128 + n / 16384 % 128)) := by show _ = _; unfold bc; congr 1
        clear c
        go_wp2_with (at_builtin; refine wpList_append_byte rfl (.tmp 16) (.tmp 21) rfl base _ ys rfl (ho.keep (hb1 _)) wr.heap.size (128 + n / 16384 % 128) rfl (by rw [← hv.out]; simp [go_sem]) (by omega) ?c2 ?_)
        case c2 => have := hg.gr.size; simp; omega
        intro v' w3 ho' hg'
        have hg3 : Gw w w3 v v' := hg.trans ((Gw.below _ (hb1 _)).trans hg')
        clear hb1 hg' hg ho
        go_wp2_with fail
        go_roundw
        case rel => exact ⟨7, _, rfl, ho', hg3, by simp; omega, Or.inr (Or.inr (Or.inl ⟨rfl, by rw [hW.out, HY.out]; simp⟩))⟩
        case measure => simp [intOf]
      · have c' : ¬ (0 : Int) < (n : Int) / 16384 := by omega
        have hW : Hid (wB n = []) := if_neg c
        clear c
        go_wp2_with fail
        go_roundw
        case rel => exact ⟨7, ys, rfl, ho, hg, by omega, Or.inr (Or.inr (Or.inl ⟨rfl, by rw [hW.out, HY.out]; simp⟩))⟩
        case measure => simp [intOf]
    · clear hS
      have HY : Hid (ys = xs ++ (wA n ++ wB n)) := hys
      clear hys
      by_cases c : 0 < n / 128
      · have c' : (0 : Int) < (n : Int) / 128 := by omega
        have hb1 : ∀ os, Below wr.heap.size wr (wr.alloc os) := fun os => by go_grown
        have hW : Hid (wC n = [128 + n / 128 % 128]) := if_pos c
        have hv : Hid (Value.int IntKind.u8 (128 + (n : Int) / 128 % 128) = bc (128 + n / 128 % 128)) := by show _ = _; unfold bc; congr 1
        clear c
        go_wp2_with (at_builtin; refine wpList_append_byte rfl (.tmp 16) (.tmp 21) rfl base _ ys rfl (ho.keep (hb1 _)) wr.heap.size (128 + n / 128 % 128) rfl (by rw [← hv.out]; simp [go_sem]) (by omega) ?c2 ?_)
        case c2 => have := hg.gr.size; simp; omega
        intro v' w3 ho' hg'
        have hg3 : Gw w w3 v v' := hg.trans ((Gw.below _ (hb1 _)).trans hg')
        clear hb1 hg' hg ho
        go_wp2_with fail
        go_roundw
        case rel => exact ⟨0, _, rfl, ho', hg3, by simp; omega, Or.inr (Or.inr (Or.inr ⟨rfl, by rw [hW.out, HY.out]; simp⟩))⟩
        case measure => simp [intOf]
      · have c' : ¬ (0 : Int) < (n : Int) / 128 := by omega
        have hW : Hid (wC n = []) := if_neg c
        clear c
        go_wp2_with fail
        go_roundw
        case rel => exact ⟨0, ys, rfl, ho, hg, by omega, Or.inr (Or.inr (Or.inr ⟨rfl, by rw [hW.out, HY.out]; simp⟩))⟩
        case measure => simp [intOf]
    · clear hS
      have HY : Hid (ys ++ [n % 128] = xs ++ M.wt n) := by show _ = _; rw [hys, wt_parts]; simp
      clear hys
      have hb1 : ∀ os, Below wr.heap.size wr (wr.alloc os) := fun os => by go_grown
      have hv : Hid (Value.int IntKind.u8 ((n : Int) % 128) = bc (n % 128)) := by show _ = _; unfold bc; congr 1
      go_wp2_with (at_builtin; refine wpList_append_byte rfl (.tmp 23) (.tmp 27) rfl base _ ys rfl (ho.keep (hb1 _)) wr.heap.size (n % 128) rfl (by rw [← hv.out]; simp [go_sem]) (by omega) ?c2 ?_)
      case c2 => have := hg.gr.size; simp; omega
      intro v' w3 ho' hg'
      have hg3 : Gw w w3 v v' := hg.trans ((Gw.below _ (hb1 _)).trans hg')
      rw [HY.out] at ho'
      clear hb1 hg' hg ho HY
      go_wp2_with fail
      go_ret
      exact ⟨_, rfl, ho', hg3⟩
end Go.Proofs.Ythfjbjcdhgajfag.Z
