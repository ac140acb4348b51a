/- Events in a row of one's own; what an append keeps; what the document's Same comes to at events that are the same. -/
import Derived.Test.YtaohahahhjkcdahZ1
import Derived.Maps.AppendAt
import Derived.OneCell
import Derived.Laws.AppendOwnNone
namespace Go.Proofs.Ytaohahahhjkcdah.Z
open Go.RowKit Go.Maps
set_option linter.unusedVariables false
set_option linter.unusedSimpArgs false

theorem own_block {w : World} {base : Nat} {e : TypeId} {size : Nat} {v : Value} {n : Nat} {xs : List Value} (h : w.ownsRow base e size v n xs) : ∀ k, v.ownBlock = some k → base ≤ k := by
  intro k hk
  rcases h.2 with ⟨rfl, _⟩ | ⟨g, cap, cur, rfl, h1, h2, rest⟩
  · simp [Value.ownBlock] at hk
  · simp [Value.ownBlock] at hk; omega
theorem own_lt {w : World} {base : Nat} {e : TypeId} {size : Nat} {v : Value} {n : Nat} {xs : List Value} (h : w.ownsRow base e size v n xs) : ∀ k, v.ownBlock = some k → k < w.heap.size := by
  intro k hk
  rcases h.2 with ⟨rfl, _⟩ | ⟨g, cap, cur, rfl, h1, h2, rest⟩
  · simp [Value.ownBlock] at hk
  · simp [Value.ownBlock] at hk; subst hk; exact (Array.getElem?_eq_some_iff.1 h2).1
theorem own_step {w w' : World} {base : Nat} {e : TypeId} {size : Nat} {v : Value} {n : Nat} {xs : List Value} (h : w.ownsRow base e size v n xs) (hb : ∀ k, v.ownBlock = some k → w'.heap[k]? = w.heap[k]?) : w'.ownsRow base e size v n xs := by
  refine ⟨h.1, ?_⟩
  rcases h.2 with hn | ⟨g, cap, cur, rfl, h1, h2, rest⟩
  · exact .inl hn
  · refine .inr ⟨g, cap, cur, rfl, h1, ?_, rest⟩
    rw [hb g rfl]; exact h2
/-- What an append keeps: all but the row's own block. -/
structure Gw (w w' : World) (v v' : Value) : Prop where
  gr : w.grownBy w' v.ownBlock
  ob : v'.ownBlock = v.ownBlock ∨ ∃ k, v'.ownBlock = some k ∧ w.heap.size ≤ k
theorem Gw.trans {w w1 w2 : World} {v v1 v2 : Value} (h : Gw w w1 v v1) (h2 : Gw w1 w2 v1 v2) : Gw w w2 v v2 := by
  have z := h.gr.size
  refine ⟨⟨h2.gr.os.trans h.gr.os, h2.gr.tape.trans h.gr.tape, h2.gr.output.trans h.gr.output, Nat.le_trans z h2.gr.size, fun k hk hne => ?_⟩, ?_⟩
  · refine (h2.gr.block k (by omega) ?_).trans (h.gr.block k hk hne)
    rcases h.ob with e | ⟨j, e, hj⟩
    · rw [e]; exact hne
    · rw [e]; intro q; cases q; omega
  · rcases h2.ob with e | ⟨j, e, hj⟩
    · rw [e]; exact h.ob
    · exact Or.inr ⟨j, e, by omega⟩
theorem Gw.below {w w' : World} (v : Value) (hb : Below w.heap.size w w') : Gw w w' v v :=
  ⟨⟨hb.os, hb.tape, hb.output, hb.size, fun k hk _ => hb.block k hk⟩, Or.inl rfl⟩
theorem Gw.bel {w w' : World} {v v' : Value} {B : Nat} (h : Gw w w' v v') (hB : B ≤ w.heap.size) (hr : ∀ k, v.ownBlock = some k → B ≤ k) : Below B w w' :=
  (Below.refl B w).grown h.gr hB hr
theorem Gw.cell {w w' : World} {v v' : Value} (h : Gw w w' v v') {b o : Nat} {u : Value} (hlt : b < w.heap.size) (hne : some b ≠ v.ownBlock) (hc : w.cell? ⟨b, o, none⟩ = some u) : w'.cell? ⟨b, o, none⟩ = some u :=
  (World.cell?_of_block (w := w) (w' := w') (a := ⟨b, o, none⟩) (h.gr.block b hlt hne)).trans hc
theorem Gw.froz {w w' : World} {v v' : Value} (h : Gw w w' v v') {b o : Nat} {u : Bool} (hlt : b < w.heap.size) (hne : some b ≠ v.ownBlock) (hc : w.frozen? ⟨b, o, none⟩ = u) : w'.frozen? ⟨b, o, none⟩ = u :=
  (World.frozen?_of_block (w := w) (w' := w') (a := ⟨b, o, none⟩) (h.gr.block b hlt hne)).trans hc
theorem gz {w w' : World} {v v' : Value} (h : Gw w w' v v') : w.heap.size ≤ w'.heap.size := h.gr.size
/-- An event's cells, as a list. -/
def ec (e : M.Ev) : List Value := [.int .i64 e.t, .int .i64 e.k, .int .i64 e.c, .int .i64 e.a, .int .i64 e.b]
theorem ec_len (l : List M.Ev) : (l.flatMap ec).length = l.length * 5 := by
  induction l with
  | nil => rfl
  | cons e t ih => rw [List.flatMap_cons, List.length_append, ih, List.length_cons]; show 5 + _ = _; omega
theorem ec_get {l : List M.Ev} {j : Nat} {e : M.Ev} (h : l[j]? = some e) (i : Nat) (hi : i < 5) : (l.flatMap ec)[j * 5 + i]? = (ec e)[i]? := by
  induction l generalizing j with
  | nil => simp at h
  | cons x t ih =>
    rw [List.flatMap_cons]
    cases j with
    | zero =>
      simp at h
      subst h
      rw [List.getElem?_append_left (by show _ < 5; omega)]
      congr 1; omega
    | succ j =>
      rw [List.getElem?_append_right (by show 5 ≤ _; omega)]
      rw [← ih (by simpa using h)]
      congr 1
      show (j + 1) * 5 + i - 5 = _
      omega
/-- v is a row of one's own that holds these events. -/
def OE (w : World) (base : Nat) (v : Value) (l : List M.Ev) : Prop := w.ownsRow base 61 5 v l.length (l.flatMap ec)
theorem OE.keep {w w' : World} {base : Nat} {v : Value} {l : List M.Ev} (h : OE w base v l) (hb : ∀ k, v.ownBlock = some k → w'.heap[k]? = w.heap[k]?) : OE w' base v l := own_step h hb
theorem OE.bel {w w' : World} {base : Nat} {v : Value} {l : List M.Ev} (h : OE w base v l) (hb : Below w.heap.size w w') : OE w' base v l :=
  h.keep (fun k hk => hb.block k (own_lt h k hk))
theorem OE.nil (w : World) (base : Nat) : OE w base (.slice none 0 0) [] := World.ownsRow_nil _ _ _ _
theorem OE.le {w : World} {base : Nat} {v : Value} {l : List M.Ev} (h : OE w base v l) : ∃ ao c, v = .slice ao l.length c ∧ l.length ≤ c ∧ c ≤ 9223372036854775807 ∧ LE w ao l := by
  unfold OE at h
  rcases h.2 with ⟨h1, h2⟩ | ⟨g, cap, cur, h1, h2, h3, h4, hm, rest⟩
  · have hl : l = [] := List.length_eq_zero_iff.1 h2
    subst hl
    exact ⟨none, 0, h1, by simp, by omega, ⟨fun h => by simp at h⟩⟩
  · refine ⟨some ⟨g, 0, none⟩, cap, h1, h4, by unfold maxLen at hm; omega, ⟨fun hn => ⟨g, 0, rfl, (Array.getElem?_eq_some_iff.1 h3).1, fun j e hj => ?_⟩⟩⟩
    subst h1
    have hjl : j < l.length := (List.getElem?_eq_some_iff.1 hj).1
    have hc := fun i (hi : i < 5) => (World.ownsRow.cellAt h (j * 5 + i) (by omega)).trans (ec_get hj i hi)
    rw [Nat.zero_add]
    exact ⟨hc 0 (by omega), hc 1 (by omega), hc 2 (by omega), hc 3 (by omega), hc 4 (by omega)⟩
theorem infoE : (Try.prog.info? 61).map (fun i => (i.zero, i.size, i.bytes)) = some (some (ea M.z0), 5, 40) := by kernel_rfl
/-- append(s, e) where s is one's own row of events. -/
theorem wpList_append_ev {w : World} {ops : Array Oper} {rest : List Oper} {o : Oper} {a : Act} {Q : Exit → Act → World → Prop} (hgd : o.guard = none) (s y : Operand)
    (ho : o.op = .call { callee := .builtin .append, args := #[s, y], argTypes := #[32, 32] })
    (base : Nat) (v : Value) (l : List M.Ev) (hs : a.eval s = v) (hown : OE w base v l)
    (g : Nat) (x : M.Ev) (hx : a.eval y = .slice (some ⟨g, 0, none⟩) 1 1) (hc : E5 w g 0 x)
    (h63 : l.length ≤ 1000000) (hbase : base ≤ w.heap.size)
    (h : ∀ v' w', OE w' base v' (l ++ [x]) → Gw w w' v v' → wpList Try.prog ops Q rest (a.put o.dst v') w') :
    wpList Try.prog ops Q (o :: rest) a w := by
  obtain ⟨i, hi, hz, hz1, hz2⟩ := info_parts infoE
  refine wpList_append_own_at w hgd s y 32 ho base 61 i (ea M.z0) 5 40 Try.underlying32 hi hz hz1 hz2 rfl (by omega) v l.length (l.flatMap ec) hs hown ⟨g, 0, none⟩ 1 1 (ec x) hx rfl ?_ ?_ (by unfold maxLen; omega) (by omega) hbase (fun v' w' k1 k2 _ k4 => h v' w' ?_ ?_)
  · obtain ⟨c0, c1, c2, c3, c4⟩ := hc
    rw [Nat.zero_add] at c1 c2 c3 c4
    intro j u hj
    match j, hj with
    | 0, hj => simp [ec] at hj; subst hj; simpa [Addr.add] using c0
    | 1, hj => simp [ec] at hj; subst hj; simpa [Addr.add] using c1
    | 2, hj => simp [ec] at hj; subst hj; simpa [Addr.add] using c2
    | 3, hj => simp [ec] at hj; subst hj; simpa [Addr.add] using c3
    | 4, hj => simp [ec] at hj; subst hj; simpa [Addr.add] using c4
    | j + 5, hj => simp [ec] at hj
  · intro u hu; simp [ec] at hu; rcases hu with rfl | rfl | rfl | rfl | rfl <;> rfl
  · unfold OE; simpa using k1
  · exact ⟨k2, k4.imp id (fun e => ⟨_, e, Nat.le_refl _⟩)⟩
set_option maxRecDepth 20000 in
set_option maxHeartbeats 4000000 in
theorem Same_yes (l : List M.Ev) (ao bo : Option Addr) (c d : Nat) (w : World) (hp : LE w ao l) (hc : l.length ≤ c) (hcm : c ≤ 9223372036854775807) (hq : LE w bo l) (hd : l.length ≤ d) (hdm : d ≤ 9223372036854775807) :
    Calls Try.prog 11 #[.slice ao l.length c, .slice bo l.length d] w fun e w' => e = .returned (.bool true) ∧ Below w.heap.size w w' := by
  go_enter Try.func11, Try.ntmps11
  go_wp2_with fail
  go_loopw [13] (fun i wr => ∃ (k : Nat), k ≤ l.length ∧ i = .int .i64 k ∧ Below w.heap.size w wr) (fun i _ => l.length - (intOf i).toNat)
  case atStart => exact ⟨0, by omega, rfl, Below.refl _ _⟩
  case round =>
    obtain ⟨k, hkn, rfl, hbr⟩ := hrel
    by_cases hlt : k < l.length
    · have hlt' : (k : Int) < l.length := by omega
      obtain ⟨b, off, rfl, hbl, q0⟩ := (hp.step hbr).at' (by omega)
      obtain ⟨b2, off2, rfl, hbl2, p0⟩ := (hq.step hbr).at' (by omega)
      obtain ⟨e, he⟩ : ∃ e, l[k]? = some e := ⟨_, List.getElem?_eq_getElem hlt⟩
      have q := q0 k e he
      have p := p0 k e he
      have r0 := q.c0
      have r1 := q.c1
      have r2 := q.c2
      have r3 := q.c3
      have r4 := q.c4
      have s0 := p.c0
      have s1 := p.c1
      have s2 := p.c2
      have s3 := p.c3
      have s4 := p.c4
      have w3 : IntKind.i64.wrap ((k : Int) + 1) = (k : Int) + 1 := wid (by omega) (by omega)
      clear q p q0 p0 he
      obtain ⟨et, ek, ec, ea', eb'⟩ := e
      simp only at *
      go_wp2_with fail
      go_quiet (fail)
      go_wp2_with fail
      go_roundw
      case rel => exact ⟨k + 1, by omega, by go_num, hbr.trans ⟨rfl, rfl, rfl, Nat.le_refl _, fun _ _ => rfl⟩⟩
      case measure => simp [intOf]; omega
    · obtain rfl : k = l.length := by omega
      have hlt' : ¬ ((l.length : Nat) : Int) < l.length := by omega
      go_wp2_with fail
      go_ret
      exact ⟨rfl, hbr⟩
theorem M.wl_hi {ah : Int} {l : List M.Ev} (h : M.wl ah l = 0) : ∀ e ∈ l, e.t ≤ ah + 268435455 * (l.length : Int) := by
  induction l generalizing ah with
  | nil => intro e he; simp at he
  | cons x t ih =>
    obtain ⟨h1, h2⟩ := M.wl_ok.1 h
    obtain ⟨_, _, q3, q4⟩ := M.we_ok.1 h1
    intro e he
    rcases List.mem_cons.1 he with rfl | he
    · simp only [List.length_cons]; push_cast; omega
    · have := ih h2 e he
      simp only [List.length_cons]; push_cast; omega
theorem M.wr_ok {l : List M.Ev} : M.wr l = 0 ↔ l.length ≤ 4096 ∧ M.wl 0 l = 0 := by
  unfold M.wr
  split
  · exact ⟨fun h => by omega, fun h => by omega⟩
  · exact ⟨fun h => ⟨by omega, h⟩, fun h => h.2⟩
end Go.Proofs.Ytaohahahhjkcdah.Z
