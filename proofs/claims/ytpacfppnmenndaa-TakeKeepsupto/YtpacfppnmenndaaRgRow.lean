/- Whole numbers in memory, and rows of one's own (for rings). -/
import Derived.Test.YtpacfppnmenndaaProg
import Derived.WalkKit
import Derived.Handy
import Derived.RegionTactic
import Derived.ChangeAlike
import Derived.Below
import Derived.Outline
import Derived.Deep.QuietTactic
import Derived.BigQuiet
import Derived.WalkSmall
import Derived.LoopTactic
import Derived.WalkLawsBesides
import Derived.Laws.Externs
import Derived.Deep.RegionHeld3
import Derived.Lib.QuietBelow
import Derived.Deep.OwnRows
import Derived.Laws.MakeOwn
import Derived.Maps.AppendAt
import Derived.OneCell
import Derived.Laws.AppendOwnNone
namespace Go.Proofs.Ytpacfppnmenndaa.Rg
open Go.RowKit Go.Maps Go.Sort
set_option linter.unusedVariables false
set_option linter.unusedSimpArgs false

theorem keepC {n : Nat} {w w' : World} {a : Addr} {v : Value} (h : Below n w w') (hlt : a.block < n) (hc : w.cell? a = some v) : w'.cell? a = some v := by rw [h.cell hlt]; exact hc
theorem wid {x : Int} (h1 : -9223372036854775808 ≤ x) (h2 : x ≤ 9223372036854775807) : IntKind.i64.wrap x = x := by
  rw [IntKind.wrap_i64]; omega
theorem own_block {w : World} {base : Nat} {e : TypeId} {size : Nat} {v : Value} {n : Nat} {xs : List Value} (h : w.ownsRow base e size v n xs) : ∀ k, v.ownBlock = some k → base ≤ k := by
  intro k hk
  rcases h.2 with ⟨rfl, _⟩ | ⟨g, cap, cur, rfl, h1, h2, rest⟩
  · simp [Value.ownBlock] at hk
  · simp [Value.ownBlock] at hk; omega
theorem own_lt {w : World} {base : Nat} {e : TypeId} {size : Nat} {v : Value} {n : Nat} {xs : List Value} (h : w.ownsRow base e size v n xs) : ∀ k, v.ownBlock = some k → k < w.heap.size := by
  intro k hk
  rcases h.2 with ⟨rfl, _⟩ | ⟨g, cap, cur, rfl, h1, h2, rest⟩
  · simp [Value.ownBlock] at hk
  · simp [Value.ownBlock] at hk; subst hk; exact (Array.getElem?_eq_some_iff.1 h2).1
theorem own_step {w w' : World} {base : Nat} {e : TypeId} {size : Nat} {v : Value} {n : Nat} {xs : List Value} (h : w.ownsRow base e size v n xs) (hb : ∀ k, v.ownBlock = some k → w'.heap[k]? = w.heap[k]?) : w'.ownsRow base e size v n xs := by
  refine ⟨h.1, ?_⟩
  rcases h.2 with hn | ⟨g, cap, cur, rfl, h1, h2, rest⟩
  · exact .inl hn
  · refine .inr ⟨g, cap, cur, rfl, h1, ?_, rest⟩
    rw [hb g rfl]; exact h2
/-- What an append keeps: all but the row's own block. -/
structure Gw (w w' : World) (v v' : Value) : Prop where
  gr : w.grownBy w' v.ownBlock
  ob : v'.ownBlock = v.ownBlock ∨ ∃ k, v'.ownBlock = some k ∧ w.heap.size ≤ k
theorem Gw.trans {w w1 w2 : World} {v v1 v2 : Value} (h : Gw w w1 v v1) (h2 : Gw w1 w2 v1 v2) : Gw w w2 v v2 := by
  have z := h.gr.size
  refine ⟨⟨h2.gr.os.trans h.gr.os, h2.gr.tape.trans h.gr.tape, h2.gr.output.trans h.gr.output, Nat.le_trans z h2.gr.size, fun k hk hne => ?_⟩, ?_⟩
  · refine (h2.gr.block k (by omega) ?_).trans (h.gr.block k hk hne)
    rcases h.ob with e | ⟨j, e, hj⟩
    · rw [e]; exact hne
    · rw [e]; intro q; cases q; omega
  · rcases h2.ob with e | ⟨j, e, hj⟩
    · rw [e]; exact h.ob
    · exact Or.inr ⟨j, e, by omega⟩
theorem Gw.below {w w' : World} (v : Value) (hb : Below w.heap.size w w') : Gw w w' v v :=
  ⟨⟨hb.os, hb.tape, hb.output, hb.size, fun k hk _ => hb.block k hk⟩, Or.inl rfl⟩
theorem Gw.bel {w w' : World} {v v' : Value} {B : Nat} (h : Gw w w' v v') (hB : B ≤ w.heap.size) (hr : ∀ k, v.ownBlock = some k → B ≤ k) : Below B w w' :=
  (Below.refl B w).grown h.gr hB hr
theorem Gw.cell {w w' : World} {v v' : Value} (h : Gw w w' v v') {b o : Nat} {u : Value} (hlt : b < w.heap.size) (hne : some b ≠ v.ownBlock) (hc : w.cell? ⟨b, o, none⟩ = some u) : w'.cell? ⟨b, o, none⟩ = some u :=
  (World.cell?_of_block (w := w) (w' := w') (a := ⟨b, o, none⟩) (h.gr.block b hlt hne)).trans hc
theorem Gw.froz {w w' : World} {v v' : Value} (h : Gw w w' v v') {b o : Nat} {u : Bool} (hlt : b < w.heap.size) (hne : some b ≠ v.ownBlock) (hc : w.frozen? ⟨b, o, none⟩ = u) : w'.frozen? ⟨b, o, none⟩ = u :=
  (World.frozen?_of_block (w := w) (w' := w') (a := ⟨b, o, none⟩) (h.gr.block b hlt hne)).trans hc
theorem own_form {w : World} {base : Nat} {e : TypeId} {size : Nat} {v : Value} {n : Nat} {xs : List Value} (h : w.ownsRow base e size v n xs) : ∃ ao c, v = .slice ao n c ∧ n ≤ c ∧ c ≤ 9223372036854775807 := by
  rcases h.2 with ⟨h1, h2⟩ | ⟨g, cap, cur, h1, h2, h3, h4, hm, rest⟩
  · subst h2; exact ⟨none, 0, h1, by omega, by omega⟩
  · exact ⟨_, cap, h1, h4, by unfold maxLen at hm; omega⟩
/-- append(s, x) where s is one's own row of elements of one cell. -/
theorem wpList_append_1 (t e : TypeId) (z : Value) (by' : Nat) (hu : Try.prog.underlying t = some (.slice e)) (hinf : (Try.prog.info? e).map (fun i => (i.zero, i.size, i.bytes)) = some (some z, 1, by')) (hzc : z.cells.size = 1)
    {w : World} {ops : Array Oper} {rest : List Oper} {o : Oper} {a : Act} {Q : Exit → Act → World → Prop} (hgd : o.guard = none) (s y : Operand)
    (ho : o.op = .call { callee := .builtin .append, args := #[s, y], argTypes := #[t, t] })
    (base : Nat) (v : Value) (n : Nat) (xs : List Value) (hs : a.eval s = v) (hown : w.ownsRow base e 1 v n xs)
    (g : Nat) (x : Value) (hx : a.eval y = .slice (some ⟨g, 0, none⟩) 1 1) (hc : w.cell? ⟨g, 0, none⟩ = some x) (hx1 : x.oneCell' = true)
    (h63 : n < 17592186044416) (hbb : (n + 1) * by' ≤ 140737488355328) (hbase : base ≤ w.heap.size)
    (h : ∀ v' w', w'.ownsRow base e 1 v' (n + 1) (xs ++ [x]) → Gw w w' v v' → wpList Try.prog ops Q rest (a.put o.dst v') w') :
    wpList Try.prog ops Q (o :: rest) a w := by
  obtain ⟨i, hi, hz, hz1, hz2⟩ := info_parts hinf
  refine wpList_append_own_at w hgd s y t ho base e i z 1 by' hu hi hz hz1 hz2 hzc (by omega) v n xs hs hown ⟨g, 0, none⟩ 1 1 [x] hx rfl ?_ ?_ (by unfold maxLen; omega) hbb hbase (fun v' w' k1 k2 _ k4 => h v' w' k1 ⟨k2, k4.imp id (fun e => ⟨_, e, Nat.le_refl _⟩)⟩)
  · intro j u hj
    match j, hj with
    | 0, hj => simp at hj; subst hj; simpa [Addr.add] using hc
  · intro u hu; simp at hu; subst hu; exact hx1

theorem infoI : (Try.prog.info? 3).map (fun i => (i.zero, i.size, i.bytes)) = some (some (.int .i64 0), 1, 8) := by kernel_rfl
def ints (l : List Int) : List Value := l.map (.int .i64)
theorem ints_len (l : List Int) : (ints l).length = l.length := List.length_map _
/-- Whole numbers in memory, in a block of S. -/
structure IL (w : World) (S : Nat → Prop) (ao : Option Addr) (l : List Int) : Prop where
  at' : 0 < l.length → ∃ b off, ao = some ⟨b, off, none⟩ ∧ b < w.heap.size ∧ S b ∧ ∀ (j : Nat) x, l[j]? = some x → w.cell? ⟨b, off + j, none⟩ = some (.int .i64 x)
theorem IL.keep {w w' : World} {S S' : Nat → Prop} {ao : Option Addr} {l : List Int} (h : IL w S ao l) (hk : ∀ b, S b → b < w.heap.size → w'.heap[b]? = w.heap[b]?) (hz : w.heap.size ≤ w'.heap.size) (hs : ∀ b, S b → b < w.heap.size → S' b) : IL w' S' ao l := ⟨fun hn => by
  obtain ⟨b, off, h1, h2, h3, h4⟩ := h.at' hn
  exact ⟨b, off, h1, by omega, hs b h3 h2, fun j x hj => (World.cell?_of_block (w := w) (w' := w') (a := ⟨b, off + j, none⟩) (hk b h3 h2)).trans (h4 j x hj)⟩⟩
theorem IL.bel {w w' : World} {S : Nat → Prop} {ao : Option Addr} {l : List Int} (h : IL w S ao l) (hb : Below w.heap.size w w') : IL w' S ao l := h.keep (fun b _ hl => hb.block b hl) hb.size (fun _ h _ => h)
theorem IL.nil (w : World) (S : Nat → Prop) (ao : Option Addr) : IL w S ao [] := ⟨fun h => absurd h (by simp)⟩
/-- A row of one's own is whole numbers in memory. -/
theorem IL.own {w : World} {base : Nat} {v : Value} {n : Nat} {l : List Int} (h : w.ownsRow base 3 1 v n (ints l)) (hl : l.length = n) : ∃ ao c, v = .slice ao n c ∧ n ≤ c ∧ c ≤ 9223372036854775807 ∧ (ao = none → c = 0) ∧ IL w (fun b => some b = v.ownBlock) ao l := by
  rcases h.2 with ⟨e1, e2⟩ | ⟨q, cap, cur, e1, e2, e3, e4, hm, rest⟩
  · exact ⟨none, 0, by rw [e1, e2], by omega, by omega, fun _ => rfl, ⟨fun hn => by omega⟩⟩
  · refine ⟨some ⟨q, 0, none⟩, cap, e1, e4, by unfold maxLen at hm; omega, (fun q => by cases q), ⟨fun hn => ⟨q, 0, rfl, (Array.getElem?_eq_some_iff.1 e3).1, by rw [e1]; rfl, fun j x hj => ?_⟩⟩⟩
    subst e1
    have hjl : j < l.length := (List.getElem?_eq_some_iff.1 hj).1
    rw [Nat.zero_add, World.ownsRow.cellAt h j (by omega)]
    unfold ints; rw [List.getElem?_map, hj]; rfl
/-- Blocks from base on that are not the row's own. -/
def Sc (base : Nat) (w : World) (v : Value) (b : Nat) : Prop := base ≤ b ∧ b < w.heap.size ∧ some b ≠ v.ownBlock
theorem getD_snoc (g : List Int) (y : Int) (i : Nat) : (g ++ [y]).getD i 0 = if i = g.length then y else g.getD i 0 := by
  simp only [List.getD_eq_getElem?_getD]
  by_cases c : i < g.length
  · rw [List.getElem?_append_left c, if_neg (by omega)]
  · rw [List.getElem?_append_right (by omega)]
    by_cases d : i = g.length
    · subst d; simp
    · rw [if_neg d, List.getElem?_eq_none (by simp; omega), List.getElem?_eq_none (by omega)]
/-- Whole numbers in a block of their own. -/
def FR (w : World) (nb n : Nat) (f : Nat → Int) : Prop := w.rowIs nb 3 n (fun i => .int .i64 (f i))
theorem FR.il {w : World} {nb n : Nat} {f : Nat → Int} {l : List Int} (h : FR w nb n f) (hl : l.length = n) (he : ∀ i, i < n → f i = l.getD i 0) (hlt : nb < w.heap.size) (S : Nat → Prop) (hS : S nb) : IL w S (some ⟨nb, 0, none⟩) l := ⟨fun hn => ⟨nb, 0, rfl, hlt, hS, fun j x hj => by
  have hjl : j < l.length := (List.getElem?_eq_some_iff.1 hj).1
  rw [Nat.zero_add, World.rowIs.cell h (by omega)]
  show some (Value.int .i64 (f j)) = _
  rw [he j (by omega), List.getD_eq_getElem?_getD, hj]; rfl⟩⟩
theorem wpList_append_il {w : World} {ops : Array Oper} {rest : List Oper} {o : Oper} {a : Act} {Q : Exit → Act → World → Prop} (hgd : o.guard = none) (s y : Operand)
    (ho : o.op = .call { callee := .builtin .append, args := #[s, y], argTypes := #[103, 103] })
    (base : Nat) (v : Value) (n : Nat) (xs : List Value) (hs : a.eval s = v) (hown : w.ownsRow base 3 1 v n xs)
    (S' : Nat → Prop) (r : List Int) (rm : Nat) (hrm : r.length = rm) (xa : Option Addr) (xc : Nat) (hx : a.eval y = .slice xa rm xc) (hc1 : rm ≤ xc) (hcn : xa = none → xc = 0) (hf : IL w S' xa r)
    (h63 : n + rm ≤ 17592186044416) (hbase : base ≤ w.heap.size)
    (h : ∀ v' w', w'.ownsRow base 3 1 v' (n + rm) (xs ++ ints r) → Gw w w' v v' → wpList Try.prog ops Q rest (a.put o.dst v') w') :
    wpList Try.prog ops Q (o :: rest) a w := by
  obtain ⟨i, hi, hz, hz1, hz2⟩ := info_parts infoI
  have fl : (ints r).length = rm := by unfold ints; rw [List.length_map, hrm]
  cases xa with
  | none =>
    have hc := hcn rfl
    have hm : rm = 0 := by omega
    have hx2 : a.eval y = .slice none 0 0 := by rw [hx, hm, hc]
    have hnil : ints r = [] := List.eq_nil_of_length_eq_zero (by rw [fl, hm])
    refine wpList_append_own_none hgd s y 103 ho base 3 i 1 Try.underlying103 hi v n xs hs hown hx2 (h v w ?_ ⟨⟨rfl, rfl, rfl, Nat.le_refl _, fun _ _ _ => rfl⟩, Or.inl rfl⟩)
    rw [hm, hnil, List.append_nil]; exact hown
  | some ad =>
    refine wpList_append_own_at w hgd s y 103 ho base 3 i (.int .i64 0) 1 8 Try.underlying103 hi hz hz1 hz2 rfl (by omega) v n xs hs hown ad rm xc (ints r) hx (by rw [fl]; omega) ?_ ?_ (by unfold maxLen; omega) (by omega) hbase (fun v' w' k1 k2 _ k4 => h v' w' k1 ⟨k2, k4.imp id (fun e => ⟨_, e, Nat.le_refl _⟩)⟩)
    · intro j u hj
      have hjm : j < r.length := by have := (List.getElem?_eq_some_iff.1 hj).1; rw [fl] at this; omega
      obtain ⟨nb, of, k1, _, _, k3⟩ := hf.at' (by omega)
      cases k1
      have hr : r[j]? = some (r[j]'hjm) := List.getElem?_eq_getElem hjm
      unfold ints at hj
      rw [List.getElem?_map, hr] at hj
      cases hj
      have e6 : (⟨nb, of, none⟩ : Addr).add j = ⟨nb, of + j, none⟩ := by unfold Addr.add; by_cases h : j = 0 <;> simp [h]
      rw [e6]; exact k3 j _ hr
    · intro u hu
      unfold ints at hu
      obtain ⟨x, _, rfl⟩ := List.mem_map.1 hu
      rfl
theorem add_zero' (a : Addr) : a.add 0 = a := by unfold Addr.add; simp
theorem map_add0 (la : Option Addr) : la.map (fun x => x.add 0) = la := by cases la with
  | none => rfl
  | some a => show some (a.add 0) = some a; rw [add_zero']
/-- Where a slice stands from place n on. -/
def frm (la : Option Addr) (n c : Nat) : Option Addr := if c = n then la else la.map (fun x => x.add n)
theorem sizeF (w : World) : (Go.sizeOf 3).run Try.prog w = .ok 1 w := by
  simp [Go.sizeOf]
  kernel_rfl
theorem run_to (la : Option Addr) (m c n : Nat) (h1 : n ≤ c) (w : World) : (Instr.slice 103 (.slice la m c) none (some (.int .i64 (n : Int))) (some (.int .i64 (n : Int)))).run Try.prog w = .ok (.slice la n n) w := by
  have hu : Try.prog.underlying 103 = some (.slice 3) := Try.underlying103
  unfold Instr.slice
  simp [run_underlying hu, Instr.sliceBounds, run_sliceBound, h1, sizeF]
  intro _
  exact map_add0 la
theorem run_from (la : Option Addr) (m c n : Nat) (h1 : n ≤ m) (w : World) : (Instr.slice 103 (.slice la m c) (some (.int .i64 (n : Int))) none none).run Try.prog w = .ok (.slice (frm la n c) (m - n) (c - n)) w := by
  have hu : Try.prog.underlying 103 = some (.slice 3) := Try.underlying103
  unfold Instr.slice frm
  simp [run_underlying hu, Instr.sliceBounds, run_sliceBound, h1, sizeF]
theorem frm_none {la : Option Addr} {n c : Nat} (h : la = none → c = 0) (h2 : frm la n c = none) : c - n = 0 := by
  unfold frm at h2
  by_cases e : c = n
  · omega
  · rw [if_neg e] at h2
    cases la with
    | none => have := h rfl; omega
    | some a => cases h2
theorem IL.take {w : World} {S : Nat → Prop} {la : Option Addr} {l : List Int} (h : IL w S la l) (n : Nat) : IL w S la (l.take n) := ⟨fun hn => by
  obtain ⟨b, off, h1, h2, h3, h4⟩ := h.at' (by rw [List.length_take] at hn; omega)
  refine ⟨b, off, h1, h2, h3, fun j x hj => h4 j x ?_⟩
  have hjn : j < n := by have := (List.getElem?_eq_some_iff.1 hj).1; rw [List.length_take] at this; omega
  rw [List.getElem?_take_of_lt hjn] at hj; exact hj⟩
theorem IL.drop {w : World} {S : Nat → Prop} {la : Option Addr} {l : List Int} (h : IL w S la l) (n c : Nat) (hc : l.length ≤ c) : IL w S (frm la n c) (l.drop n) := ⟨fun hn => by
  rw [List.length_drop] at hn
  obtain ⟨b, off, h1, h2, h3, h4⟩ := h.at' (by omega)
  refine ⟨b, off + n, ?_, h2, h3, fun j x hj => ?_⟩
  · unfold frm
    rw [if_neg (by omega), h1]
    show some ((⟨b, off, none⟩ : Addr).add n) = _
    unfold Addr.add
    by_cases e : n = 0 <;> simp [e]
  · rw [List.getElem?_drop] at hj
    have := h4 (n + j) x hj
    rw [Nat.add_assoc]; exact this⟩
end Go.Proofs.Ytpacfppnmenndaa.Rg
