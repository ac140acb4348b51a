/- An append to a row of one's own, and where the row lies behind it: in the same block, or in a new one. -/
import Derived.Test.YtaohahahhjkcdaeGreatDoorSG11
import Derived.ArgAppend
namespace Go.Proofs.YtaohahahhjkcdaeGreatDoor.F
open Go.RowKit
set_option linter.unusedVariables false

theorem wpList_append_keep {P : Program} (w : World) {ops : Array Oper} {rest : List Oper} {o : Oper} {a : Act} {Q : Exit → Act → World → Prop} (hgd : o.guard = none) (s x : Operand) (t : TypeId)
    (ho : o.op = .call { callee := .builtin .append, args := #[s, x], argTypes := #[t, t] })
    (base : Nat) (e : TypeId) (i : TypeInfo) (z : Value) (size bytes : Nat) (ht : P.underlying t = some (.slice e)) (hi : P.info? e = some i) (hz : i.zero = some z)
    (hsize : i.size = size) (hby : i.bytes = bytes) (hzs : z.cells.size = size) (hsz : 0 < size)
    (v : Value) (n : Nat) (xs : List Value) (hs : a.eval s = v) (hown : w.ownsRow base e size v n xs)
    (ad : Addr) (m c : Nat) (news : List Value) (hx : a.eval x = .slice (some ad) m c) (hl : news.length = m * size) (hnews : ∀ j u, news[j]? = some u → w.cell? (ad.add j) = some u) (h1 : ∀ u ∈ news, u.oneCell' = true)
    (h63 : n + m ≤ maxLen) (hbytes : (n + m) * bytes ≤ 140737488355328) (hbase : base ≤ w.heap.size) (hm : 0 < m)
    (h : ∀ v' w', w'.ownsRow base e size v' (n + m) (xs ++ news) → w.grownBy w' v.ownBlock → (v'.ownBlock = v.ownBlock ∨ ∃ k, v'.ownBlock = some k ∧ w.heap.size ≤ k) → wpList P ops Q rest (a.put o.dst v') w') : wpList P ops Q (o :: rest) a w := by
  have new : ∀ (v' : Value) (w' : World) (ys : List Value), w'.ownsRow w.heap.size e size v' (n + m) ys → ∃ k, v'.ownBlock = some k ∧ w.heap.size ≤ k := fun v' w' ys h' => by
    obtain ⟨g, cap, rfl, q, _⟩ := own_cells h' (by omega)
    exact ⟨g, rfl, q⟩
  have weak : ∀ (w' : World) (row : Option Nat), w.grownBy w' none → w.grownBy w' row := fun w' row hg => ⟨hg.os, hg.tape, hg.output, hg.size, fun k hk _ => hg.block k hk (by simp)⟩
  have hown' := hown
  rcases hown'.2 with ⟨rfl, rfl⟩ | ⟨g, cap, cur, rfl, hb, hg, hnc, hcm, hcs, htake⟩
  · have hxs : xs = [] := List.eq_nil_of_length_eq_zero (by rw [hown.1]; omega)
    subst hxs
    refine wpList_append_grows w hgd s x t ho e i z size bytes ht hi hz hsize hby hzs hsz none 0 0 [] hs (fun _ => ⟨rfl, rfl⟩) (by simp) (fun b hb => by simp at hb) ad m c news hx hl hnews h1 (by omega) h63 hbytes ?_
    intro v' w' r1 r2
    exact h v' w' (own_base r1 hbase) (weak w' _ r2) (.inr (new v' w' _ r1))
  · by_cases hfit : n + m ≤ cap
    · refine wpList_append_fits w hgd s x t ho base e i size ht hi hsize g n cap xs hs hown ad m c news hx hl hnews h1 hfit ?_
      intro w' r1 r2
      exact h _ w' r1 r2 (.inl rfl)
    · refine wpList_append_grows w hgd s x t ho e i z size bytes ht hi hz hsize hby hzs hsz (some ⟨g, 0, none⟩) n cap xs hs (fun e => by simp at e) hown.1 (fun b hb j u hj => ?_) ad m c news hx hl hnews h1 (by omega) h63 hbytes ?_
      · simp only [Option.some.injEq] at hb
        subst hb
        have hj' : j < n * size := by
          have := (List.getElem?_eq_some_iff.1 hj).1
          rw [hown.1] at this; exact this
        have := hown.cellAt j hj'
        rw [hj] at this
        have e1 : (⟨g, 0, none⟩ : Addr).add j = ⟨g, j, none⟩ := by
          unfold Addr.add; by_cases hj0 : j = 0 <;> simp [hj0]
        rw [e1]; exact this
      · intro v' w' r1 r2
        exact h v' w' (own_base r1 hbase) (weak w' _ r2) (.inr (new v' w' _ r1))
end Go.Proofs.YtaohahahhjkcdaeGreatDoor.F
