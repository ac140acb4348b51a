/- append(one's own floats, x...); numbers of one's own as a list. -/
import Derived.Test.YtjfmpgfpehnnjaiVoMath5
namespace Go.Proofs.Ytjfmpgfpehnnjai.Vo
open Go.RowKit Go.Maps
set_option linter.unusedSimpArgs false
set_option linter.unusedVariables false

def fls' (l : List Nat) : List Value := l.map fun x => .float .f64 x
theorem rcat_get (r : Rw) (i : Nat) (h : i < r.m) : (fls' (rcat r))[i]? = some (.float .f64 (r.f i)) := by
  unfold fls' rcat; simp [h]
theorem rcat_len (r : Rw) : (fls' (rcat r)).length = r.m := by unfold fls' rcat; simp
theorem wpList_append_fs {w : World} {ops : Array Oper} {rest : List Oper} {o : Oper} {a : Act} {Q : Exit → Act → World → Prop} (hgd : o.guard = none) (s y : Operand)
    (ho : o.op = .call { callee := .builtin .append, args := #[s, y], argTypes := #[34, 34] })
    (base : Nat) (v : Value) (n : Nat) (xs : List Value) (hs : a.eval s = v) (hown : w.ownsRow base 23 1 v n xs)
    (r : Rw) (S' : Nat → Prop) (xa : Option Addr) (xc : Nat) (hx : a.eval y = .slice xa r.m xc) (hf : FSl w S' (.slice xa r.m xc) r.m r.f)
    (h63 : n + r.m ≤ 4194304) (hbase : base ≤ w.heap.size)
    (h : ∀ v' w', w'.ownsRow base 23 1 v' (n + r.m) (xs ++ fls' (rcat r)) → Gw w w' v v' → wpList Try.prog ops Q rest (a.put o.dst v') w') :
    wpList Try.prog ops Q (o :: rest) a w := by
  obtain ⟨i, hi, hz, hz1, hz2⟩ := info_parts infoF
  obtain ⟨ao, c, e1, e2, e3, e4⟩ := hf.ex
  have e5 := hf.nl
  cases e1
  cases xa with
  | none =>
    have hm : r.m = 0 := by
      refine Decidable.byContradiction fun g => ?_
      obtain ⟨nb, of, k1, _⟩ := e4 (by omega)
      cases k1
    have hc := e5 _ _ rfl
    have hx2 : a.eval y = .slice none 0 0 := by rw [hx, hm, hc]
    have hnil : fls' (rcat r) = [] := List.eq_nil_of_length_eq_zero (by rw [rcat_len, hm])
    refine wpList_append_own_none hgd s y 34 ho base 23 i 1 Try.underlying34 hi v n xs hs hown hx2 (h v w ?_ ⟨⟨rfl, rfl, rfl, Nat.le_refl _, fun _ _ _ => rfl⟩, Or.inl rfl⟩)
    rw [hm, hnil, List.append_nil]; exact hown
  | some ad =>
    refine wpList_append_own_at w hgd s y 34 ho base 23 i (.float .f64 0) 1 8 Try.underlying34 hi hz hz1 hz2 rfl (by omega) v n xs hs hown ad r.m xc (fls' (rcat r)) hx (by rw [rcat_len]; omega) ?_ ?_ (by unfold maxLen; omega) (by omega) hbase (fun v' w' k1 k2 _ k4 => h v' w' k1 ⟨k2, k4.imp id (fun e => ⟨_, e, Nat.le_refl _⟩)⟩)
    · intro j u hj
      have hjm : j < r.m := by have := (List.getElem?_eq_some_iff.1 hj).1; rw [rcat_len] at this; exact this
      obtain ⟨nb, of, k1, _, k3⟩ := e4 (by omega)
      cases k1
      rw [rcat_get r j hjm] at hj
      cases hj
      have e6 : (⟨nb, of, none⟩ : Addr).add j = ⟨nb, of + j, none⟩ := by simp [Addr.add]
      rw [e6]; exact k3 j hjm
    · intro u hu
      unfold fls' at hu
      obtain ⟨x, _, rfl⟩ := List.mem_map.1 hu
      rfl
theorem own_NL {w : World} {base : Nat} {v : Value} {l : List Int} (h : w.ownsRow base 3 1 v l.length (l.map fun x => .int .i64 x)) (hl : ∀ x ∈ l, -9223372036854775808 ≤ x ∧ x ≤ 9223372036854775807) : ∃ ao c, v = .slice ao l.length c ∧ l.length ≤ c ∧ c ≤ 9223372036854775807 ∧ NL w ao l := by
  rcases h.2 with ⟨e1, e2⟩ | ⟨g, cap, cur, e1, e2, e3, e4, hm, rest⟩
  · exact ⟨none, 0, by rw [e1, e2], by omega, by omega, ⟨fun hn => by omega⟩⟩
  · refine ⟨some ⟨g, 0, none⟩, cap, e1, e4, by unfold maxLen at hm; omega, ⟨fun hn => ⟨g, 0, rfl, (Array.getElem?_eq_some_iff.1 e3).1, fun j x hj => ⟨?_, hl x (List.mem_of_getElem? hj)⟩⟩⟩⟩
    subst e1
    have hjl : j < l.length := (List.getElem?_eq_some_iff.1 hj).1
    rw [Nat.zero_add, World.ownsRow.cellAt h j (by omega), List.getElem?_map, hj]; rfl
theorem infoI : (Try.prog.info? 3).map (fun i => (i.zero, i.size, i.bytes)) = some (some (.int .i64 0), 1, 8) := by kernel_rfl
end Go.Proofs.Ytjfmpgfpehnnjai.Vo
