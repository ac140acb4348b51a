/- The document's Find, over what its Ways answers. -/
import Derived.Test.YtmgkbnlmdhnjnaeUR7
import Derived.Test.YtmgkbnlmdhnjnaeU12
import Derived.Test.YtmgkbnlmdhnjnaeUMath10
import Derived.Laws.AppendOwnNone
namespace Go.Proofs.Ytmgkbnlmdhnjnae.U
open Go.RowKit Go.Maps Go.Sort
set_option linter.unusedVariables false
set_option linter.unusedSimpArgs false

/-- A key that breaks nothing behind a line, and from which there is a way on. -/
def M.tk (r : M.Ru) (g : Nat → Int) (n : Nat) (x : Nat → Int) (i : Nat) (k : Int) : Prop := M.br r g n (ex x i k) i = 0 ∧ 0 < M.ct r g n (n - (i + 1)) k (k == M.stk x i)
theorem M.tk_iff {r : M.Ru} {g : Nat → Int} {n : Nat} {x : Nat → Int} {i : Nat} {k : Int} : M.tk r g n x i k ↔ M.ba r g n i k = 0 ∧ M.bb r g i (M.stk x i) (M.sta x i) k = 0 ∧ 0 < M.ct r g n (n - (i + 1)) k (k == M.stk x i) := by
  have e1 : M.stk (ex x i k) i = M.stk x i := M.stk_ext (fun j hj => ex_less hj)
  have e2 : M.sta (ex x i k) i = M.sta x i := M.sta_ext (fun j hj => ex_less hj)
  unfold M.tk
  by_cases h : M.ba r g n i k = 0
  · rw [M.br_bb (by rw [ex_same]; exact h), e1, e2, ex_same]
    exact ⟨fun h' => ⟨h, h'⟩, fun h' => h'.2⟩
  · rw [M.br_ba (by rw [ex_same]; exact h), ex_same]
    exact ⟨fun h' => absurd h'.1 h, fun h' => absurd h'.1 h⟩
theorem FQ.of_tk {r : M.Ru} (hr : r.Ok) {g : Nat → Int} {n : Nat} {x : Nat → Int} {i : Nat} {K : Int} (h : M.tk r g n x i K) (hno : ∀ k, r.low ≤ k → k < K → ¬ M.tk r g n x i k) : FQ r g n (ex x i K) i := by
  have e1 : M.stk (ex x i K) i = M.stk x i := M.stk_ext (fun j hj => ex_less hj)
  have e2 : M.sta (ex x i K) i = M.sta x i := M.sta_ext (fun j hj => ex_less hj)
  have e3 : M.sta (ex x i K) (i + 1) = (K == M.stk x i) := by simp only [M.sta]; rw [ex_same, e1]
  obtain ⟨h1, h2, h3⟩ := M.tk_iff.1 h
  refine ⟨by rw [ex_same]; exact h1, by rw [ex_same, e1, e2]; exact h2, by rw [ex_same, e3]; exact h3, fun k p q s => ?_⟩
  rw [e1, e2] at q
  rw [e1] at s
  rw [ex_same]
  have hk := M.ba_keys hr p
  refine Int.not_lt.1 fun hlt => hno k hk.1 hlt (M.tk_iff.2 ⟨p, q, s⟩)
theorem FQ.no_tk {r : M.Ru} (hr : r.Ok) {g : Nat → Int} {n : Nat} {x : Nat → Int} {i : Nat} (hi : i < n) (hno : ∀ k, r.low ≤ k → k ≤ r.high → ¬ M.tk r g n x i k) : M.ct r g n (n - i) (M.stk x i) (M.sta x i) = 0 := by
  refine FQ.none (K := 0) (A := false) hi (Or.inr ⟨rfl, fun k a h1 h2 => ?_⟩)
  rw [M.vs_some] at h1
  rw [M.fo_iff] at h2
  have hk := M.ba_keys hr h1.1
  exact hno k hk.1 hk.2 (M.tk_iff.2 ⟨h1.1, h2.2, by rw [← h2.1]; exact h1.2⟩)

/-- append(s, l...) where s is one's own and l is any line of numbers: nil, or not. -/
theorem wpList_append_li {P : Program} {w : World} {ops : Array Oper} {rest : List Oper} {o : Oper} {a : Act} {Q : Exit → Act → World → Prop} (hgd : o.guard = none) (s y : Operand) (t : TypeId)
    (ho : o.op = .call { callee := .builtin .append, args := #[s, y], argTypes := #[t, t] })
    (base : Nat) (e : TypeId) (i : TypeInfo) (z : Value) (ht : P.underlying t = some (.slice e)) (hi : P.info? e = some i) (hz : i.zero = some z)
    (hsize : i.size = 1) (hby : i.bytes = 8) (hzs : z.cells.size = 1)
    (v : Value) (n : Nat) (xs : List Value) (hs : a.eval s = v) (hown : w.ownsRow base e 1 v n xs)
    (bo : Option Addr) (m c : Nat) (x : Nat → Int) (hx : a.eval y = .slice bo m c) (hli : LI w bo m x) (hnil : m = 0 → bo = none ∧ c = 0)
    (h63 : n + m ≤ 1000000) (hbase : base ≤ w.heap.size)
    (h : ∀ v' w', w'.ownsRow base e 1 v' (n + m) (xs ++ rows (ic x) m) → w.grownBy w' v.ownBlock → (v'.ownBlock = v.ownBlock ∨ v'.ownBlock = some w.heap.size) → wpList P ops Q rest (a.put o.dst v') w') :
    wpList P ops Q (o :: rest) a w := by
  by_cases hm : m = 0
  · obtain ⟨rfl, rfl⟩ := hnil hm
    subst hm
    refine wpList_append_own_none hgd s y t ho base e i 1 ht hi v n xs hs hown hx (h v w (by simpa [rows] using hown) ⟨rfl, rfl, rfl, Nat.le_refl _, fun _ _ _ => rfl⟩ (Or.inl rfl))
  · obtain ⟨b, off, rfl, h2, h3⟩ := hli.at' (by omega)
    refine wpList_append_own_at w hgd s y t ho base e i z 1 8 ht hi hz hsize hby hzs (by omega) v n xs hs hown ⟨b, off, none⟩ m c (rows (ic x) m) hx (by rw [rows_len (F := ic x) (s := 1) (fun _ => rfl) m]) ?_ ?_ (by unfold maxLen; omega) (by omega) hbase (fun v' w' k1 k2 _ k4 => h v' w' k1 k2 k4)
    · intro j u hj
      have hl : (rows (ic x) m).length = m * 1 := rows_len (F := ic x) (s := 1) (fun _ => rfl) m
      have hjm : j < m := by have := (List.getElem?_eq_some_iff.1 hj).1; omega
      have := rows_get (F := ic x) (s := 1) (fun _ => rfl) m j 0 hjm (by omega)
      rw [Nat.mul_one, Nat.add_zero, hj] at this
      have e : u = .int .i64 (x j) := by simpa [ic] using this
      rw [e]
      have e2 : (⟨b, off, none⟩ : Addr).add j = ⟨b, off + j, none⟩ := by simp [Addr.add]
      rw [e2]
      exact h3 j hjm
    · intro u hu
      have : ∀ k, ∀ u ∈ rows (ic x) k, u.oneCell' = true := fun k => by
        induction k with
        | zero => intro u hu; simp [rows] at hu
        | succ k ih =>
          intro u hu
          simp only [rows, List.mem_append] at hu
          rcases hu with hu | hu
          · exact ih u hu
          · simp [ic] at hu; subst hu; rfl
      exact this m u hu
end Go.Proofs.Ytmgkbnlmdhnjnae.U
