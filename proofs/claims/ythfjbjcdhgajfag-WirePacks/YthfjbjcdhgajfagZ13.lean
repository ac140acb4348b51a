/- What the document's Wait comes to. -/
import Derived.Test.YthfjbjcdhgajfagZ6
namespace Go.Proofs.Ythfjbjcdhgajfag.Z
open Go.RowKit Go.Maps
set_option linter.unusedVariables false
set_option linter.unusedSimpArgs false

theorem OB.cells {w : World} {base : Nat} {v : Value} {xs : List Nat} (h : OB w base v xs) (hne : xs ≠ []) : ∃ g c, v = .slice (some ⟨g, 0, none⟩) xs.length c ∧ base ≤ g ∧ g < w.heap.size ∧ ∀ j u, (xs.map bc)[j]? = some u → w.cell? ⟨g, j, none⟩ = some u := by
  unfold OB at h
  rcases h.2 with ⟨h1, h2⟩ | ⟨g, cap, cur, h1, h2, h3, h4, hm, rest⟩
  · exact absurd (List.length_eq_zero_iff.1 h2) hne
  · refine ⟨g, cap, h1, h2, (Array.getElem?_eq_some_iff.1 h3).1, fun j u hj => ?_⟩
    subst h1
    have hjl : j < xs.length := by have := (List.getElem?_eq_some_iff.1 hj).1; simpa using this
    exact (World.ownsRow.cellAt h j (by omega)).trans hj
/-- append([]byte{x}, s...) where s is one's own row of bytes. -/
theorem wpList_prepend {w : World} {ops : Array Oper} {rest : List Oper} {o : Oper} {a : Act} {Q : Exit → Act → World → Prop} (hgd : o.guard = none) (s y : Operand)
    (ho : o.op = .call { callee := .builtin .append, args := #[s, y], argTypes := #[65, 65] })
    (base g x : Nat) (hs : a.eval s = .slice (some ⟨g, 0, none⟩) 1 1) (hown : OB w base (.slice (some ⟨g, 0, none⟩) 1 1) [x])
    (v : Value) (xs : List Nat) (hx : a.eval y = v) (hv : OB w base v xs) (hne : xs ≠ [])
    (h63 : xs.length ≤ 1000000) (hbase : base ≤ w.heap.size)
    (h : ∀ v' w', OB w' base v' (x :: xs) → Below base w w' → w.heap.size ≤ w'.heap.size → wpList Try.prog ops Q rest (a.put o.dst v') w') :
    wpList Try.prog ops Q (o :: rest) a w := by
  obtain ⟨i, hi, hz, hz1, hz2⟩ := info_parts infoY
  obtain ⟨g2, c, rfl, _, _, hc⟩ := hv.cells hne
  refine wpList_append_own_at w hgd s y 65 ho base 5 i (.int .u8 0) 1 1 Try.underlying65 hi hz hz1 hz2 rfl (by omega) (.slice (some ⟨g, 0, none⟩) 1 1) 1 [bc x] hs hown ⟨g2, 0, none⟩ xs.length c (xs.map bc) hx (by simp) ?_ ?_ (by unfold maxLen; omega) (by omega) hbase (fun v' w' k1 k2 _ k4 => h v' w' ?_ ?_ k2.size)
  · intro j u hj
    have e2 : (⟨g2, 0, none⟩ : Addr).add j = ⟨g2, j, none⟩ := by unfold Addr.add; by_cases h : j = 0 <;> simp [h]
    rw [e2]
    exact hc j u hj
  · intro u hu
    obtain ⟨y, _, rfl⟩ := List.mem_map.1 hu
    rfl
  · unfold OB
    rw [show (x :: xs).length = 1 + xs.length by simp; omega]
    exact k1
  · exact (Below.refl base w).grown k2 hbase (fun k hk => own_block hown k hk)
theorem wA_no {n : Nat} (h : ¬ 0 < n / 16384) : wA n = [] ∧ wB n = [] := by
  unfold wA wB; exact ⟨if_neg (by omega), if_neg h⟩
set_option maxHeartbeats 4000000 in
theorem Wait_any (n : Nat) (hn : n ≤ 268435455) (w : World) :
    Calls Try.prog 34 #[.int .i64 (n : Int)] w fun e w' => (∃ v, e = .returned v ∧ OB w' w.heap.size v (M.wt n)) ∧ Below w.heap.size w w' := by
  have hq0 : Hid ((n : Int) / 128 = ((n / 128 : Nat) : Int)) := by show _ = _; omega
  go_enter Try.func34, Try.ntmps34
  go_wp2_with fail
  have ho0 : OB (w.alloc (.cells #[.int .u8 ((n : Int) % 128)] 5)) w.heap.size (.slice (some ⟨w.heap.size, 0, none⟩) 1 1) [n % 128] := by
    have := World.ownsRow_lit (e := 5) (size := 1) (base := w.heap.size) w #[bc (n % 128)] 1 (Nat.le_refl _) (by decide) rfl
    have hv : bc (n % 128) = .int .u8 ((n : Int) % 128) := by unfold bc; congr 1
    rw [hv] at this
    unfold OB
    simp only [List.map_cons, List.map_nil, hv]
    exact this
  go_loopw [0, 3] (fun s o wr => ∃ (N : Nat) (ys : List Nat), s = .int .i64 (N : Int) ∧ OB wr w.heap.size o ys ∧ ys ≠ [] ∧ ys.length ≤ 10 ∧ N ≤ 268435455 ∧ Below w.heap.size w wr ∧ Hid ((N = n / 128 ∧ ys = [n % 128]) ∨ (N = n / 16384 ∧ 0 < n / 128 ∧ ys = wC n ++ [n % 128]) ∨ (N = n / 2097152 ∧ 0 < n / 16384 ∧ ys = wB n ++ (wC n ++ [n % 128])) ∨ (N = 0 ∧ 0 < n / 2097152 ∧ ys = wA n ++ (wB n ++ (wC n ++ [n % 128]))))) (fun s _ _ => (intOf s).toNat)
  case atStart => exact ⟨n / 128, [n % 128], by rw [hq0.out], ho0, by simp, by simp, by omega, by go_grown, Or.inl ⟨rfl, rfl⟩⟩
  case round =>
    obtain ⟨N, ys, rfl, ho, hne, hln, hNb, hbr, hS⟩ := hrel
    clear ho0 hq0
    have zr := hbr.size
    by_cases hN : 0 < N
    · have hN' : (0 : Int) < (N : Int) := by omega
      have hq : Hid ((N : Int) / 128 = ((N / 128 : Nat) : Int)) := by show _ = _; omega
      have hX : ∃ X : Nat, (128 + N % 128 : Nat) = X ∧ X ≤ 255 := ⟨_, rfl, by omega⟩
      have hlit : OB (wr.alloc (.cells #[.int .u8 (128 + (N : Int) % 128)] 5)) w.heap.size (.slice (some ⟨wr.heap.size, 0, none⟩) 1 1) [128 + N % 128] := by
        have := World.ownsRow_lit (e := 5) (size := 1) (base := w.heap.size) wr #[bc (128 + N % 128)] 1 zr (by decide) rfl
        have hv : bc (128 + N % 128) = .int .u8 (128 + (N : Int) % 128) := by unfold bc; congr 1
        rw [hv] at this
        unfold OB
        simp only [List.map_cons, List.map_nil, hv]
        exact this
      have hb1 : ∀ os, Below wr.heap.size wr (wr.alloc os) := fun os => by go_grown
      go_wp2_with (at_builtin; refine wpList_prepend rfl (.tmp 18) (.tmp 19) rfl w.heap.size wr.heap.size (128 + N % 128) rfl hlit _ ys rfl (ho.keep (hb1 _)) hne (by omega) ?c2 ?_)
      case c2 => simp; omega
      intro v' w3 ho3 hb3 hz3
      have hb4 : Below w.heap.size w w3 := (hbr.alloc hbr.size _).trans hb3
      clear hb1 hlit hb3 ho
      go_wp2_with fail
      go_roundw
      case rel =>
        refine ⟨N / 128, _, by rw [hq.out], ho3, by simp, ?_, by omega, hb4, ?_⟩
        · rcases hS.out with ⟨rfl, rfl⟩ | ⟨rfl, h2, rfl⟩ | ⟨rfl, h2, rfl⟩ | ⟨rfl, h2, rfl⟩
          · simp
          · unfold wC; rw [if_pos h2]; simp
          · unfold wB wC; rw [if_pos h2, if_pos (by omega)]; simp
          · omega
        · rcases hS.out with ⟨rfl, rfl⟩ | ⟨rfl, h2, rfl⟩ | ⟨rfl, h2, rfl⟩ | ⟨rfl, h2, rfl⟩
          · exact Or.inr (Or.inl ⟨by omega, hN, by unfold wC; rw [if_pos hN]; rfl⟩)
          · exact Or.inr (Or.inr (Or.inl ⟨by omega, hN, by unfold wB; rw [if_pos hN]; rfl⟩))
          · exact Or.inr (Or.inr (Or.inr ⟨by omega, hN, by unfold wA; rw [if_pos hN]; rfl⟩))
          · omega
      case measure => simp only [intOf]; omega
    · obtain rfl : N = 0 := by omega
      have hV : Hid (ys = M.wt n) := by
        show _ = _
        rw [wt_parts]
        rcases hS.out with ⟨h1, rfl⟩ | ⟨h1, h2, rfl⟩ | ⟨h1, h2, rfl⟩ | ⟨h1, h2, rfl⟩
        · unfold wA wB wC; rw [if_neg (by omega), if_neg (by omega), if_neg (by omega)]; rfl
        · rw [(wA_no (n := n) (by omega)).1, (wA_no (n := n) (by omega)).2]; rfl
        · have : wA n = [] := by unfold wA; exact if_neg (by omega)
          rw [this]; rfl
        · rfl
      rw [hV.out] at ho
      clear hS hne hV
      go_wp2_with fail
      go_ret
      exact ⟨⟨_, rfl, ho⟩, hbr⟩
end Go.Proofs.Ythfjbjcdhgajfag.Z
