/- MixOrder, for its cut: copy of whole numbers, a store into a row of lists, a track cut in two side by side with its gain. -/
import Derived.Test.YtdlcnbfiklbiiaaMx15
import Derived.Laws.CopyOwn
import Derived.Laws.OwnMore
namespace Go.Proofs.Ytdlcnbfiklbiiaa.Mx
open Go.RowKit Go.Maps Go.Sort
set_option linter.unusedVariables false
set_option linter.unusedSimpArgs false

/-- Numbers laid over others from a place on. -/
def lay (f : Nat → Int) (off : Nat) (cs : List Int) : Nat → Int := fun i => if off ≤ i ∧ i < off + cs.length then cs.getD (i - off) 0 else f i
theorem lay_in (f : Nat → Int) (off : Nat) (cs : List Int) (j : Nat) (h : j < cs.length) : lay f off cs (off + j) = cs.getD j 0 := by
  unfold lay; rw [if_pos (by omega)]; congr 1; omega
theorem lay_out (f : Nat → Int) (off : Nat) (cs : List Int) (i : Nat) (h : i < off ∨ off + cs.length ≤ i) : lay f off cs i = f i := by
  unfold lay; rw [if_neg (by omega)]
theorem lay_nil (f : Nat → Int) (off : Nat) (i : Nat) : lay f off [] i = f i := lay_out f off [] i (by simp; omega)
theorem infoI1 : (Try.prog.info? 3).map (·.size) = some 1 := by kernel_rfl
theorem wpList_copy_fr {w : World} {ops : Array Oper} {rest : List Oper} {o : Oper} {a : Act} {Q : Exit → Act → World → Prop} (hgd : o.guard = none) (d s : Operand)
    (ho : o.op = .call { callee := .builtin .copy, args := #[d, s], argTypes := #[23, 23] })
    (dp sp : Option Addr) (dLen dCap sLen sCap : Nat) (hd : a.eval d = .slice dp dLen dCap) (hs : a.eval s = .slice sp sLen sCap)
    (g off M : Nat) (f : Nat → Int) (hF : FR w g M f) (cs : List Int) (hn : cs.length = Nat.min sLen dLen)
    (hpos : 0 < cs.length → dp = some ⟨g, off, none⟩ ∧ ∃ b o2, sp = some ⟨b, o2, none⟩ ∧ ∀ (j : Nat) x, cs[j]? = some x → w.cell? ⟨b, o2 + j, none⟩ = some (.int .i64 x)) (hfit : off + cs.length ≤ M)
    (h : ∀ w', Hid (FR w' g M (lay f off cs)) → Below g w w' → (∀ j, j ≠ g → w'.heap[j]? = w.heap[j]? ∨ w.heap.size ≤ j) → w'.heap.size = w.heap.size → wpList Try.prog ops Q rest (a.put o.dst (goInt cs.length)) w') : wpList Try.prog ops Q (o :: rest) a w := by
  by_cases h0 : cs.length = 0
  · obtain rfl : cs = [] := List.eq_nil_of_length_eq_zero h0
    refine wpList_copy_nothing hgd d s 23 23 ho 3 Try.underlying23 infoI1 dp sp dLen dCap sLen sCap hd hs (by simpa using hn.symm) ?_
    exact h w (World.rowIs.congr hF (fun i _ => by rw [lay_nil])) (Below.refl _ _) (fun _ _ => .inl rfl) rfl
  · obtain ⟨rfl, b, o2, rfl, hsrc⟩ := hpos (by omega)
    obtain ⟨cur, hg, hcs, hcv⟩ := hF
    have hl : (cs.map (fun x => Value.int .i64 x)).length = cs.length := List.length_map _
    refine wpList_copy_own hgd d s 23 23 ho 3 Try.underlying23 infoI1 g off dLen dCap ⟨b, o2, none⟩ sLen sCap hd hs cur 3 hg (cs.map (fun x => Value.int .i64 x)) (by rw [hl, hn]) ?_ (by rw [hl]; omega) ?_ ?_
    · intro j v hj
      rw [List.getElem?_map] at hj
      cases hx : cs[j]? with
      | none => rw [hx] at hj; cases hj
      | some x =>
        rw [hx] at hj; cases hj
        have e6 : (⟨b, o2, none⟩ : Addr).add j = ⟨b, o2 + j, none⟩ := by unfold Addr.add; by_cases h : j = 0 <;> simp [h]
        rw [e6]; exact hsrc j x hx
    · intro v hv
      obtain ⟨x, _, rfl⟩ := List.mem_map.1 hv
      rfl
    · rw [hl]
      refine h _ ?_ ?_ ?_ ?_
      · refine ⟨(cur.toList.take off ++ (cs.map (fun x => Value.int .i64 x) ++ cur.toList.drop (off + cs.length))).toArray, ?_, ?_, ?_⟩
        · exact setRow_heap w g cur _ 3 _ hg
        · simp; omega
        · intro i hi
          have hcv' := hcv i hi
          simp only [List.getElem?_toArray]
          have hlt : (cur.toList.take off).length = off := by simp; omega
          by_cases c1 : i < off
          · rw [List.getElem?_append_left (by omega), List.getElem?_take_of_lt c1, lay_out _ _ _ _ (.inl c1)]
            simpa using hcv'
          · rw [List.getElem?_append_right (by omega), hlt]
            by_cases c2 : i < off + cs.length
            · rw [List.getElem?_append_left (by rw [hl]; omega), List.getElem?_map]
              have hj : i - off < cs.length := by omega
              rw [List.getElem?_eq_getElem hj]
              show some (Value.int .i64 cs[i - off]) = some (Value.int .i64 (lay f off cs i))
              have := lay_in f off cs (i - off) hj
              rw [show off + (i - off) = i by omega] at this
              rw [this, List.getD_eq_getElem?_getD, List.getElem?_eq_getElem hj]; rfl
            · rw [List.getElem?_append_right (by rw [hl]; omega), hl, List.getElem?_drop, lay_out _ _ _ _ (.inr (by omega))]
              rw [show off + cs.length + (i - off - cs.length) = i by omega]
              simpa using hcv'
      · exact ⟨rfl, rfl, rfl, by simp [World.setRow], fun k hk => setRow_other w g k _ (fun e => by omega)⟩
      · intro k hk; exact .inl (setRow_other w g k _ hk)
      · simp [World.setRow]

/-- What is laid over noughts from a place on is the second half behind silence. -/
theorem lay_sec (t : List Int) (n i : Nat) (h : n ≤ t.length) : lay (fun _ => 0) n (t.drop n) i = (sec t n).getD i 0 := by
  have e : (sec t n).getD i 0 = at0 (sec t n) i := rfl
  rw [e, at0_sec]
  unfold lay at0
  by_cases c : i < n
  · rw [if_neg (by omega), if_pos c]
  · rw [if_neg c]
    by_cases d : i < n + (t.drop n).length
    · rw [if_pos ⟨by omega, d⟩]
      simp only [List.getD_eq_getElem?_getD, List.getElem?_drop]
      rw [show n + (i - n) = i by omega]
    · rw [if_neg (by omega)]
      rw [List.length_drop] at d
      rw [List.getD_eq_getElem?_getD, List.getElem?_eq_none (by omega)]; rfl
/-- A list put in place j of a row of lists. -/
theorem VO.set {w : World} {base N g n cap : Nat} {ps : List (List Int)} (h : VO w base N (.slice (some ⟨g, 0, none⟩) n cap) ps) (hN : N ≤ base) (hn : ps.length = n) (j : Nat) (hj : j < n) {a : Option Addr} {c : Nat} {p : List Int} (q1 : p.length ≤ c) (q2 : c ≤ 9223372036854775807) (q3 : a = none → c = 0) (q4 : IL w (fun k => k < N) a p) :
    VO (w.setCell ⟨g, j, none⟩ (.slice a p.length c)) base N (.slice (some ⟨g, 0, none⟩) n cap) (ps.set j p) := by
  obtain ⟨Vs, h1, h2, h3⟩ := h.ex
  rw [hn] at h1
  have hb := own_block h1 g rfl
  have hk : ∀ b, b < N → b < w.heap.size → (w.setCell ⟨g, j, none⟩ (.slice a p.length c)).heap[b]? = w.heap[b]? := fun b hb' _ => Below.heap_setCell _ _ _ _ (by show b ≠ g; omega)
  have hz : w.heap.size ≤ (w.setCell ⟨g, j, none⟩ (.slice a p.length c)).heap.size := by simp [World.setCell]
  refine ⟨⟨Vs.set j (.slice a p.length c), by rw [List.length_set, hn]; exact (World.ownsRow.stored h1 j _).1, by simp [h2], fun i q hi => ?_⟩⟩
  by_cases e : j = i
  · subst e
    rw [List.getElem?_set_self (by omega)] at hi
    cases hi
    exact ⟨a, c, by rw [List.getElem?_set_self (by omega)], q1, q2, q3, q4.keep (fun b hb' hl => hk b hb' hl) hz (fun _ h _ => h)⟩
  · rw [List.getElem?_set_ne e] at hi
    obtain ⟨a', c', y1, y2, y3, y4, y5⟩ := h3 i q hi
    exact ⟨a', c', by rw [List.getElem?_set_ne e]; exact y1, y2, y3, y4, y5.keep (fun b hb' hl => hk b hb' hl) hz (fun _ h _ => h)⟩
/-- The tracks behind the cut, with their gains. -/
theorem cut_zip {LS : List (List Int)} {GS : List Int} {h0 : List Int} {g0 : Int} {n : Nat} (hl : GS.length = LS.length) (e1 : LS[0]? = some h0) (e2 : GS[0]? = some g0) : (LS.set 0 (h0.take n) ++ [sec h0 n]).zip (GS ++ [g0]) = cutT (LS.zip GS) n := by
  match LS, GS, e1, e2 with
  | p :: ps, g :: gs, e1, e2 =>
    simp at e1 e2
    subst e1 e2
    simp at hl
    show ((p.take n :: ps) ++ [sec p n]).zip ((g :: gs) ++ [g]) = (p.take n, g) :: (ps.zip gs) ++ [(sec p n, g)]
    rw [List.zip_append (by simp [hl])]
    rfl
theorem cut_sums {LS : List (List Int)} {GS : List Int} {h0 : List Int} {g0 : Int} {n : Nat} {ts : List Tr} (hl : GS.length = LS.length) (e1 : LS[0]? = some h0) (e2 : GS[0]? = some g0) (hn : n ≤ h0.length) (hT : (LS.zip GS).all tok = true) (hs : sums (LS.zip GS) = sums ts) :
    ((LS.set 0 (h0.take n) ++ [sec h0 n]).zip (GS ++ [g0])).all tok = true ∧ sums ((LS.set 0 (h0.take n) ++ [sec h0 n]).zip (GS ++ [g0])) = sums ts := by
  rw [cut_zip hl e1 e2]
  match LS, GS, e1, e2 with
  | p :: ps, g :: gs, e1, e2 =>
    simp at e1 e2
    subst e1 e2
    have e : (p :: ps).zip (g :: gs) = (p, g) :: ps.zip gs := rfl
    rw [e] at hT hs ⊢
    exact ⟨cutT_tok n hT, (sums_eq (cutT_lng (p, g) _ hn) (cutT_tot (p, g) _ n)).trans hs⟩
end Go.Proofs.Ytdlcnbfiklbiiaa.Mx
