/- What the program's add comes to: a leaf is put behind the spans. -/
import Derived.Test.YtaohahahhjkcdaeGreatDoorSG6
import Derived.Test.YtaohahahhjkcdaeGreatDoorSG13
import Derived.LoopTactic
namespace Go.Proofs.YtaohahahhjkcdaeGreatDoor.F
open Go.RowKit
set_option linter.unusedVariables false
set_option linter.unusedSimpArgs false

theorem infoSp : (Tryz.prog.info? 89).map (fun i => (i.zero, i.size, i.bytes)) = some (some (.agg #[.int .i64 0, .int .i64 0, .int .i64 0, .int .i64 0, .bool false]), 5, 40) := by kernel_rfl
def spC (s : M.Sp) : List Value := [.int .i64 s.1.1, .int .i64 s.1.2, .int .i64 s.2.1.1, .int .i64 s.2.1.2, .bool s.2.2]
def spL : List M.Sp → List Value
  | [] => []
  | s :: r => spC s ++ spL r
theorem spL_app (l r : List M.Sp) : spL (l ++ r) = spL l ++ spL r := by
  induction l with
  | nil => rfl
  | cons x l ih => simp [spL, ih]
theorem own_form {w : World} {base : Nat} {e : TypeId} {size : Nat} {v : Value} {n : Nat} {xs : List Value} (h : w.ownsRow base e size v n xs) : ∃ a c, v = .slice a n c := by
  rcases h.2 with ⟨rfl, rfl⟩ | ⟨g, cap, cur, rfl, _⟩
  · exact ⟨_, _, rfl⟩
  · exact ⟨_, _, rfl⟩
theorem own_put {w : World} {base : Nat} {e : TypeId} {size : Nat} {v : Value} {n : Nat} {xs : List Value} {b i : Nat} {u : Value} (h : w.ownsRow base e size v n xs) (hb : b < base) : (w.setCell ⟨b, i, none⟩ u).ownsRow base e size v n xs := by
  refine ⟨by simpa using h.1, ?_⟩
  rcases h.2 with hn | ⟨g, cap, cur, rfl, h1, h2, rest⟩
  · exact .inl hn
  · refine .inr ⟨g, cap, cur, rfl, h1, ?_, rest⟩
    rw [heap_setCell_other w ⟨b, i, none⟩ g u (by show g ≠ b; omega)]; exact h2
/-- The spans that have come: a row of its own behind po, the slice in po's one cell. -/
structure OutAt (w : World) (po : Nat) (out : List M.Sp) : Prop where
  lt : po < w.heap.size
  fz : w.frozen? ⟨po, 0, none⟩ = false
  v : ∃ v, w.cell? ⟨po, 0, none⟩ = some v ∧ w.ownsRow (po + 1) 89 5 v out.length (spL out)
theorem OutAt.step {w w' : World} {po : Nat} {out : List M.Sp} (h : OutAt w po out) (hb : Below w.heap.size w w') : OutAt w' po out := by
  obtain ⟨v, h1, h2⟩ := h.v
  have := hb.size
  exact ⟨by have := h.lt; omega, keepF hb h.lt h.fz, v, keepC hb h.lt h1, own_step h2 hb⟩

/-- What add leaves alone: every block but po and the row's own; the row lies where it lay, or in a new block. -/
structure Keeps (w : World) (po : Nat) (w' : World) : Prop where
  size : w.heap.size ≤ w'.heap.size
  blk : ∀ v b, w.cell? ⟨po, 0, none⟩ = some v → b < w.heap.size → b ≠ po → v.ownBlock ≠ some b → w'.heap[b]? = w.heap[b]?
  row : ∀ v v' k, w.cell? ⟨po, 0, none⟩ = some v → w'.cell? ⟨po, 0, none⟩ = some v' → v'.ownBlock = some k → v.ownBlock = some k ∨ w.heap.size ≤ k
theorem Keeps.trans {w w1 w2 : World} {po : Nat} {v1 : Value} (h : Keeps w po w1) (h' : Keeps w1 po w2) (hv : w1.cell? ⟨po, 0, none⟩ = some v1) : Keeps w po w2 := by
  have z := h.size
  refine ⟨Nat.le_trans h.size h'.size, fun v b hc hb hne ho => ?_, fun v v' k hc hc' hk => ?_⟩
  · rw [h'.blk v1 b hv (by omega) hne (fun e => by rcases h.row v v1 b hc hv e with q | q; exact ho q; omega), h.blk v b hc hb hne ho]
  · rcases h'.row v1 v' k hv hc' hk with q | q
    · exact h.row v v1 k hc hv q
    · exact .inr (by omega)
/-- A call that leaves all as it was keeps it. -/
theorem Keeps.below {w w' : World} {po : Nat} (hb : Below w.heap.size w w') (hlt : po < w.heap.size) : Keeps w po w' :=
  ⟨hb.size, fun v b _ h _ _ => hb.block b h, fun v v' k hc hc' hk => by
    have := keepC hb hlt hc
    rw [hc'] at this
    simp only [Option.some.injEq] at this
    subst this
    exact .inl hk⟩

set_option maxRecDepth 20000 in
set_option maxHeartbeats 4000000 in
theorem add_new (k : Int) (st lg : M.Fr) (sb : Bool) (out : List M.Sp) (w : World) (po B : Nat) (hB : B ≤ po) (hO : OutAt w po out) (hlen : out.length ≤ 4096) (hk : k ≠ 3 ∨ out = []) :
    Calls Tryz.prog 34 #[.int .i64 k, .agg #[.int .i64 st.1, .int .i64 st.2, .int .i64 lg.1, .int .i64 lg.2, .bool sb], .pointer (some ⟨po, 0, none⟩)] w fun e w' => e = .returned (.int .i64 0) ∧ (OutAt w' po (out ++ [(st, lg, k == 1)]) ∧ Keeps w po w') ∧ Below B w w' := by
  obtain ⟨i0, hi, hz0, hz1, hz2⟩ := info_parts infoSp
  obtain ⟨v, cv0, hown⟩ := hO.v
  have fz := hO.fz
  have lt := hO.lt
  obtain ⟨a, b, ln, rfl⟩ : ∃ a l c, v = .slice a l c := by
    rcases hown.2 with ⟨rfl, _⟩ | ⟨g, cap, cur, rfl, _⟩
    · exact ⟨_, _, _, rfl⟩
    · exact ⟨_, _, _, rfl⟩
  have hl : b = out.length := by
    rcases hown.2 with ⟨e, h⟩ | ⟨g, cap, cur, e, _⟩
    · simp at e; omega
    · simp at e; exact e.2.1
  subst hl
  have HL : Hid (spL out ++ [.int .i64 st.1, .int .i64 st.2, .int .i64 lg.1, .int .i64 lg.2, .bool (k == 1)] = spL (out ++ [(st, lg, k == 1)])) := by
    show _ = _
    rw [spL_app]; rfl
  have hne : po ≠ w.heap.size := by omega
  clear hO
  generalize st.1 = su at *
  generalize st.2 = sd at *
  generalize lg.1 = lu at *
  generalize lg.2 = ld at *
  rcases (show k ≠ 3 ∨ (k = 3 ∧ out = []) by by_cases e : k = 3; exact .inr ⟨e, by simpa [e] using hk⟩; exact .inl e) with e | ⟨rfl, rfl⟩
  · have e3 : (k == 3) = false := by simpa using e
    clear hk
    go_enter Tryz.func34, Tryz.ntmps34
    go_wp2_with (at_builtin; refine wpList_append_keep _ rfl (.tmp 18) (.tmp 20) 51 rfl (po + 1) 89 i0 (.agg #[.int .i64 0, .int .i64 0, .int .i64 0, .int .i64 0, .bool false]) 5 40 Tryz.underlying51 hi hz0 hz1 hz2 rfl (by decide) _ out.length (spL out) rfl ((hown.alloc _).alloc _) ⟨w.heap.size + 1, 0, none⟩ 1 1 [.int .i64 su, .int .i64 sd, .int .i64 lu, .int .i64 ld, .bool (k == 1)] rfl rfl ?c1 ?c2 ?c3 ?c4 ?c5 (by decide) ?_)
    try (case c1 =>
      intro i u hi
      match i, hi with
      | 0, hi => simp at hi; subst hi; simp [Addr.add, go_sem]
      | 1, hi => simp at hi; subst hi; simp [Addr.add, go_sem]
      | 2, hi => simp at hi; subst hi; simp [Addr.add, go_sem]
      | 3, hi => simp at hi; subst hi; simp [Addr.add, go_sem]
      | 4, hi => simp at hi; subst hi; simp [Addr.add, go_sem])
    case c2 => first | exact ⟨rfl, rfl, rfl, rfl, rfl⟩ | (intro u hu; simp at hu; rcases hu with rfl | rfl | rfl | rfl | rfl <;> rfl)
    case c3 => unfold maxLen; omega
    case c4 => omega
    case c5 => first | omega | (simp; omega)
    intro v' w3 hown' hgrow hkp
    rw [HL.out] at hown'
    obtain ⟨a2, c2', rfl⟩ := own_form hown'
    have hb3 : Below (po + 1) w w3 := (((Below.refl (po + 1) w).alloc (by omega) _).alloc (by simp; omega) _).grown hgrow (by simp; omega) (own_block hown)
    have C3 := keepC hb3 (by omega) cv0
    have F3 := keepF hb3 (by omega) fz
    have z3 := hb3.size
    have l3 : po < w3.heap.size := by omega
    have HK : Hid (∀ b, b < w.heap.size → (Value.slice a out.length ln).ownBlock ≠ some b → w3.heap[b]? = w.heap[b]?) := fun b hb hne' => by
      rw [hgrow.block b (by simp; omega) (fun e => hne' e.symm)]
      show ((w.heap.push _).push _)[b]? = _
      rw [Array.getElem?_push_lt (by simp; omega), Array.getElem_push_lt (by omega)]
      simp [hb]
    have HP : Hid (∀ k, (Value.slice a2 (out.length + 1) c2').ownBlock = some k → (Value.slice a out.length ln).ownBlock = some k ∨ w.heap.size ≤ k) := fun k hk => by
      rcases hkp with q | ⟨k', q, q'⟩
      · exact .inl (by rw [← q]; exact hk)
      · rw [q] at hk; simp only [Option.some.injEq] at hk; subst hk; exact .inr (by first | omega | (simp at q'; omega))
    clear hgrow hown HL hkp
    go_wp2_with fail
    go_ret
    refine ⟨rfl, ⟨⟨by simp; omega, by simp [go_sem, F3], .slice a2 (out.length + 1) c2', by simp [go_sem, C3], ?_⟩, ?_⟩, (hb3.mono (by omega)).setCell (p := ⟨po, 0, none⟩) hB _⟩
    have hx := own_put (b := po) (i := 0) (u := .slice a2 (out.length + 1) c2') hown' (by omega)
    · simpa using hx
    · refine ⟨by simp; omega, fun v b hc hb hne2 ho => ?_, fun v v' k hc hc' hk => ?_⟩
      · rw [cv0] at hc; simp only [Option.some.injEq] at hc; subst hc
        rw [heap_setCell_other _ _ _ _ (by show b ≠ po; omega)]
        exact HK.out b hb ho
      · rw [cv0] at hc; simp only [Option.some.injEq] at hc; subst hc
        simp [go_sem, C3] at hc'; subst hc'
        exact HP.out k hk
  · clear hk
    replace hown : w.ownsRow (po + 1) 89 5 (.slice a 0 ln) 0 (spL []) := hown
    replace cv0 : w.cell? ⟨po, 0, none⟩ = some (.slice a 0 ln) := cv0
    clear hlen
    have HL2 : Hid (spL [] ++ [.int .i64 su, .int .i64 sd, .int .i64 lu, .int .i64 ld, .bool false] = spL ([] ++ [(st, lg, (3 : Int) == 1)])) := HL
    clear HL
    have HL := HL2
    go_enter Tryz.func34, Tryz.ntmps34
    go_wp2_with (at_builtin; refine wpList_append_keep _ rfl (.tmp 18) (.tmp 20) 51 rfl (po + 1) 89 i0 (.agg #[.int .i64 0, .int .i64 0, .int .i64 0, .int .i64 0, .bool false]) 5 40 Tryz.underlying51 hi hz0 hz1 hz2 rfl (by decide) _ 0 (spL []) rfl ((hown.alloc _).alloc _) ⟨w.heap.size + 1, 0, none⟩ 1 1 [.int .i64 su, .int .i64 sd, .int .i64 lu, .int .i64 ld, .bool false] rfl rfl ?c1 ?c2 ?c3 ?c4 ?c5 (by decide) ?_)
    try (case c1 =>
      intro i u hi
      match i, hi with
      | 0, hi => simp at hi; subst hi; simp [Addr.add, go_sem]
      | 1, hi => simp at hi; subst hi; simp [Addr.add, go_sem]
      | 2, hi => simp at hi; subst hi; simp [Addr.add, go_sem]
      | 3, hi => simp at hi; subst hi; simp [Addr.add, go_sem]
      | 4, hi => simp at hi; subst hi; simp [Addr.add, go_sem])
    case c2 => first | exact ⟨rfl, rfl, rfl, rfl, rfl⟩ | (intro u hu; simp at hu; rcases hu with rfl | rfl | rfl | rfl | rfl <;> rfl)
    case c3 => unfold maxLen; omega
    case c4 => omega
    case c5 => first | omega | (simp; omega)
    intro v' w3 hown' hgrow hkp
    rw [HL.out] at hown'
    obtain ⟨a2, c2', rfl⟩ := own_form hown'
    have hb3 : Below (po + 1) w w3 := (((Below.refl (po + 1) w).alloc (by omega) _).alloc (by simp; omega) _).grown hgrow (by simp; omega) (own_block hown)
    have C3 := keepC hb3 (by omega) cv0
    have F3 := keepF hb3 (by omega) fz
    have z3 := hb3.size
    have l3 : po < w3.heap.size := by omega
    have HK : Hid (∀ b, b < w.heap.size → (Value.slice a 0 ln).ownBlock ≠ some b → w3.heap[b]? = w.heap[b]?) := fun b hb hne' => by
      rw [hgrow.block b (by simp; omega) (fun e => hne' e.symm)]
      show ((w.heap.push _).push _)[b]? = _
      rw [Array.getElem?_push_lt (by simp; omega), Array.getElem_push_lt (by omega)]
      simp [hb]
    have HP : Hid (∀ k, (Value.slice a2 (0 + 1) c2').ownBlock = some k → (Value.slice a 0 ln).ownBlock = some k ∨ w.heap.size ≤ k) := fun k hk => by
      rcases hkp with q | ⟨k', q, q'⟩
      · exact .inl (by rw [← q]; exact hk)
      · rw [q] at hk; simp only [Option.some.injEq] at hk; subst hk; exact .inr (by first | omega | (simp at q'; omega))
    clear hgrow hown HL hkp
    go_wp2_with fail
    go_ret
    refine ⟨rfl, ⟨⟨by simp; omega, by simp [go_sem, F3], .slice a2 (0 + 1) c2', by simp [go_sem, C3], ?_⟩, ?_⟩, (hb3.mono (by omega)).setCell (p := ⟨po, 0, none⟩) hB _⟩
    have hx := own_put (b := po) (i := 0) (u := .slice a2 (0 + 1) c2') hown' (by omega)
    · simpa using hx
    · refine ⟨by simp; omega, fun v b hc hb hne2 ho => ?_, fun v v' k hc hc' hk => ?_⟩
      · rw [cv0] at hc; simp only [Option.some.injEq] at hc; subst hc
        rw [heap_setCell_other _ _ _ _ (by show b ≠ po; omega)]
        exact HK.out b hb ho
      · rw [cv0] at hc; simp only [Option.some.injEq] at hc; subst hc
        simp [go_sem, C3] at hc'; subst hc'
        exact HP.out k hk
end Go.Proofs.YtaohahahhjkcdaeGreatDoor.F
