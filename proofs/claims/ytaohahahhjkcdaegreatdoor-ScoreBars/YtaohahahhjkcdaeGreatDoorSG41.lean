/- How the piece lies that is made of another by putting each bar's items into one that moves them. -/
import Derived.Test.YtaohahahhjkcdaeGreatDoorSG37
import Derived.Test.YtaohahahhjkcdaeGreatDoorSG10
import Derived.Test.YtaohahahhjkcdaeGreatDoorSG38
import Derived.Maps.AppendAt
import Derived.OneCell
import Derived.Laws.AppendOwnNone
import Derived.BigQuiet
namespace Go.Proofs.YtaohahahhjkcdaeGreatDoor.G
open Go.RowKit
set_option linter.unusedVariables false
set_option linter.unusedSimpArgs false

/-- One bar of the moved piece: its cells; its one item lies in a block of its own and holds the kids of the elder bar. -/
structure BarI (w : World) (B0 lo lim : Nat) (i : Int × Int) (u d : Int) (x : M.It) (c : List Value) : Prop where
  at' : ∃ (ib : Nat) (ia : Option Addr) (ic : Nat), c = [.int .i64 u, .int .i64 d, .slice (some ⟨ib, 0, none⟩) 1 1] ∧ lo < ib ∧ ib < lim ∧ w.heap[ib]? = some (.cells #[.int .i64 5, .int .i64 1, .slice none 0 0, .int .i64 i.1, .int .i64 i.2, .string ⟨#[]⟩, .slice ia x.n ic] 61) ∧ x.n ≤ ic ∧ ic ≤ 9223372036854775807 ∧ LL w B0 x ia
/-- Blocks between lo and lim of this kind are kept. -/
def KT (w w' : World) (lo lim : Nat) (tg : TypeId) : Prop := ∀ b cs, lo < b → b < lim → w.heap[b]? = some (.cells cs tg) → w'.heap[b]? = w.heap[b]?
theorem KT.trans {w w1 w2 : World} {lo lim : Nat} {tg : TypeId} (h : KT w w1 lo lim tg) (h2 : KT w1 w2 lo lim tg) : KT w w2 lo lim tg := fun b cs b1 b2 hb => by
  have e := h b cs b1 b2 hb
  rw [← e]
  exact h2 b cs b1 b2 (by rw [e]; exact hb)
theorem KT.below {w w' : World} {lo lim : Nat} {tg : TypeId} (hb : Below lim w w') : KT w w' lo lim tg := fun b cs _ b2 _ => hb.block b b2
theorem KT.set {w : World} {lo lim : Nat} {tg : TypeId} {b o : Nat} {v : Value} (h : b ≤ lo ∨ lim ≤ b) : KT w (w.setCell ⟨b, o, none⟩ v) lo lim tg := fun c cs c1 c2 _ => heap_setCell_other _ _ _ _ (by show c ≠ b; omega)
theorem KT.grown {w w' : World} {lo lim : Nat} {tg e : TypeId} {base size n : Nat} {v : Value} {xs : List Value} (hg : w.grownBy w' v.ownBlock) (ho : w.ownsRow base e size v n xs) (hne : e ≠ tg) (hl : lim ≤ w.heap.size) : KT w w' lo lim tg := fun b cs _ b2 hb => by
  refine hg.block b (by omega) (fun q => ?_)
  rcases ho.2 with ⟨rfl, _⟩ | ⟨g, cap, cur, rfl, h1, h2, rest⟩
  · simp [Value.ownBlock] at q
  · simp [Value.ownBlock] at q
    subst q
    rw [h2] at hb
    simp only [Option.some.injEq, Obj.cells.injEq] at hb
    exact hne hb.2.1
theorem KT.grown2 {w w' : World} {lo lim : Nat} {tg e : TypeId} {base size n : Nat} {v : Value} {xs : List Value} (hg : w.grownBy w' v.ownBlock) (ho : w.ownsRow base e size v n xs) (hl : lim ≤ w.heap.size) (hb : lim ≤ base) : KT w w' lo lim tg := fun b cs _ b2 _ =>
  hg.block b (by omega) (fun q => by have := F.own_block ho b q.symm; omega)
theorem BarI.keep {w w' : World} {B0 lo lim : Nat} {i : Int × Int} {u d : Int} {x : M.It} {c : List Value} (h : BarI w B0 lo lim i u d x c) (hb : Below B0 w w') (hk : KT w w' lo lim 61) : BarI w' B0 lo lim i u d x c := by
  obtain ⟨ib, ia, ic, e1, e2, e3, e4, e5, e6, e7⟩ := h.at'
  exact ⟨⟨ib, ia, ic, e1, e2, e3, (hk ib _ e2 e3 e4).trans e4, e5, e6, LL.step x _ e7 hb⟩⟩
theorem BarI.mono {w : World} {B0 lo lim lo' lim' : Nat} {i : Int × Int} {u d : Int} {x : M.It} {c : List Value} (h : BarI w B0 lo lim i u d x c) (h1 : lo' ≤ lo) (h2 : lim ≤ lim') : BarI w B0 lo' lim' i u d x c := by
  obtain ⟨ib, ia, ic, e1, e2, e3, r⟩ := h.at'
  exact ⟨⟨ib, ia, ic, e1, by omega, by omega, r⟩⟩
theorem BarI.len {w : World} {B0 lo lim : Nat} {i : Int × Int} {u d : Int} {x : M.It} {c : List Value} (h : BarI w B0 lo lim i u d x c) : c.length = 3 := by
  obtain ⟨ib, ia, ic, e1, _⟩ := h.at'
  rw [e1]; rfl
/-- The bar is one whose items are moved. -/
theorem BarI.LL {w : World} {B0 lo lim B : Nat} {i : Int × Int} {u d : Int} {x : M.It} {c : List Value} (h : BarI w B0 lo lim i u d x c) (h1 : B0 ≤ B) (h2 : lim ≤ B) : ∃ (ia : Option Addr) (ic : Nat), c = [.int .i64 u, .int .i64 d, .slice ia (M.wr2 i x).n ic] ∧ (M.wr2 i x).n ≤ ic ∧ ic ≤ 9223372036854775807 ∧ G.LL w B (M.wr2 i x) ia := by
  obtain ⟨ib, ia, ic, e1, e2, e3, e4, e5, e6, e7⟩ := h.at'
  obtain ⟨z, k, s, np, pl, pa, po, b1, b2, ly, m, sub⟩ := x
  cases z with
  | true => exact False.elim e7
  | false =>
    refine ⟨some ⟨ib, 0, none⟩, 1, e1, Nat.le_refl _, by omega, fun _ => ⟨ib, 0, rfl, by omega, fun j hj => ?_⟩⟩
    obtain rfl : j = 0 := by have : j < 1 := hj; omega
    have hc := fun o => cell_of_row w ib o _ _ (0, 0) e4
    refine ⟨none, 0, ia, ic, by rw [hc]; rfl, by rw [hc]; rfl, by rw [hc]; rfl, by rw [hc]; rfl, by rw [hc]; rfl, by rw [hc]; rfl, by rw [hc]; rfl, Nat.le_refl _, by omega, e5, e6, by show (0 : Nat) ≤ _; omega, ⟨fun h => absurd h (by show ¬ 0 < 0; omega)⟩, ?_⟩
    exact LL.mono h1 _ _ e7
/-- A voice of the moved piece. -/
structure VoI (w : World) (B0 lim : Nat) (i : Int × Int) (s : ByteArray) (n : Nat) (up dn : Nat → Int) (t : Nat → M.It) (c : List Value) : Prop where
  at' : ∃ (v : Value) (base : Nat) (R : Nat → List Value), c = [.string s, v] ∧ B0 ≤ base ∧ w.ownsRow base 34 3 v n (F.rows R n) ∧ (∀ g, v.ownBlock = some g → g < lim) ∧ (∀ m, (R m).length = 3) ∧ ∀ m, m < n → BarI w B0 B0 lim i (up m) (dn m) (t m) (R m)
theorem VoI.keep {w w' : World} {B0 lim : Nat} {i : Int × Int} {s : ByteArray} {n : Nat} {up dn : Nat → Int} {t : Nat → M.It} {c : List Value} (h : VoI w B0 lim i s n up dn t c) (hb : Below B0 w w') (hk : KT w w' B0 lim 61) (hk2 : ∀ b cs, B0 ≤ b → b < lim → w.heap[b]? = some (.cells cs 34) → w'.heap[b]? = w.heap[b]?) : VoI w' B0 lim i s n up dn t c := by
  obtain ⟨v, base, R, e1, e2, e3, e4, e5, e6⟩ := h.at'
  refine ⟨⟨v, base, R, e1, e2, ?_, e4, e5, fun m hm => (e6 m hm).keep hb hk⟩⟩
  refine ⟨e3.1, ?_⟩
  rcases e3.2 with hn | ⟨g, cap, cur, rfl, h1, h2, rest⟩
  · exact .inl hn
  · refine .inr ⟨g, cap, cur, rfl, h1, ?_, rest⟩
    rw [hk2 g cur (by omega) (e4 g rfl) h2]; exact h2
theorem VoI.mono {w : World} {B0 lim lim' : Nat} {i : Int × Int} {s : ByteArray} {n : Nat} {up dn : Nat → Int} {t : Nat → M.It} {c : List Value} (h : VoI w B0 lim i s n up dn t c) (h2 : lim ≤ lim') : VoI w B0 lim' i s n up dn t c := by
  obtain ⟨v, base, R, e1, e2, e3, e4, e5, e6⟩ := h.at'
  exact ⟨⟨v, base, R, e1, e2, e3, fun g hg => by have := e4 g hg; omega, e5, fun m hm => (e6 m hm).mono (Nat.le_refl _) h2⟩⟩
theorem VoI.BL {w : World} {B0 lim B : Nat} {i : Int × Int} {s : ByteArray} {n : Nat} {up dn : Nat → Int} {t : Nat → M.It} {c : List Value} (h : VoI w B0 lim i s n up dn t c) (h1 : B0 ≤ B) (h2 : lim ≤ B) : ∃ ba bc, c = [.string s, .slice ba n bc] ∧ n ≤ bc ∧ bc ≤ 9223372036854775807 ∧ G.BL w B ba n up dn (fun b => M.wr2 i (t b)) := by
  obtain ⟨v, base, R, e1, e2, e3, e4, e5, e6⟩ := h.at'
  rcases e3.2 with ⟨rfl, hn⟩ | ⟨g, cap, cur, rfl, q1, q2, q3, q4, q5, q6⟩
  · subst hn
    exact ⟨none, 0, e1, Nat.le_refl _, by omega, ⟨fun h => by omega⟩⟩
  · refine ⟨some ⟨g, 0, none⟩, cap, e1, q3, by unfold maxLen at q4; omega, ⟨fun hn => ⟨g, 0, rfl, by have := e4 g rfl; omega, fun j hj => ?_⟩⟩⟩
    obtain ⟨ia, ic, f1, f2, f3, f4⟩ := (e6 j hj).LL h1 h2
    have hc := fun o (ho : o < 3) => (World.ownsRow.cellAt e3 (j * 3 + o) (by omega)).trans (F.rows_get e5 n j o hj ho)
    rw [f1] at hc
    refine ⟨ia, ic, ?_, ?_, ?_, f2, f3, f4⟩
    · rw [Nat.zero_add]; exact hc 0 (by omega)
    · rw [Nat.zero_add]; exact hc 1 (by omega)
    · rw [Nat.zero_add]; exact hc 2 (by omega)
/-- The moved piece as far as it is made. -/
structure UpI (w : World) (B0 lim : Nat) (i : Int × Int) (s : Nat → ByteArray) (n : Nat → Nat) (up dn : Nat → Nat → Int) (t : Nat → Nat → M.It) (k : Nat) (v : Value) : Prop where
  at' : ∃ (C : Nat → List Value), w.ownsRow B0 24 2 v k (F.rows C k) ∧ (∀ m, (C m).length = 2) ∧ ∀ a, a < k → VoI w B0 lim i (s a) (n a) (up a) (dn a) (t a) (C a)
theorem UpI.VL {w : World} {B0 lim B : Nat} {i : Int × Int} {s : Nat → ByteArray} {n : Nat → Nat} {up dn : Nat → Nat → Int} {t : Nat → Nat → M.It} {k : Nat} {v : Value} (h : UpI w B0 lim i s n up dn t k v) (h1 : B0 ≤ B) (h2 : lim ≤ B) (h3 : w.heap.size ≤ B) : ∃ ao vc, v = .slice ao k vc ∧ k ≤ vc ∧ vc ≤ 9223372036854775807 ∧ G.VL w B ao k s n up dn (fun a b => M.wr2 i (t a b)) := by
  obtain ⟨C, e1, e2, e3⟩ := h.at'
  rcases e1.2 with ⟨rfl, hn⟩ | ⟨g, cap, cur, rfl, q1, q2, q3, q4, q5, q6⟩
  · subst hn
    exact ⟨none, 0, rfl, Nat.le_refl _, by omega, ⟨fun h => by omega⟩⟩
  · refine ⟨some ⟨g, 0, none⟩, cap, rfl, q3, by unfold maxLen at q4; omega, ⟨fun hn => ⟨g, 0, rfl, Nat.lt_of_lt_of_le (Array.getElem?_eq_some_iff.1 q2).1 h3, fun j hj => ?_⟩⟩⟩
    obtain ⟨ba, bc, f1, f2, f3, f4⟩ := (e3 j hj).BL h1 h2
    have hc := fun o (ho : o < 2) => (World.ownsRow.cellAt e1 (j * 2 + o) (by omega)).trans (F.rows_get e2 k j o hj ho)
    rw [f1] at hc
    refine ⟨ba, bc, ?_, ?_, f2, f3, f4⟩
    · rw [Nat.zero_add]; exact hc 0 (by omega)
    · rw [Nat.zero_add]; exact hc 1 (by omega)
end Go.Proofs.YtaohahahhjkcdaeGreatDoor.G

/- The law ScoreMoved: appends of bars and voices; a row's form. -/
namespace Go.Proofs.YtaohahahhjkcdaeGreatDoor.G
open Go.RowKit Go.Maps
set_option linter.unusedVariables false
set_option linter.unusedSimpArgs false

theorem own_form {w : World} {base : Nat} {e : TypeId} {size : Nat} {v : Value} {n : Nat} {xs : List Value} (h : w.ownsRow base e size v n xs) : ∃ ao c, v = .slice ao n c ∧ n ≤ c ∧ c ≤ 9223372036854775807 := by
  rcases h.2 with ⟨rfl, rfl⟩ | ⟨g, cap, cur, rfl, _, _, h3, hm, _⟩
  · exact ⟨none, 0, rfl, by omega, by omega⟩
  · exact ⟨_, cap, rfl, h3, by unfold maxLen at hm; omega⟩
theorem own_lt {w : World} {base : Nat} {e : TypeId} {size : Nat} {v : Value} {n : Nat} {xs : List Value} (h : w.ownsRow base e size v n xs) : ∀ k, v.ownBlock = some k → k < w.heap.size := by
  intro k hk
  rcases h.2 with ⟨rfl, _⟩ | ⟨g, cap, cur, rfl, h1, h2, rest⟩
  · simp [Value.ownBlock] at hk
  · simp [Value.ownBlock] at hk; subst hk; exact (Array.getElem?_eq_some_iff.1 h2).1
theorem own_keep {w w' : World} {base : Nat} {e : TypeId} {size : Nat} {v : Value} {n : Nat} {xs : List Value} (h : w.ownsRow base e size v n xs) (hb : ∀ k, v.ownBlock = some k → w'.heap[k]? = w.heap[k]?) : w'.ownsRow base e size v n xs := by
  refine ⟨h.1, ?_⟩
  rcases h.2 with hn | ⟨g, cap, cur, rfl, h1, h2, rest⟩
  · exact .inl hn
  · refine .inr ⟨g, cap, cur, rfl, h1, ?_, rest⟩
    rw [hb g rfl]; exact h2
theorem infoBar : (Tryz.prog.info? 34).map (fun i => (i.zero, i.size, i.bytes)) = some (some (.agg #[.int .i64 0, .int .i64 0, .slice none 0 0]), 3, 40) := by kernel_rfl
theorem infoVoice : (Tryz.prog.info? 24).map (fun i => (i.zero, i.size, i.bytes)) = some (some (.agg #[.string ⟨#[]⟩, .slice none 0 0]), 2, 40) := by kernel_rfl
/-- append(s, bar) where s is one's own row of bars. -/
theorem wpList_append_bar {w : World} {ops : Array Oper} {rest : List Oper} {o : Oper} {a : Act} {Q : Exit → Act → World → Prop} (hgd : o.guard = none) (s y : Operand)
    (ho : o.op = .call { callee := .builtin .append, args := #[s, y], argTypes := #[22, 22] })
    (base : Nat) (v : Value) (n : Nat) (xs : List Value) (hs : a.eval s = v) (hown : w.ownsRow base 34 3 v n xs)
    (g : Nat) (u d : Int) (ia : Option Addr) (m ic : Nat) (hx : a.eval y = .slice (some ⟨g, 0, none⟩) 1 1) (h0 : w.cell? ⟨g, 0, none⟩ = some (.int .i64 u)) (h1 : w.cell? ⟨g, 1, none⟩ = some (.int .i64 d)) (h2 : w.cell? ⟨g, 2, none⟩ = some (.slice ia m ic))
    (h63 : n ≤ 100000) (hbase : base ≤ w.heap.size)
    (h : ∀ v' w', w'.ownsRow base 34 3 v' (n + 1) (xs ++ [.int .i64 u, .int .i64 d, .slice ia m ic]) → w.grownBy w' v.ownBlock → wpList Tryz.prog ops Q rest (a.put o.dst v') w') :
    wpList Tryz.prog ops Q (o :: rest) a w := by
  obtain ⟨i, hi, hz, hz1, hz2⟩ := info_parts infoBar
  refine wpList_append_own_at w hgd s y 22 ho base 34 i _ 3 40 Tryz.underlying22 hi hz hz1 hz2 rfl (by omega) v n xs hs hown ⟨g, 0, none⟩ 1 1 [.int .i64 u, .int .i64 d, .slice ia m ic] hx rfl ?_ ?_ (by unfold maxLen; omega) (by omega) hbase (fun v' w' k1 k2 _ _ => h v' w' k1 k2)
  · intro j x hj
    match j, hj with
    | 0, hj => simp at hj; subst hj; simpa [Addr.add] using h0
    | 1, hj => simp at hj; subst hj; simpa [Addr.add] using h1
    | 2, hj => simp at hj; subst hj; simpa [Addr.add] using h2
    | j + 3, hj => simp at hj
  · intro x hx; simp at hx; rcases hx with rfl | rfl | rfl <;> rfl
/-- append(s, voice) where s is one's own row of voices. -/
theorem wpList_append_voice {w : World} {ops : Array Oper} {rest : List Oper} {o : Oper} {a : Act} {Q : Exit → Act → World → Prop} (hgd : o.guard = none) (s y : Operand)
    (ho : o.op = .call { callee := .builtin .append, args := #[s, y], argTypes := #[30, 30] })
    (base : Nat) (v : Value) (n : Nat) (xs : List Value) (hs : a.eval s = v) (hown : w.ownsRow base 24 2 v n xs)
    (g : Nat) (st : ByteArray) (ia : Option Addr) (m ic : Nat) (hx : a.eval y = .slice (some ⟨g, 0, none⟩) 1 1) (h0 : w.cell? ⟨g, 0, none⟩ = some (.string st)) (h1 : w.cell? ⟨g, 1, none⟩ = some (.slice ia m ic))
    (h63 : n ≤ 100000) (hbase : base ≤ w.heap.size)
    (h : ∀ v' w', w'.ownsRow base 24 2 v' (n + 1) (xs ++ [.string st, .slice ia m ic]) → w.grownBy w' v.ownBlock → wpList Tryz.prog ops Q rest (a.put o.dst v') w') :
    wpList Tryz.prog ops Q (o :: rest) a w := by
  obtain ⟨i, hi, hz, hz1, hz2⟩ := info_parts infoVoice
  refine wpList_append_own_at w hgd s y 30 ho base 24 i _ 2 40 Tryz.underlying30 hi hz hz1 hz2 rfl (by omega) v n xs hs hown ⟨g, 0, none⟩ 1 1 [.string st, .slice ia m ic] hx rfl ?_ ?_ (by unfold maxLen; omega) (by omega) hbase (fun v' w' k1 k2 _ _ => h v' w' k1 k2)
  · intro j x hj
    match j, hj with
    | 0, hj => simp at hj; subst hj; simpa [Addr.add] using h0
    | 1, hj => simp at hj; subst hj; simpa [Addr.add] using h1
    | j + 2, hj => simp at hj
  · intro x hx; simp at hx; rcases hx with rfl | rfl <;> rfl
/-- One more row at the end. -/
def ex3 (R : Nat → List Value) (j : Nat) (c : List Value) (m : Nat) : List Value := if m = j then c else R m
theorem ex3_rows {R : Nat → List Value} {j : Nat} {c : List Value} : F.rows (ex3 R j c) (j + 1) = F.rows R j ++ c := by
  have h : ∀ k, k ≤ j → F.rows (ex3 R j c) k = F.rows R k := fun k hk => by
    induction k with
    | zero => rfl
    | succ k ih => simp only [F.rows]; rw [ih (by omega)]; unfold ex3; rw [if_neg (by omega)]
  rw [F.rows, h j (Nat.le_refl _)]; unfold ex3; rw [if_pos rfl]
theorem ex3_same {R : Nat → List Value} {j : Nat} {c : List Value} : ex3 R j c j = c := if_pos rfl
theorem ex3_less {R : Nat → List Value} {j m : Nat} {c : List Value} (h : m ≠ j) : ex3 R j c m = R m := if_neg h
theorem ex3_len {R : Nat → List Value} {j L : Nat} {c : List Value} (h : ∀ m, (R m).length = L) (hc : c.length = L) : ∀ m, (ex3 R j c m).length = L := fun m => by
  unfold ex3; split
  · exact hc
  · exact h m
theorem VL.voice {w : World} {B : Nat} {ao : Option Addr} {nv : Nat} {s : Nat → ByteArray} {n : Nat → Nat} {up dn : Nat → Nat → Int} {t : Nat → Nat → M.It} (h : VL w B ao nv s n up dn t) {k : Nat} (hk : k < nv) : ∃ b off ba bc, ao = some ⟨b, off, none⟩ ∧ b < B ∧ w.cell? ⟨b, off + k * 2, none⟩ = some (.string (s k)) ∧ w.cell? ⟨b, off + k * 2 + 1, none⟩ = some (.slice ba (n k) bc) ∧ n k ≤ bc ∧ bc ≤ 9223372036854775807 ∧ BL w B ba (n k) (up k) (dn k) (t k) := by
  obtain ⟨b, off, h1, h2, h3⟩ := h.at' (by omega)
  obtain ⟨ba, bc, c0, c1, c2, c3, c4⟩ := h3 k hk
  exact ⟨b, off, ba, bc, h1, h2, c0, c1, c2, c3, c4⟩
theorem BL.bar {w : World} {B : Nat} {ao : Option Addr} {n : Nat} {up dn : Nat → Int} {t : Nat → M.It} (h : BL w B ao n up dn t) {j : Nat} (hj : j < n) : ∃ b off ia ic, ao = some ⟨b, off, none⟩ ∧ b < B ∧ w.cell? ⟨b, off + j * 3, none⟩ = some (.int .i64 (up j)) ∧ w.cell? ⟨b, off + j * 3 + 1, none⟩ = some (.int .i64 (dn j)) ∧ w.cell? ⟨b, off + j * 3 + 2, none⟩ = some (.slice ia (t j).n ic) ∧ (t j).n ≤ ic ∧ ic ≤ 9223372036854775807 ∧ LL w B (t j) ia := by
  obtain ⟨b, off, h1, h2, h3⟩ := h.at' (by omega)
  obtain ⟨ia, ic, r⟩ := h3 j hj
  exact ⟨b, off, ia, ic, h1, h2, r⟩
end Go.Proofs.YtaohahahhjkcdaeGreatDoor.G

/- What the document's Move comes to, in the singer's words; notes in a row of one's own, one of them moved; SameNotes. -/
namespace Go.Proofs.YtaohahahhjkcdaeGreatDoor.G
open Go.RowKit Go.Maps
set_option linter.unusedVariables false
set_option linter.unusedSimpArgs false

/-- One note of a list is moved. -/
theorem ntL_mv (o r : List M.Nt) (x : M.Nt) (l a p : Int) : (((ntL (o ++ x :: r)).set (o.length * 9 + 5) (.int .i64 l)).set (o.length * 9 + 6) (.int .i64 a)).set (o.length * 9 + 7) (.int .i64 p) = ntL (o ++ { x with pl := l, pa := a, po := p } :: r) := by
  rw [ntL_app, ntL_app, List.set_append_right _ _ (by rw [ntL_len]; omega), List.set_append_right _ _ (by rw [ntL_len]; omega), List.set_append_right _ _ (by rw [ntL_len]; omega), ntL_len, show o.length * 9 + 5 - o.length * 9 = 5 by omega, show o.length * 9 + 6 - o.length * 9 = 6 by omega, show o.length * 9 + 7 - o.length * 9 = 7 by omega]
  simp [ntL, ntC]
theorem ntL_get {l : List M.Nt} {k : Nat} {x : M.Nt} (h : l[k]? = some x) (i : Nat) (hi : i < 9) : (ntL l)[k * 9 + i]? = (ntC x)[i]? := by
  obtain ⟨hk, he⟩ := List.getElem?_eq_some_iff.1 h
  have e : l = l.take k ++ x :: l.drop (k + 1) := by
    rw [← he, List.getElem_cons_drop, List.take_append_drop]
  have h2 := ntL_at (l.take k) (l.drop (k + 1)) x i hi
  rw [← e, List.length_take, Nat.min_eq_left (by omega)] at h2
  exact h2
/-- A note's cells. -/
structure N9 (w : World) (b o : Nat) (x : M.Nt) : Prop where
  c0 : w.cell? ⟨b, o, none⟩ = some (.int .i64 x.vo)
  c1 : w.cell? ⟨b, o + 1, none⟩ = some (.int .i64 x.st.1)
  c2 : w.cell? ⟨b, o + 2, none⟩ = some (.int .i64 x.st.2)
  c3 : w.cell? ⟨b, o + 3, none⟩ = some (.int .i64 x.lg.1)
  c4 : w.cell? ⟨b, o + 4, none⟩ = some (.int .i64 x.lg.2)
  c5 : w.cell? ⟨b, o + 5, none⟩ = some (.int .i64 x.pl)
  c6 : w.cell? ⟨b, o + 6, none⟩ = some (.int .i64 x.pa)
  c7 : w.cell? ⟨b, o + 7, none⟩ = some (.int .i64 x.po)
  c8 : w.cell? ⟨b, o + 8, none⟩ = some (.string x.ly)
theorem own_N9 {w : World} {base g cap : Nat} {l : List M.Nt} (h : w.ownsRow base 43 9 (.slice (some ⟨g, 0, none⟩) l.length cap) l.length (ntL l)) {k : Nat} {x : M.Nt} (hx : l[k]? = some x) : N9 w g (k * 9) x := by
  have hk := (List.getElem?_eq_some_iff.1 hx).1
  have c := fun i (hi : i < 9) => (World.ownsRow.cellAt h (k * 9 + i) (by omega)).trans (ntL_get hx i hi)
  exact ⟨c 0 (by omega), c 1 (by omega), c 2 (by omega), c 3 (by omega), c 4 (by omega), c 5 (by omega), c 6 (by omega), c 7 (by omega), c 8 (by omega)⟩
theorem N9.keep {w w' : World} {b o B : Nat} {x : M.Nt} (h : N9 w b o x) (hlt : b < B) (hb : Below B w w') : N9 w' b o x :=
  ⟨F.keepC hb hlt h.c0, F.keepC hb hlt h.c1, F.keepC hb hlt h.c2, F.keepC hb hlt h.c3, F.keepC hb hlt h.c4, F.keepC hb hlt h.c5, F.keepC hb hlt h.c6, F.keepC hb hlt h.c7, F.keepC hb hlt h.c8⟩
theorem note_form {w : World} {base : Nat} {v : Value} {l : List M.Nt} (h : w.ownsRow base 43 9 v l.length (ntL l)) : ∃ ao c, v = .slice ao l.length c ∧ l.length ≤ c ∧ c ≤ 9223372036854775807 ∧ (0 < l.length → ∃ g, ao = some ⟨g, 0, none⟩ ∧ base ≤ g ∧ g < w.heap.size) := by
  rcases h.2 with ⟨h1, h2⟩ | ⟨g, cap, cur, h1, h2, h3, h4, hm, rest⟩
  · exact ⟨none, 0, by rw [h2]; exact h1, by omega, by omega, fun h => by omega⟩
  · exact ⟨_, cap, h1, h4, by unfold maxLen at hm; omega, fun _ => ⟨g, rfl, h2, (Array.getElem?_eq_some_iff.1 h3).1⟩⟩
set_option maxRecDepth 20000 in
set_option maxHeartbeats 4000000 in
theorem SameNotes_own (l : List M.Nt) (v v' : Value) (base base' : Nat) (w : World) (h : w.ownsRow base 43 9 v l.length (ntL l)) (h' : w.ownsRow base' 43 9 v' l.length (ntL l)) :
    Calls Tryz.prog 9 #[v, v'] w fun e w' => e = .returned (.bool true) ∧ Below w.heap.size w w' := by
  obtain ⟨ao, c, rfl, hc, hcm, hg⟩ := note_form h
  obtain ⟨bo, d, rfl, hd, hdm, hg'⟩ := note_form h'
  go_enter Tryz.func9, Tryz.ntmps9
  go_wp2_with fail
  go_loopw [13] (fun i wr => ∃ (k : Nat), k ≤ l.length ∧ i = .int .i64 k ∧ Below w.heap.size w wr) (fun i _ => l.length - (intOf i).toNat)
  case atStart => exact ⟨0, by omega, rfl, Below.refl _ _⟩
  case round =>
    obtain ⟨k, hkn, rfl, hbr⟩ := hrel
    by_cases hlt : k < l.length
    · have hlt' : (k : Int) < l.length := by omega
      obtain ⟨g, rfl, _, hgl⟩ := hg (by omega)
      obtain ⟨g', rfl, _, hgl'⟩ := hg' (by omega)
      obtain ⟨x, hx⟩ : ∃ e, l[k]? = some e := ⟨_, List.getElem?_eq_getElem hlt⟩
      obtain ⟨r0, r1, r2, r3, r4, r5, r6, r7, r8⟩ := (own_N9 h hx).keep hgl hbr
      obtain ⟨s0, s1, s2, s3, s4, s5, s6, s7, s8⟩ := (own_N9 h' hx).keep hgl' hbr
      have w3 : IntKind.i64.wrap ((k : Int) + 1) = (k : Int) + 1 := F.wid (by omega) (by omega)
      have zr := hbr.size
      have g1 : g < wr.heap.size := by omega
      have g2 : g' < wr.heap.size := by omega
      clear hx h h'
      obtain ⟨vo, ⟨st1, st2⟩, ⟨lg1, lg2⟩, pl, pa, po, ly⟩ := x
      simp only at *
      go_wp2_with fail
      go_quiet (fail)
      go_wp2_with fail
      go_roundw
      case rel => exact ⟨k + 1, by omega, by go_num, hbr.trans ⟨rfl, rfl, rfl, Nat.le_refl _, fun _ _ => rfl⟩⟩
      case measure => simp [intOf]; omega
    · obtain rfl : k = l.length := by omega
      have hlt' : ¬ ((l.length : Nat) : Int) < l.length := by omega
      go_wp2_with fail
      go_ret
      exact ⟨rfl, hbr⟩
/-- The first k notes moved, the others not. -/
def mvL (s h : Int) (ns : List M.Nt) (k : Nat) : List M.Nt := (ns.take k).map (M.nmv s h) ++ ns.drop k
theorem mvL_zero (s h : Int) (ns : List M.Nt) : mvL s h ns 0 = ns := by simp [mvL]
theorem mvL_end (s h : Int) (ns : List M.Nt) : mvL s h ns ns.length = ns.map (M.nmv s h) := by simp [mvL]
theorem mvL_len (s h : Int) (ns : List M.Nt) (k : Nat) : (mvL s h ns k).length = ns.length := by simp [mvL]; omega
theorem mvL_at {s h : Int} {ns : List M.Nt} {k : Nat} {x : M.Nt} (hx : ns[k]? = some x) : mvL s h ns k = (ns.take k).map (M.nmv s h) ++ x :: ns.drop (k + 1) ∧ mvL s h ns (k + 1) = (ns.take k).map (M.nmv s h) ++ M.nmv s h x :: ns.drop (k + 1) ∧ ((ns.take k).map (M.nmv s h)).length = k := by
  obtain ⟨hk, he⟩ := List.getElem?_eq_some_iff.1 hx
  refine ⟨?_, ?_, by simp; omega⟩
  · unfold mvL; rw [List.drop_eq_getElem_cons hk, he]
  · unfold mvL; rw [List.take_add_one, hx]; simp
theorem mvL_get {s h : Int} {ns : List M.Nt} {k : Nat} {x : M.Nt} (hx : ns[k]? = some x) : (mvL s h ns k)[k]? = some x := by
  obtain ⟨e1, _, e3⟩ := mvL_at (s := s) (h := h) hx
  rw [e1, List.getElem?_append_right (by omega), e3, Nat.sub_self]; rfl
/-- One note's pitch is stored. -/
theorem mvL_put {w : World} {base g n cap : Nat} {s h : Int} {ns : List M.Nt} {k : Nat} {x : M.Nt} (hn : ns.length = n) (ho : w.ownsRow base 43 9 (.slice (some ⟨g, 0, none⟩) n cap) n (ntL (mvL s h ns k))) (hx : ns[k]? = some x) :
    (((w.setCell ⟨g, k * 9 + 5, none⟩ (.int .i64 (M.nmv s h x).pl)).setCell ⟨g, k * 9 + 6, none⟩ (.int .i64 (M.nmv s h x).pa)).setCell ⟨g, k * 9 + 7, none⟩ (.int .i64 (M.nmv s h x).po)).ownsRow base 43 9 (.slice (some ⟨g, 0, none⟩) n cap) n (ntL (mvL s h ns (k + 1))) := by
  obtain ⟨e1, e2, e3⟩ := mvL_at (s := s) (h := h) hx
  have h1 := (World.ownsRow.stored ho (k * 9 + 5) (.int .i64 (M.nmv s h x).pl)).1
  have h2 := (World.ownsRow.stored h1 (k * 9 + 6) (.int .i64 (M.nmv s h x).pa)).1
  have h3 := (World.ownsRow.stored h2 (k * 9 + 7) (.int .i64 (M.nmv s h x).po)).1
  have e := ntL_mv ((ns.take k).map (M.nmv s h)) (ns.drop (k + 1)) x (M.nmv s h x).pl (M.nmv s h x).pa (M.nmv s h x).po
  rw [e3] at e
  rw [e1, e] at h3
  rw [e2]
  exact h3
theorem own_N9' {w : World} {base g cap n : Nat} {l : List M.Nt} (hn : l.length = n) (h : w.ownsRow base 43 9 (.slice (some ⟨g, 0, none⟩) n cap) n (ntL l)) {k : Nat} {x : M.Nt} (hx : l[k]? = some x) : N9 w g (k * 9) x := by
  subst hn; exact own_N9 h hx
end Go.Proofs.YtaohahahhjkcdaeGreatDoor.G

/- The law ScoreBars: parts of a row of bars; a voice alone; notes shifted in a row of one's own; append(a, b...) of notes. -/
namespace Go.Proofs.YtaohahahhjkcdaeGreatDoor.G
open Go.RowKit Go.Maps
set_option linter.unusedVariables false
set_option linter.unusedSimpArgs false

theorem BL.take {w : World} {B : Nat} {ao : Option Addr} {n k : Nat} {up dn : Nat → Int} {t : Nat → M.It} (h : BL w B ao n up dn t) (hk : k ≤ n) : BL w B ao k up dn t := ⟨fun hn => by
  obtain ⟨b, off, h1, h2, h3⟩ := h.at' (by omega)
  exact ⟨b, off, h1, h2, fun j hj => h3 j (by omega)⟩⟩
theorem BL.drop {w : World} {B : Nat} {ao : Option Addr} {n k : Nat} {up dn : Nat → Int} {t : Nat → M.It} (h : BL w B ao n up dn t) (hk : k ≤ n) (c : Nat) (hc : n ≤ c) : BL w B (if c = k then ao else ao.map (fun a => a.add (k * 3))) (n - k) (fun m => up (k + m)) (fun m => dn (k + m)) (fun m => t (k + m)) := ⟨fun hn => by
  obtain ⟨b, off, rfl, h2, h3⟩ := h.at' (by omega)
  refine ⟨b, off + k * 3, ?_, h2, fun j hj => ?_⟩
  · rw [if_neg (by omega)]
    simp only [Option.map_some, Option.some.injEq]
    unfold Addr.add
    by_cases h : k * 3 = 0 <;> simp [h]
  · obtain ⟨ia, ic, r⟩ := h3 (k + j) (by omega)
    rw [show off + (k + j) * 3 = off + k * 3 + j * 3 by omega] at r
    exact ⟨ia, ic, r⟩⟩
theorem VL.one {w : World} {C g : Nat} {s : ByteArray} {ba : Option Addr} {n bc : Nat} {up dn : Nat → Int} {t : Nat → M.It} (c0 : w.cell? ⟨g, 0, none⟩ = some (.string s)) (c1 : w.cell? ⟨g, 1, none⟩ = some (.slice ba n bc)) (h1 : n ≤ bc) (h2 : bc ≤ 9223372036854775807) (hb : BL w C ba n up dn t) (hg : g < C) :
    VL w C (some ⟨g, 0, none⟩) 1 (fun _ => s) (fun _ => n) (fun _ => up) (fun _ => dn) (fun _ => t) := ⟨fun _ => ⟨g, 0, rfl, hg, fun i hi => by
  obtain rfl : i = 0 := by omega
  exact ⟨ba, bc, c0, c1, h1, h2, hb⟩⟩⟩
/-- The first k notes later by B, the others not. -/
def sfL (B : Int × Int) (ns : List M.Nt) (k : Nat) : List M.Nt := (ns.take k).map (M.sft B) ++ ns.drop k
theorem sfL_zero (B : Int × Int) (ns : List M.Nt) : sfL B ns 0 = ns := by simp [sfL]
theorem sfL_end (B : Int × Int) (ns : List M.Nt) : sfL B ns ns.length = ns.map (M.sft B) := by simp [sfL]
theorem sfL_len (B : Int × Int) (ns : List M.Nt) (k : Nat) : (sfL B ns k).length = ns.length := by simp [sfL]; omega
theorem sfL_at {B : Int × Int} {ns : List M.Nt} {k : Nat} {x : M.Nt} (hx : ns[k]? = some x) : sfL B ns k = (ns.take k).map (M.sft B) ++ x :: ns.drop (k + 1) ∧ sfL B ns (k + 1) = (ns.take k).map (M.sft B) ++ M.sft B x :: ns.drop (k + 1) ∧ ((ns.take k).map (M.sft B)).length = k := by
  obtain ⟨hk, he⟩ := List.getElem?_eq_some_iff.1 hx
  refine ⟨?_, ?_, by simp; omega⟩
  · unfold sfL; rw [List.drop_eq_getElem_cons hk, he]
  · unfold sfL; rw [List.take_add_one, hx]; simp
theorem sfL_get {B : Int × Int} {ns : List M.Nt} {k : Nat} {x : M.Nt} (hx : ns[k]? = some x) : (sfL B ns k)[k]? = some x := by
  obtain ⟨e1, _, e3⟩ := sfL_at (B := B) hx
  rw [e1, List.getElem?_append_right (by omega), e3, Nat.sub_self]; rfl
/-- Nine cells are stored. -/
theorem set_end (o r : List Value) (n i : Nat) (v : Value) (hn : o.length = n) : (o ++ r).set (n + i) v = o ++ r.set i v := by
  rw [List.set_append_right _ _ (by omega), hn, show n + i - n = i by omega]
theorem sfL_put {w : World} {base g n cap : Nat} {B : Int × Int} {ns : List M.Nt} {k : Nat} {x : M.Nt} (hn : ns.length = n) (ho : w.ownsRow base 43 9 (.slice (some ⟨g, 0, none⟩) n cap) n (ntL (sfL B ns k))) (hx : ns[k]? = some x) :
    (((((((((w.setCell ⟨g, k * 9 + 0, none⟩ (.int .i64 x.vo)).setCell ⟨g, k * 9 + 1, none⟩ (.int .i64 (M.sft B x).st.1)).setCell ⟨g, k * 9 + 2, none⟩ (.int .i64 (M.sft B x).st.2)).setCell ⟨g, k * 9 + 3, none⟩ (.int .i64 x.lg.1)).setCell ⟨g, k * 9 + 4, none⟩ (.int .i64 x.lg.2)).setCell ⟨g, k * 9 + 5, none⟩ (.int .i64 x.pl)).setCell ⟨g, k * 9 + 6, none⟩ (.int .i64 x.pa)).setCell ⟨g, k * 9 + 7, none⟩ (.int .i64 x.po)).setCell ⟨g, k * 9 + 8, none⟩ (.string x.ly)).ownsRow base 43 9 (.slice (some ⟨g, 0, none⟩) n cap) n (ntL (sfL B ns (k + 1))) := by
  obtain ⟨e1, e2, e3⟩ := sfL_at (B := B) hx
  have h0 := (World.ownsRow.stored ho (k * 9 + 0) (.int .i64 x.vo)).1
  have h1 := (World.ownsRow.stored h0 (k * 9 + 1) (.int .i64 (M.sft B x).st.1)).1
  have h2 := (World.ownsRow.stored h1 (k * 9 + 2) (.int .i64 (M.sft B x).st.2)).1
  have h3 := (World.ownsRow.stored h2 (k * 9 + 3) (.int .i64 x.lg.1)).1
  have h4 := (World.ownsRow.stored h3 (k * 9 + 4) (.int .i64 x.lg.2)).1
  have h5 := (World.ownsRow.stored h4 (k * 9 + 5) (.int .i64 x.pl)).1
  have h6 := (World.ownsRow.stored h5 (k * 9 + 6) (.int .i64 x.pa)).1
  have h7 := (World.ownsRow.stored h6 (k * 9 + 7) (.int .i64 x.po)).1
  have h8 := (World.ownsRow.stored h7 (k * 9 + 8) (.string x.ly)).1
  rw [e1, ntL_app] at h8
  rw [e2, ntL_app]
  have hl : (ntL ((ns.take k).map (M.sft B))).length = k * 9 := by rw [ntL_len, e3]
  rw [set_end _ _ _ _ _ hl, set_end _ _ _ _ _ hl, set_end _ _ _ _ _ hl, set_end _ _ _ _ _ hl, set_end _ _ _ _ _ hl, set_end _ _ _ _ _ hl, set_end _ _ _ _ _ hl, set_end _ _ _ _ _ hl, set_end _ _ _ _ _ hl] at h8
  exact h8
theorem ntL_one : ∀ (r : List M.Nt) (u : Value), u ∈ ntL r → u.oneCell' = true
  | [], u, h => by simp [ntL] at h
  | x :: r, u, h => by
    rw [ntL, List.mem_append] at h
    rcases h with h | h
    · simp [ntC] at h; rcases h with rfl | rfl | rfl | rfl | rfl | rfl | rfl | rfl | rfl <;> rfl
    · exact ntL_one r u h
/-- append(a, b...), both rows of one's own. -/
theorem wpList_append_notes {w : World} {ops : Array Oper} {rest : List Oper} {o : Oper} {a : Act} {Q : Exit → Act → World → Prop} (hgd : o.guard = none) (s y : Operand)
    (ho : o.op = .call { callee := .builtin .append, args := #[s, y], argTypes := #[26, 26] })
    (base base' : Nat) (l r : List M.Nt) (v v' : Value) (hs : a.eval s = v) (hown : w.ownsRow base 43 9 v l.length (ntL l)) (hy : a.eval y = v') (hown' : w.ownsRow base' 43 9 v' r.length (ntL r))
    (h63 : l.length + r.length ≤ 134217728) (hbase : base ≤ w.heap.size)
    (h : ∀ v2 w', w'.ownsRow base 43 9 v2 (l ++ r).length (ntL (l ++ r)) → w.grownBy w' v.ownBlock → wpList Tryz.prog ops Q rest (a.put o.dst v2) w') :
    wpList Tryz.prog ops Q (o :: rest) a w := by
  obtain ⟨i, hi, hz, hz1, hz2⟩ := info_parts infoNt
  rcases hown'.2 with ⟨rfl, hr0⟩ | ⟨g, cap, cur, rfl, _, _, _, _, _⟩
  · have hr : r = [] := List.length_eq_zero_iff.1 hr0
    subst hr
    refine wpList_append_own_none hgd s y 26 ho base 43 i 9 Tryz.underlying26 hi v l.length (ntL l) hs hown hy (h v w (by simpa using hown) ⟨rfl, rfl, rfl, Nat.le_refl _, fun _ _ _ => rfl⟩)
  · refine wpList_append_own_at w hgd s y 26 ho base 43 i _ 9 80 Tryz.underlying26 hi hz hz1 hz2 rfl (by omega) v l.length (ntL l) hs hown ⟨g, 0, none⟩ r.length cap (ntL r) hy (ntL_len r) ?_ ?_ (by unfold maxLen; omega) (by omega) hbase (fun v2 w2 k1 k2 _ _ => h v2 w2 (by rw [List.length_append, ntL_app]; exact k1) k2)
    · intro j u hj
      have hjl := (List.getElem?_eq_some_iff.1 hj).1
      rw [ntL_len] at hjl
      have e2 : (⟨g, 0, none⟩ : Addr).add j = ⟨g, j, none⟩ := by unfold Addr.add; by_cases h : j = 0 <;> simp [h]
      rw [e2]
      exact (World.ownsRow.cellAt hown' j (by omega)).trans hj
    · exact fun u hu => ntL_one r u hu
end Go.Proofs.YtaohahahhjkcdaeGreatDoor.G
