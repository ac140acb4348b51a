/- What the program's leastBehind comes to, over a map whatever it holds. -/
import Derived.Test.YtmgkbnlmdhnjnaeU7
namespace Go.Proofs.Ytmgkbnlmdhnjnae.U
open Go.RowKit Go.Maps
set_option linter.unusedVariables false
set_option linter.unusedSimpArgs false

/-- The least key of a state that is in V and in F: if there is one. -/
def LB (V : Int → Bool → Option Int) (F : Int → Bool → Bool) (K : Int) (A O : Bool) : Prop :=
  (O = true ∧ (V K A).isSome = true ∧ F K A = true ∧ ∀ k a, (V k a).isSome = true → F k a = true → K ≤ k) ∨ (O = false ∧ ∀ k a, (V k a).isSome = true → F k a = true → False)
/-- The same, of those that are no longer to come. -/
def LL (V : Int → Bool → Option Int) (F : Int → Bool → Bool) (left : Lit → Bool) (K : Int) (A O : Bool) : Prop :=
  (O = true ∧ (V K A).isSome = true ∧ F K A = true ∧ ∀ k a, (V k a).isSome = true → F k a = true → left (kl k a) = false → K ≤ k) ∨ (O = false ∧ ∀ k a, (V k a).isSome = true → F k a = true → left (kl k a) = true)

theorem heap_set {w : World} {a : Addr} {u : Value} {i : Nat} (h : i ≠ a.block) : (w.setCell a u).heap[i]? = w.heap[i]? := RowKit.Below.heap_setCell _ _ _ _ h
theorem ranges_set {H : Type} {P : Program} {t : TypeId} {R : Value → Option (DataW H × List MemPlace)} {w : World} {b r n : Nat} {D : DataW H} {left : Lit → Bool} {cnt : Nat} (h : w.ranges P t R b r n D left cnt) {a : Addr} {u : Value} (h1 : b ≠ a.block) (h2 : r ≠ a.block) : (w.setCell a u).ranges P t R b r n D left cnt := by
  obtain ⟨es, clock, since, seen, c0, hb', F, hs, hD, hr, rest⟩ := h
  exact ⟨es, clock, since, seen, c0, (heap_set h1).trans hb', F, hs, hD, (heap_set h2).trans hr, rest⟩

theorem gcell {w w' : World} {row : Option Nat} (hg : w.grownBy w' row) {b o : Nat} {v : Value} (hlt : b < w.heap.size) (hne : some b ≠ row) (h : w.cell? ⟨b, o, none⟩ = some v) : w'.cell? ⟨b, o, none⟩ = some v :=
  (World.cell?_of_block (w := w) (w' := w') (a := ⟨b, o, none⟩) (hg.block b hlt hne)).trans h
theorem gfroz {w w' : World} {row : Option Nat} (hg : w.grownBy w' row) {b o : Nat} {v : Bool} (hlt : b < w.heap.size) (hne : some b ≠ row) (h : w.frozen? ⟨b, o, none⟩ = v) : w'.frozen? ⟨b, o, none⟩ = v :=
  (World.frozen?_of_block (w := w) (w' := w') (a := ⟨b, o, none⟩) (hg.block b hlt hne)).trans h
theorem LL.start {V : Int → Bool → Option Int} {F : Int → Bool → Bool} {D : DataW Unit} (hV : ∀ k a c, V k a = some c → 0 ≤ k ∧ k ≤ 127 ∧ 0 ≤ c ∧ c ≤ 1000000000) (hD : ∀ k a, (Lit.int .i64 k).wf = true → Maps.has D (kl k a) = (V k a).isSome ∧ ∀ c zd, V k a = some c → D.atKey (kl k a) zd = .lit (.int .i64 c)) (K : Int) (A : Bool) :
    LL V F (Maps.has D) K A false := Or.inr ⟨rfl, fun k a h _ => by
  obtain ⟨c, hc⟩ := Option.isSome_iff_exists.1 h
  have := hV k a c hc
  rw [(hD k a (wfk (by omega) (by omega))).1]; exact h⟩
theorem LL.fin {V : Int → Bool → Option Int} {F : Int → Bool → Bool} {left : Lit → Bool} {K : Int} {A O : Bool} (h : LL V F left K A O) (hl : ∀ l, left l = false) : LB V F K A O := by
  rcases h with ⟨h1, h2, h3, h4⟩ | ⟨h1, h2⟩
  · exact Or.inl ⟨h1, h2, h3, fun k a x y => h4 k a x y (hl _)⟩
  · exact Or.inr ⟨h1, fun k a x y => by have := h2 k a x y; rw [hl] at this; cases this⟩
theorem strike_same {left : Lit → Bool} {k : Int} {x : Bool} (hw : (Lit.int .i64 k).wf = true) : (left (kl k x) && !(kl k x).sameKey (kl k x)) = false := by
  simp [WideAt.sameKey_self (stLaw.key (keyOf_st k x hw))]
theorem strike_other {left : Lit → Bool} {k k' : Int} {x x' : Bool} (hw : (Lit.int .i64 k).wf = true) (hw' : (Lit.int .i64 k').wf = true) (hne : ¬ (k' = k ∧ x' = x)) : (left (kl k' x') && !(kl k' x').sameKey (kl k x)) = left (kl k' x') := by
  have : (kl k' x').sameKey (kl k x) = false := sameKey_ne (fun h => hne (kl_inj hw' hw h))
  simp [this]
/-- What comes is not one of them, or not less. -/
theorem LL.stay {V : Int → Bool → Option Int} {F : Int → Bool → Bool} {left : Lit → Bool} {K k : Int} {A O x : Bool} (hV : ∀ k a c, V k a = some c → 0 ≤ k ∧ k ≤ 127 ∧ 0 ≤ c ∧ c ≤ 1000000000) (hw : (Lit.int .i64 k).wf = true) (h : LL V F left K A O) (hn : F k x = true → O = true ∧ K ≤ k) : LL V F (fun z => left z && !z.sameKey (kl k x)) K A O := by
  have hwf : ∀ k a, (V k a).isSome = true → (Lit.int .i64 k).wf = true := fun k a h => by
    obtain ⟨c, hc⟩ := Option.isSome_iff_exists.1 h
    have := hV k a c hc
    exact wfk (by omega) (by omega)
  rcases h with ⟨h1, h2, h3, h4⟩ | ⟨h1, h2⟩
  · refine Or.inl ⟨h1, h2, h3, fun k' a' p q hl => ?_⟩
    by_cases e : k' = k ∧ a' = x
    · obtain ⟨rfl, rfl⟩ := e; exact (hn q).2
    · have hl2 : (left (kl k' a') && !(kl k' a').sameKey (kl k x)) = false := hl
      rw [strike_other hw (hwf _ _ p) e] at hl2; exact h4 k' a' p q hl2
  · refine Or.inr ⟨h1, fun k' a' p q => ?_⟩
    by_cases e : k' = k ∧ a' = x
    · obtain ⟨rfl, rfl⟩ := e; have := (hn q).1; rw [h1] at this; cases this
    · show (left (kl k' a') && !(kl k' a').sameKey (kl k x)) = true
      rw [strike_other hw (hwf _ _ p) e]; exact h2 k' a' p q
/-- What comes is the least so far. -/
theorem LL.take {V : Int → Bool → Option Int} {F : Int → Bool → Bool} {left : Lit → Bool} {K k : Int} {A O x : Bool} (hV : ∀ k a c, V k a = some c → 0 ≤ k ∧ k ≤ 127 ∧ 0 ≤ c ∧ c ≤ 1000000000) (hw : (Lit.int .i64 k).wf = true) (h : LL V F left K A O) (hs : (V k x).isSome = true) (hF : F k x = true) (hn : O = false ∨ k < K) : LL V F (fun z => left z && !z.sameKey (kl k x)) k x true := by
  have hwf : ∀ k a, (V k a).isSome = true → (Lit.int .i64 k).wf = true := fun k a h => by
    obtain ⟨c, hc⟩ := Option.isSome_iff_exists.1 h
    have := hV k a c hc
    exact wfk (by omega) (by omega)
  refine Or.inl ⟨rfl, hs, hF, fun k' a' p q hl => ?_⟩
  by_cases e : k' = k ∧ a' = x
  · obtain ⟨rfl, rfl⟩ := e; exact Int.le_refl _
  · replace hl : (left (kl k' a') && !(kl k' a').sameKey (kl k x)) = false := hl
    rw [strike_other hw (hwf _ _ p) e] at hl
    rcases h with ⟨h1, h2, h3, h4⟩ | ⟨h1, h2⟩
    · have h5 := h4 k' a' p q hl
      rcases hn with hn | hn
      · rw [hn] at h1; cases h1
      · omega
    · rw [h2 k' a' p q] at hl; cases hl

/-- A block of two cells, both stored anew. -/
theorem set2 {w : World} {B : Nat} {u v x y : Value} (h0 : w.cell? ⟨B, 0, none⟩ = some u) (h1 : w.cell? ⟨B, 1, none⟩ = some v) :
    ((w.setCell ⟨B, 0, none⟩ x).setCell ⟨B, 1, none⟩ y).cell? ⟨B, 0, none⟩ = some x ∧ ((w.setCell ⟨B, 0, none⟩ x).setCell ⟨B, 1, none⟩ y).cell? ⟨B, 1, none⟩ = some y ∧
    (∀ b o, b ≠ B → ((w.setCell ⟨B, 0, none⟩ x).setCell ⟨B, 1, none⟩ y).cell? ⟨b, o, none⟩ = w.cell? ⟨b, o, none⟩) ∧ (∀ a, ((w.setCell ⟨B, 0, none⟩ x).setCell ⟨B, 1, none⟩ y).frozen? a = w.frozen? a) ∧
    ((w.setCell ⟨B, 0, none⟩ x).setCell ⟨B, 1, none⟩ y).heap.size = w.heap.size := by
  have e0 : (w.setCell ⟨B, 0, none⟩ x).cell? ⟨B, 0, none⟩ = some x := World.cell?_setCell_same _ _ _ h0
  have e1 : (w.setCell ⟨B, 0, none⟩ x).cell? ⟨B, 1, none⟩ = some v := (World.cell?_setCell_other _ _ _ _ (by simp)).trans h1
  refine ⟨(World.cell?_setCell_other _ _ _ _ (by simp)).trans e0, World.cell?_setCell_same _ _ _ e1, fun b o hb => ?_, fun a => by simp, by simp⟩
  exact (World.cell?_setCell_other _ _ _ _ (by intro h; cases h; exact hb rfl)).trans (World.cell?_setCell_other _ _ _ _ (by intro h; cases h; exact hb rfl))

set_option maxRecDepth 100000 in
set_option maxHeartbeats 4000000 in
theorem least_at (r : M.Ru) (ao : Option Addr) (n c i : Nat) (g : Nat → Int) (sb wb : Nat) (pk : Int) (pa : Bool) (w : World) (hs : SR w sb r ao n c g wb) (hc : n ≤ c) (hcm : c ≤ 9223372036854775807)
    (hp0 : -1 ≤ pk) (hpm : pk ≤ 127) (hi : i < n) (hn : n ≤ 64) (hg : ∀ j, j < n → 0 ≤ g j ∧ g j ≤ 127)
    (b m : Nat) (V : Int → Bool → Option Int) (hwb : wb < w.heap.size) (hcell : w.cell? ⟨wb, i, none⟩ = some (.map (some b))) (hmap : MapAt w b m V)
    (hV : ∀ k a c, V k a = some c → 0 ≤ k ∧ k ≤ 127 ∧ 0 ≤ c ∧ c ≤ 1000000000) :
    Calls Try.prog 43 #[.pointer (some ⟨sb, 0, none⟩), .int .i64 (i : Int), .agg #[.int .i64 pk, .bool pa]] w fun e w' => (∃ K A O, e = .returned (.tuple #[.agg #[.int .i64 K, .bool A], .bool O]) ∧ LB V (M.fo r g i pk pa) K A O) ∧ Below w.heap.size w w' := by
  have h6 := hs.c6
  have hl := hs.lt
  obtain ⟨D, hown, hD⟩ := hmap
  have hbl := hown.lt
  have HF := fun k a w hs h0 hm => follows_any r ao n c i g sb wb pk pa k a w hs hc hcm h0 hm hp0 hpm hi hn hg
  generalize hFO : M.fo r g i pk pa = FO at *
  clear hFO
  go_enter Try.func43, Try.ntmps43
  go_wp2_with (first
    | (at_range; refine wpList_range_own _ rfl _ 76 rfl 55 3 stLaw Try.underlying76 _ b m _ rfl ((hown.alloc _).alloc _) ?_; intro w0 hrg0 hg0 hs0)
    | go_in)
  go_frame
  have e1 : ((w.alloc (.cells #[.int .i64 pk, .bool pa] 55)).alloc (.cells #[.int .i64 0, .bool false] 55)).heap.size = w.heap.size + 2 := by simp
  rw [e1] at hrg0 hs0 ⊢
  have hb0 : Below w.heap.size w w0 := (((Below.refl _ _).alloc (Nat.le_refl _) _).alloc (by simp) _).grown hg0 (by simp; omega) (fun j hj => by cases hj)
  have x0 : w0.cell? ⟨w.heap.size, 0, none⟩ = some (.int .i64 pk) := gcell hg0 (by simp; omega) (by simp) (by simp [go_sem])
  have x1 : w0.cell? ⟨w.heap.size, 1, none⟩ = some (.bool pa) := gcell hg0 (by simp; omega) (by simp) (by simp [go_sem])
  have x2 : w0.cell? ⟨w.heap.size + 1, 0, none⟩ = some (.int .i64 0) := gcell hg0 (by simp) (by simp) (by simp [go_sem])
  have x3 : w0.cell? ⟨w.heap.size + 1, 1, none⟩ = some (.bool false) := gcell hg0 (by simp) (by simp) (by simp [go_sem])
  have f2 : w0.frozen? ⟨w.heap.size + 1, 0, none⟩ = false := gfroz hg0 (by simp) (by simp) (by simp [go_sem])
  have f3 : w0.frozen? ⟨w.heap.size + 1, 1, none⟩ = false := gfroz hg0 (by simp) (by simp) (by simp [go_sem])
  clear hg0 e1 hown
  go_loopw [7] (fun s wr => ∃ (left : Lit → Bool) (cnt : Nat) (K : Int) (A O : Bool), wr.ranges Try.prog 55 (plainElem Try.prog 3) b (w.heap.size + 2) m D left cnt ∧ (∀ l, left l = true → Maps.has D l = true) ∧ s = .bool O ∧ Hid (LL V FO left K A O) ∧ Below w.heap.size w wr ∧
      wr.cell? ⟨w.heap.size, 0, none⟩ = some (.int .i64 pk) ∧ wr.cell? ⟨w.heap.size, 1, none⟩ = some (.bool pa) ∧ wr.cell? ⟨w.heap.size + 1, 0, none⟩ = some (.int .i64 K) ∧ wr.cell? ⟨w.heap.size + 1, 1, none⟩ = some (.bool A) ∧ wr.frozen? ⟨w.heap.size + 1, 0, none⟩ = false ∧ wr.frozen? ⟨w.heap.size + 1, 1, none⟩ = false)
    (fun _ wr => wr.rangeLeft b (w.heap.size + 2))
  case atStart => exact ⟨_, _, 0, false, false, hrg0, fun l h => h, rfl, LL.start hV hD 0 false, hb0, x0, x1, x2, x3, f2, f3⟩
  case round =>
    obtain ⟨left, cnt, K, A, O, hrg, hle, rfl, hLL, hbr, z0, z1, z2, z3, g2, g3⟩ := hrel
    have zr := hbr.size
    have hrl := hrg.lt
    go_wp2_with (first
      | (at_next; refine next_st _ rfl _ rfl b (w.heap.size + 2) m _ _ _ rfl hrg ?_ ?_)
      | go_in)
    · intro hc0 hl0
      have hfin : Hid (LB V FO K A O) := hLL.out.fin hl0
      clear HF hLL hle hD
      have s1 : w.heap.size + 1 < wr.heap.size := by omega
      obtain ⟨W3, hW3⟩ : ∃ x, x = (wr.setCell ⟨w.heap.size + 1, 0, none⟩ (.int .i64 K)).setCell ⟨w.heap.size + 1, 1, none⟩ (.bool A) := ⟨_, rfl⟩
      obtain ⟨t0, t1, _, _, _⟩ := set2 (x := .int .i64 K) (y := .bool A) z2 z3
      rw [← hW3] at t0 t1
      have hb3 : Below w.heap.size w W3 := by rw [hW3]; exact (hbr.setCell (by simp) _).setCell (by simp) _
      go_wp2_with fail
      rw [← hW3]
      clear hW3
      refine bodyPost_ret (v := .tuple #[.agg #[.int .i64 K, .bool A], .bool O]) (by simp [results, Try.results43, go_sem, t0, t1]) rfl ⟨⟨K, A, O, rfl, hfin.out⟩, hb3⟩
    · intro xx cc w1 cnt1 hwx hwc hlx hat hrg1 hlt hg1 hs1 hen
      obtain ⟨k, x⟩ := xx
      simp only at hwx hlx hat hrg1 hen ⊢
      have hsome : (V k x).isSome = true := by rw [← (hD k x hwx).1]; exact hle _ hlx
      obtain ⟨cv, hcv⟩ := Option.isSome_iff_exists.1 hsome
      obtain ⟨b0, b1, b2, b3⟩ := hV k x cv hcv
      have hb1 : Below w.heap.size w w1 := hbr.grown hg1 hbr.size (fun j hj => by cases hj; omega)
      have hq : ∀ j, j < w.heap.size + 2 → some j ≠ some (w.heap.size + 2) := fun j hj h => by have := Option.some.inj h; omega
      have u0 := gcell hg1 (by omega) (hq _ (by omega)) z0
      have u1 := gcell hg1 (by omega) (hq _ (by omega)) z1
      have u2 := gcell hg1 (by omega) (hq _ (by omega)) z2
      have u3 := gcell hg1 (by omega) (hq _ (by omega)) z3
      have i2 := gfroz hg1 (by omega) (hq _ (by omega)) g2
      have i3 := gfroz hg1 (by omega) (hq _ (by omega)) g3
      have s1 : w.heap.size + 1 < w1.heap.size := by omega
      have s0 : w.heap.size < w1.heap.size := by omega
      have hsr := hs.step hb1
      have HT : Hid (FO k x = true → (O = false ∨ k < K) → LL V FO (fun z => left z && !z.sameKey (kl k x)) k x true) := fun h1 h2 => hLL.out.take hV hwx hsome h1 h2
      have HS : Hid ((FO k x = true → O = true ∧ K ≤ k) → LL V FO (fun z => left z && !z.sameKey (kl k x)) K A O) := fun h => hLL.out.stay hV hwx h
      clear hs1 hD hcv hsome hat hlx z0 z1 z2 z3 g2 g3 hq hLL
      have HF1 := fun w hs => HF k x w hs b0 b1
      clear HF
      go_wp2_with fail
      refine (HF1 _ (hsr.step (by go_grown))).mono ?_
      rintro e w2 ⟨rfl, hb2⟩
      have k2 : Below w1.heap.size w1 w2 := ((Below.refl _ _).alloc (Nat.le_refl _) _).trans (hb2.mono (by simp))
      have y0 := keepC hb2 (by simp) (show (w1.alloc (.cells #[.int .i64 k, .bool x] 55)).cell? ⟨w1.heap.size, 0, none⟩ = some (.int .i64 k) by simp [go_sem])
      have y1 := keepC hb2 (by simp) (show (w1.alloc (.cells #[.int .i64 k, .bool x] 55)).cell? ⟨w1.heap.size, 1, none⟩ = some (.bool x) by simp [go_sem])
      have hb2w : Below w.heap.size w w2 := hb1.trans (k2.mono (by omega))
      have hrg2 := ranges_step hrg1 k2
      have v0 := keepC k2 s0 u0
      have v1 := keepC k2 s0 u1
      have v2 := keepC k2 s1 u2
      have v3 := keepC k2 s1 u3
      have j2 := keepF k2 s1 i2
      have j3 := keepF k2 s1 i3
      have s2 := k2.size
      clear hb2 k2 hrg1 u0 u1 u2 u3 i2 i3 HF1 hsr hb1 hen
      cases hfo : FO k x
      · have hN2 : Hid (LL V FO (fun z => left z && !z.sameKey (kl k x)) K A O) := HS.out (fun h => by rw [hfo] at h; cases h)
        clear HS HT hfo
        go_wp2_with fail
        go_roundw
        case rel => exact ⟨_, cnt1, K, A, O, hrg2, fun l h => hle l (by simp at h; exact h.1), rfl, hN2, hb2w, v0, v1, v2, v3, j2, j3⟩
        case measure => rw [hrg2.left_eq, hrg.left_eq]; exact hlt
      · cases O
        · have hN2 : Hid (LL V FO (fun z => left z && !z.sameKey (kl k x)) k x true) := HT.out hfo (Or.inl rfl)
          clear HS HT hfo
          obtain ⟨t0, t1, t2, t3, t4⟩ := set2 (x := .int .i64 k) (y := .bool x) v2 v3
          have hrg3 : ((w2.setCell ⟨w.heap.size + 1, 0, none⟩ (.int .i64 k)).setCell ⟨w.heap.size + 1, 1, none⟩ (.bool x)).ranges Try.prog 55 (plainElem Try.prog 3) b (w.heap.size + 2) m D (fun z => left z && !z.sameKey (kl k x)) cnt1 := ranges_set (ranges_set hrg2 (by simp; omega) (by simp)) (by simp; omega) (by simp)
          have hb3 : Below w.heap.size w ((w2.setCell ⟨w.heap.size + 1, 0, none⟩ (.int .i64 k)).setCell ⟨w.heap.size + 1, 1, none⟩ (.bool x)) := (hb2w.setCell (by simp) _).setCell (by simp) _
          go_wp2_with fail
          go_roundw
          case rel => exact ⟨_, cnt1, k, x, true, hrg3, fun l h => hle l (by simp at h; exact h.1), rfl, hN2, hb3, (t2 _ _ (by omega)).trans v0, (t2 _ _ (by omega)).trans v1, t0, t1, (t3 _).trans j2, (t3 _).trans j3⟩
          case measure => rw [hrg3.left_eq, hrg.left_eq]; exact hlt
        · by_cases hkK : k < K
          · have hN2 : Hid (LL V FO (fun z => left z && !z.sameKey (kl k x)) k x true) := HT.out hfo (Or.inr hkK)
            clear HS HT hfo
            obtain ⟨t0, t1, t2, t3, t4⟩ := set2 (x := .int .i64 k) (y := .bool x) v2 v3
            have hrg3 : ((w2.setCell ⟨w.heap.size + 1, 0, none⟩ (.int .i64 k)).setCell ⟨w.heap.size + 1, 1, none⟩ (.bool x)).ranges Try.prog 55 (plainElem Try.prog 3) b (w.heap.size + 2) m D (fun z => left z && !z.sameKey (kl k x)) cnt1 := ranges_set (ranges_set hrg2 (by simp; omega) (by simp)) (by simp; omega) (by simp)
            have hb3 : Below w.heap.size w ((w2.setCell ⟨w.heap.size + 1, 0, none⟩ (.int .i64 k)).setCell ⟨w.heap.size + 1, 1, none⟩ (.bool x)) := (hb2w.setCell (by simp) _).setCell (by simp) _
            go_wp2_with fail
            go_roundw
            case rel => exact ⟨_, cnt1, k, x, true, hrg3, fun l h => hle l (by simp at h; exact h.1), rfl, hN2, hb3, (t2 _ _ (by omega)).trans v0, (t2 _ _ (by omega)).trans v1, t0, t1, (t3 _).trans j2, (t3 _).trans j3⟩
            case measure => rw [hrg3.left_eq, hrg.left_eq]; exact hlt
          · have hN2 : Hid (LL V FO (fun z => left z && !z.sameKey (kl k x)) K A true) := HS.out (fun _ => ⟨rfl, by omega⟩)
            clear HS HT hfo
            go_wp2_with fail
            go_roundw
            case rel => exact ⟨_, cnt1, K, A, true, hrg2, fun l h => hle l (by simp at h; exact h.1), rfl, hN2, hb2w, v0, v1, v2, v3, j2, j3⟩
            case measure => rw [hrg2.left_eq, hrg.left_eq]; exact hlt
end Go.Proofs.Ytmgkbnlmdhnjnae.U
