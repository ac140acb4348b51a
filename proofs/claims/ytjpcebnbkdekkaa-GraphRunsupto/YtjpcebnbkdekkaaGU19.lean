/- The closure that looks for an order. -/
import Derived.Test.YtjpcebnbkdekkaaGU18
import Derived.Test.YtjpcebnbkdekkaaGU7
namespace Go.Proofs.Ytjpcebnbkdekkaa.Gh
open Go.RowKit Go.Maps Go.Sort Fl
set_option linter.unusedVariables false
set_option linter.unusedSimpArgs false

/-- Where the search keeps what it knows. -/
structure Dc (w1 : World) (g : Gr) (F : Nat → Prop) (O : Nat → Nat → Prop) (V : Hist) (no : Option Addr) (nc nB pB sB oB sr : Nat) : Prop where
  cs : w1.cell? ⟨sB, 0, none⟩ = some (.slice (some ⟨sr, 0, none⟩) g.nodes.length g.nodes.length)
  cp : w1.cell? ⟨pB, 0, none⟩ = some (.func (.func 38) #[] #[pt sB, pt pB, pt nB, pt oB])
  cn : w1.cell? ⟨nB, 0, none⟩ = some (.slice no g.nodes.length nc)
  nl : g.nodes.length ≤ nc
  ns : sB ≠ sr ∧ sB ≠ oB
  np : pB ≠ sr ∧ pB ≠ oB
  nn : nB ≠ sr ∧ nB ≠ oB
  so : sr ≠ oB
  nr : NR w1 F O V (fun _ => 0) g.nodes no
  F1 : ∀ b, F b → b ≠ sr ∧ b ≠ oB ∧ b < w1.heap.size
  O1 : ∀ i b, O i b → b ≠ sr ∧ b ≠ oB ∧ b < w1.heap.size
  N : g.nodes.length ≤ 256
  Wn : ∀ d ∈ g.nodes, ∀ k ∈ d.frm, 0 ≤ k ∧ k < g.nodes.length
def Mo (sr oB b : Nat) : Prop := b = sr ∨ b = oB
/-- What it knows. -/
structure DS (w1 : World) (N oB sr : Nat) (seen : Nat → Nat) (out : List Nat) (ww : World) : Prop where
  r : ww.rowIs sr 3 N (fun i => .int .i64 (seen i : Nat))
  o : ∃ vo, ww.cell? ⟨oB, 0, none⟩ = some vo ∧ ww.ownsRow w1.heap.size 3 1 vo out.length (ils (out.map Int.ofNat))
  fz : ww.frozen? ⟨oB, 0, none⟩ = false
  k : Kx (Mo sr oB) w1 ww
  z : sr < w1.heap.size ∧ oB < w1.heap.size
theorem DS.bel {w1 ww w' : World} {N oB sr : Nat} {seen : Nat → Nat} {out : List Nat} (h : DS w1 N oB sr seen out ww) (hb : Below ww.heap.size ww w') : DS w1 N oB sr seen out w' := by
  obtain ⟨vo, o1, o2⟩ := h.o
  have hz := h.k.size
  have h1 := h.z
  exact ⟨World.rowIs.of_block h.r (hb.block _ (World.rowIs.lt h.r)), ⟨vo, Fi.keepC hb (lt_cell o1) o1, Fi.own_step o2 (fun q hq => hb.block q (Fi.own_lt o2 q hq))⟩, (World.frozen?_of_block (w := ww) (w' := w') (a := ⟨oB, 0, none⟩) (hb.block _ (lt_cell o1))).trans h.fz, h.k.trans (Kx.bel hb), h.z⟩
/-- One is begun, or done. -/
theorem DS.mark {w1 ww : World} {N oB sr x v : Nat} {seen : Nat → Nat} {out : List Nat} (h : DS w1 N oB sr seen out ww) (hne : sr ≠ oB) : DS w1 N oB sr (ups seen x v) out (ww.setCell ⟨sr, x, none⟩ (.int .i64 ((v : Nat) : Int))) := by
  obtain ⟨vo, o1, o2⟩ := h.o
  refine ⟨World.rowIs.congr (World.rowIs.set h.r x _) (fun i _ => ?_), ⟨vo, ?_, Fi.own_step o2 (fun q hq => Below.heap_setCell _ _ _ _ (fun e => ?_))⟩, by rw [World.frozen?_setCell]; exact h.fz, h.k.trans (Kx.put (.inl rfl)), h.z⟩
  · unfold ups
    by_cases e : i = x
    · rw [if_pos e, if_pos e]
    · rw [if_neg e, if_neg e]
  · exact (World.cell?_setCell_other _ _ _ _ (fun e => hne (congrArg Addr.block e))).trans o1
  · have := Fi.own_block o2 q hq
    have := h.z.1
    have e' : q = sr := e
    omega
/-- What the closure answers. -/
def PuQ (w1 : World) (g : Gr) (oB sr : Nat) (seen : Nat → Nat) (st : List Nat) (l : List Int) (e : Ending) (w' : World) : Prop :=
  (e = .returned (.bool true) ∧ ∃ seen' out', DS w1 g.nodes.length oB sr seen' out' w' ∧ DI g seen' out' st ∧ (∀ x ∈ l, seen' x.toNat = 2) ∧ (∀ i, seen i ≠ 0 → seen' i ≠ 0) ∧ ∀ i, i < g.nodes.length → seen i = 2 → seen' i = 2) ∨
  (e = .returned (.bool false) ∧ Cyc g ∧ Kx (Mo sr oB) w1 w')
theorem ZL.keep2 {w w' : World} {S : Nat → Prop} {ao : Option Addr} {l : List Int} (h : ZL w S ao l) (hk : ∀ b, S b → w'.heap[b]? = w.heap[b]?) (hz : ∀ b, S b → b < w'.heap.size) : ZL w' S ao l := ⟨fun hn => by
  obtain ⟨b, off, h1, h2, h3, h4⟩ := h.at' hn
  exact ⟨b, off, h1, hz b h3, h3, fun j x hj => (World.cell?_of_block (w := w) (w' := w') (a := ⟨b, off + j, none⟩) (hk b h3)).trans (h4 j x hj)⟩⟩
/-- Those to whom the topmost begun one listens, or one alone. -/
def Lo (g : Gr) (st : List Nat) (x : Nat) : Prop := st = [] ∨ ∃ a l, st = a :: l ∧ Eg g a x
/-- One more is put. -/
theorem DS.push {w1 ww W w7 : World} {N oB sr x : Nat} {seen : Nat → Nat} {out : List Nat} {vo v' : Value} (h : DS w1 N oB sr seen out ww) (ho : ww.cell? ⟨oB, 0, none⟩ = some vo) (hw : ww.ownsRow w1.heap.size 3 1 vo out.length (ils (out.map Int.ofNat))) (hb : Below ww.heap.size ww W) (hg : Fi.Gw W w7 vo v') (h7 : w7.ownsRow w1.heap.size 3 1 v' (out.length + 1) (ils (out.map Int.ofNat) ++ [.int .i64 (x : Nat)])) (hne : sr ≠ oB) : DS w1 N oB sr seen (out ++ [x]) (w7.setCell ⟨oB, 0, none⟩ v') := by
  have z1 := h.z
  have zk := h.k.size
  have zb := hb.size
  have zg := hg.gr.size
  have hkp : ∀ b, b < w1.heap.size → w7.heap[b]? = ww.heap[b]? := fun b hb' => by
    rw [hg.gr.block b (by omega) (fun q => by have := Fi.own_block hw b q.symm; omega), hb.block b (by omega)]
  have hkx : Kx (Mo sr oB) w1 w7 := ⟨hg.gr.os.trans (hb.os.trans h.k.os), hg.gr.tape.trans (hb.tape.trans h.k.tape), hg.gr.output.trans (hb.output.trans h.k.output), by omega, fun b hb' hm => (hkp b hb').trans (h.k.block b hb' hm)⟩
  refine ⟨World.rowIs.setOther (World.rowIs.of_block h.r (hkp sr z1.1)) hne _, ⟨v', ?_, ?_⟩, ?_, hkx.trans (Kx.put (.inr rfl)), z1⟩
  · refine World.cell?_setCell_same _ _ _ (u := vo) ?_
    exact (World.cell?_of_block (w := ww) (w' := w7) (a := ⟨oB, 0, none⟩) (hkp oB z1.2)).trans ho
  · have h8 : w7.ownsRow w1.heap.size 3 1 v' (out ++ [x]).length (ils ((out ++ [x]).map Int.ofNat)) := by
      rw [List.length_append, List.map_append]
      unfold ils at h7 ⊢
      rw [List.map_append]
      exact h7
    exact Fi.own_step h8 (fun q hq => Below.heap_setCell _ _ _ _ (fun e => by
      have := Fi.own_block h8 q hq
      have e' : q = oB := e
      omega))
  · rw [World.frozen?_setCell]
    exact (World.frozen?_of_block (w := ww) (w' := w7) (a := ⟨oB, 0, none⟩) (hkp oB z1.2)).trans h.fz
theorem now_list {w : World} {F O : Nat → Prop} {V : Hist} {T i : Nat} {d : Nd} {ev v : Value} (h : NodeL w F O V T i d ev v) : ∃ ao c, nowV d ev = .slice ao (now d).length c ∧ (now d).length ≤ c ∧ c ≤ 9223372036854775807 ∧ ZL w F ao (now d) := by
  unfold nowV now
  by_cases hk : d.kind = 6
  · rw [if_pos hk, if_pos hk]
    exact ⟨none, 0, rfl, Nat.le_refl _, by omega, ⟨fun h => absurd h (by simp)⟩⟩
  · rw [if_neg hk, if_neg hk]
    obtain ⟨eo, ec, h1, h2, h3, h4⟩ := h.e.ex
    exact ⟨eo, ec, h1, h2, h3, h4⟩
set_option maxRecDepth 8000 in
set_option maxHeartbeats 8000000 in
theorem put_any (g : Gr) (F : Nat → Prop) (O : Nat → Nat → Prop) (V : Hist) (no : Option Addr) (nc nB pB sB oB sr : Nat) (w1 : World) (hD : Dc w1 g F O V no nc nB pB sB oB sr) : ∀ (u : Nat) (l : List Int) (seen : Nat → Nat) (out st : List Nat) (S : Nat → Prop) (ao : Option Addr) (m c : Nat) (w : World),
    cnt g.nodes.length seen ≤ u → DS w1 g.nodes.length oB sr seen out w → DI g seen out st → ZL w S ao l → l.length = m → m ≤ c → c ≤ 9223372036854775807 → ((∀ b, S b → b < w1.heap.size ∧ b ≠ sr ∧ b ≠ oB) ∨ m ≤ 1) → (∀ x ∈ l, 0 ≤ x ∧ x < g.nodes.length ∧ Lo g st x.toNat) →
    Calls Try.prog 38 #[.slice ao m c, pt sB, pt pB, pt nB, pt oB] w fun e w' => PuQ w1 g oB sr seen st l e w' := by
  intro u
  induction u using Nat.strongRecOn with
  | ind u ih =>
    intro l seen out st S ao m c w hc0 hS hI hZ hl hmc hcm hSt hx
    obtain ⟨N, hN⟩ : ∃ N, N = g.nodes.length := ⟨_, rfl⟩
    have hcs := hD.cs
    have hcp := hD.cp
    have hcn := hD.cn
    have hnl := hD.nl
    have hN256 := hD.N
    rw [← hN] at hcs hcn hnl hN256
    have HD : Hid (Dc w1 g F O V no nc nB pB sB oB sr) := hD
    have HN : Hid (N = g.nodes.length) := hN
    have Hl : Hid (l.length = m) := hl
    have Hx : Hid (∀ x ∈ l, 0 ≤ x ∧ x < g.nodes.length ∧ Lo g st x.toNat) := hx
    have HSt : Hid ((∀ b, S b → b < w1.heap.size ∧ b ≠ sr ∧ b ≠ oB) ∨ m ≤ 1) := hSt
    have Hih := ih
    have hns : ¬ Mo sr oB sB := fun q => q.elim hD.ns.1 hD.ns.2
    have hnp : ¬ Mo sr oB pB := fun q => q.elim hD.np.1 hD.np.2
    have hnn : ¬ Mo sr oB nB := fun q => q.elim hD.nn.1 hD.nn.2
    have ls := lt_cell hcs
    have lp := lt_cell hcp
    have ln := lt_cell hcn
    have HP0 : Hid (∃ seen' out', DS w1 g.nodes.length oB sr seen' out' w ∧ DI g seen' out' st ∧ (∀ (i : Nat) x, i < 0 → l[i]? = some x → seen' x.toNat = 2) ∧ (∀ i, seen i ≠ 0 → seen' i ≠ 0) ∧ (∀ i, i < g.nodes.length → seen i = 2 → seen' i = 2) ∧ (0 < m → ZL w S ao l)) := ⟨seen, out, hS, hI, fun i x h => absurd h (by omega), fun _ h => h, fun _ _ h => h, fun _ => hZ⟩
    have Hc0 : Hid (cnt g.nodes.length seen ≤ u) := hc0
    clear hD hN hl hx hSt hS hI hZ hc0 ih
    have Hih' : Hid (∀ (u' : Nat), u' < u → ∀ (l : List Int) (seen : Nat → Nat) (out st : List Nat) (S : Nat → Prop) (ao : Option Addr) (m c : Nat) (w : World), cnt g.nodes.length seen ≤ u' → DS w1 g.nodes.length oB sr seen out w → DI g seen out st → ZL w S ao l → l.length = m → m ≤ c → c ≤ 9223372036854775807 → ((∀ b, S b → b < w1.heap.size ∧ b ≠ sr ∧ b ≠ oB) ∨ m ≤ 1) → (∀ x ∈ l, 0 ≤ x ∧ x < g.nodes.length ∧ Lo g st x.toNat) → Calls Try.prog 38 #[.slice ao m c, pt sB, pt pB, pt nB, pt oB] w fun e w' => PuQ w1 g oB sr seen st l e w') := Hih
    clear Hih
    go_enter Try.func38, Try.ntmps38
    go_wp2_with fail
    go_loopw [11] (fun i ww => ∃ j : Nat, j ≤ m ∧ i = .int .i64 j ∧ Hid (∃ seen' out', DS w1 g.nodes.length oB sr seen' out' ww ∧ DI g seen' out' st ∧ (∀ (i : Nat) x, i < j → l[i]? = some x → seen' x.toNat = 2) ∧ (∀ i, seen i ≠ 0 → seen' i ≠ 0) ∧ (∀ i, i < g.nodes.length → seen i = 2 → seen' i = 2) ∧ (j < m → ZL ww S ao l))) (fun i _ => m - (intOf i).toNat)
    case atStart => exact ⟨0, by omega, rfl, HP0⟩
    case round =>
      obtain ⟨j, hj, rfl, hE⟩ := hrel
      obtain ⟨sn, ou, a1, a2, a3, a4, a5, a6⟩ := hE.out
      by_cases hlt : j < m
      · obtain ⟨y, hy⟩ : ∃ y, l[j]? = some y := ⟨_, List.getElem?_eq_getElem (by rw [Hl.out]; exact hlt)⟩
        obtain ⟨y0, y1, y2⟩ := Hx.out y (List.mem_of_getElem? hy)
        obtain ⟨i, rfl⟩ : ∃ i : Nat, y = i := ⟨y.toNat, by omega⟩
        rw [Int.toNat_natCast] at y2
        have hiN : i < N := by rw [HN.out]; omega
        have hig : i < g.nodes.length := by omega
        have hZ := a6 hlt
        obtain ⟨b, off, rfl, z1, z2, z3⟩ := hZ.at' (by rw [Hl.out]; omega)
        have v0 := z3 j _ hy
        have v1 := a1.k.cell ls hns hcs
        have v2 := World.rowIs.cell a1.r hig
        have v2f := World.rowIs.frozen a1.r i
        have lv1 := lt_cell v1
        have lsr := World.rowIs.lt a1.r
        have hlt' : (j : Int) < (m : Int) := by omega
        have hiN' : (i : Int) < (N : Int) := by omega
        have w3 : IntKind.i64.wrap ((j : Int) + 1) = (j : Int) + 1 := wid (by omega) (by omega)
        have hsr := a2.r i hig
        have HS : Hid (DS w1 g.nodes.length oB sr sn ou wr ∧ DI g sn ou st ∧ (∀ (i : Nat) x, i < j → l[i]? = some x → sn x.toNat = 2) ∧ (∀ i, seen i ≠ 0 → sn i ≠ 0) ∧ (∀ i, i < g.nodes.length → seen i = 2 → sn i = 2) ∧ ZL wr S (some ⟨b, off, none⟩) l) := ⟨a1, a2, a3, a4, a5, hZ⟩
        have Hy : Hid (l[j]? = some (i : Int) ∧ Lo g st i) := ⟨hy, y2⟩
        obtain ⟨sv', hsv⟩ : ∃ s, s = sn i := ⟨_, rfl⟩
        rw [← hsv] at v2 hsr
        have Hsv : Hid (sv' = sn i) := hsv
        clear hE a1 a2 a3 a4 a5 a6 hZ z3 hy y0 y1 y2 hsv
        rcases (show sv' = 1 ∨ sv' = 2 ∨ sv' = 0 by omega) with h1 | h1 | h1
        · subst h1
          have HC : Hid (Cyc g ∧ Kx (Mo sr oB) w1 wr) := ⟨HS.out.2.1.cyc hig Hsv.out.symm Hy.out.2, HS.out.1.k⟩
          have hcast : ((1 : Nat) : Int) = 1 := rfl
          rw [hcast] at v2
          go_wp2_with fail
          go_ret
          exact .inr ⟨rfl, HC.out.1, HC.out.2⟩
        · subst h1
          have hcast : ((2 : Nat) : Int) = 2 := rfl
          rw [hcast] at v2
          have HN2 : Hid (∃ seen' out', DS w1 g.nodes.length oB sr seen' out' wr ∧ DI g seen' out' st ∧ (∀ (i : Nat) x, i < j + 1 → l[i]? = some x → seen' x.toNat = 2) ∧ (∀ i, seen i ≠ 0 → seen' i ≠ 0) ∧ (∀ i, i < g.nodes.length → seen i = 2 → seen' i = 2) ∧ (j + 1 < m → ZL wr S (some ⟨b, off, none⟩) l)) := by
            obtain ⟨a1, a2, a3, a4, a5, a6⟩ := HS.out
            refine ⟨sn, ou, a1, a2, fun q x hq hx => ?_, a4, a5, fun _ => a6⟩
            by_cases e : q = j
            · subst e
              rw [Hy.out.1] at hx
              cases hx
              rw [Int.toNat_natCast]; exact Hsv.out.symm
            · exact a3 q x (by omega) hx
          go_wp2_with fail
          exact ⟨⟨j + 1, by omega, by go_num, HN2⟩, by simp [intOf]; omega⟩
        · subst h1
          have hcast : ((0 : Nat) : Int) = 0 := rfl
          rw [hcast] at v2
          obtain ⟨nb, ev, v, hno, hFn, hcv, hNd⟩ := HD.out.nr.at' i (nd g i) (get_nd hig)
          subst hno
          have hKx := HS.out.1.k
          obtain ⟨W3, hW3⟩ : ∃ X, X = wr.setCell ⟨sr, i, none⟩ (.int .i64 1) := ⟨_, rfl⟩
          have HS3 : Hid (DS w1 g.nodes.length oB sr (ups sn i 1) ou W3) := by rw [hW3]; exact HS.out.1.mark HD.out.so
          have HI3 : Hid (DI g (ups sn i 1) ou (i :: st)) := HS.out.2.1.begin hig Hsv.out.symm Hy.out.2
          have hK3 := HS3.out.k
          have u1 := hK3.cell lp hnp hcp
          have u2 := hK3.cell ln hnn hcn
          have hFn1 := HD.out.F1 nb hFn
          have u3 := hK3.cell hFn1.2.2 (fun q => q.elim hFn1.1 hFn1.2.1) hcv
          have lu1 := lt_cell u1
          have lu2 := lt_cell u2
          have lu3 := lt_cell u3
          have HNd3 : Hid (NodeL W3 F (O i) V 0 i (nd g i) ev v) := hNd.keep (fun b hb hl => hK3.block b hl (fun q => by
            rcases hb with hb | hb
            · have := HD.out.F1 b hb; exact q.elim this.1 this.2.1
            · have := HD.out.O1 i b hb; exact q.elim this.1 this.2.1)) hK3.size (fun _ h => h)
          obtain ⟨t, uu, rfl⟩ := hNd.iface
          have hnow := fun nq => now_any F (O i) V 0 i (nd g i) ev (.iface t uu) (W3.drewN nq) (HNd3.out.bel belD')
          clear hNd hcv hKx hK3 HP0
          go_wp2_with fail
          rw [show wr.setCell ⟨sr, i, none⟩ (.int .i64 1) = W3 from hW3.symm]
          clear hW3
          go_wp2_with fail
          refine U2.wp_region_tail_read 6 (by decide) (by kernel_rfl) (by kernel_rfl) (by kernel_rfl) (by kernel_rfl) ?_
          dsimp only [List.take, List.drop]
          repeat (quiet_step (exact (hnow _).mono fun _ _ ⟨he, hm⟩ => ⟨he, _, hm⟩))
          refine wpQuiet_nil ?_
          rintro w4 ⟨nq, rfl⟩
          obtain ⟨ao2, c2, hnv, n1, n2, n3⟩ := now_list (HNd3.out.bel (w' := W3.drewN nq) belD')
          obtain ⟨m2, hm2⟩ : ∃ m2, m2 = (now (nd g i)).length := ⟨_, rfl⟩
          rw [← hm2] at hnv n1
          have hmem : nd g i ∈ g.nodes := List.mem_of_getElem? (get_nd hig)
          have hcall := Hih'.out (cnt g.nodes.length (ups sn i 1)) (by
            have h1 := cnt_less g.nodes.length sn i 1 hig Hsv.out.symm (by omega)
            have h2 := cnt_mono g.nodes.length seen sn (fun i _ h => HS.out.2.2.2.1 i h)
            have h3 := Hc0.out
            omega) (now (nd g i)) (ups sn i 1) ou (i :: st) F ao2 m2 c2 (W3.drewN nq) (Nat.le_refl _) (HS3.out.bel belD') HI3.out n3 hm2.symm n1 n2 (.inl (fun b hb => ⟨(HD.out.F1 b hb).2.2, (HD.out.F1 b hb).1, (HD.out.F1 b hb).2.1⟩)) (fun x hx => by
            have hx2 : x ∈ (nd g i).frm := by
              unfold now at hx
              split at hx
              · cases hx
              · exact hx
            have := HD.out.Wn _ hmem x hx2
            exact ⟨this.1, this.2, .inr ⟨i, st, rfl, x, hx, rfl⟩⟩)
          have Hnst : Hid (i ∉ st) := fun q => by have := (HS.out.2.1.s i hig).1 q; have := Hsv.out; omega
          rw [hnv]
          clear hnow u1 u2 u3 lu1 lu2 lu3 n1 n2 n3 hm2 hnv hmem
          go_wp2_with fail
          refine hcall.mono ?_
          intro e w5 hQ
          rcases hQ with ⟨rfl, s2, o2, b1, b2, b3, b4, b5⟩ | ⟨rfl, hcyc, hk5⟩
          · obtain ⟨vo, p1, p2⟩ := b1.o
            have HS6 : Hid (DS w1 g.nodes.length oB sr (ups s2 i 2) o2 (w5.setCell ⟨sr, i, none⟩ (.int .i64 2))) := b1.mark HD.out.so
            have x1 := b1.k.cell ls hns hcs
            have lx1 := lt_cell x1
            have x2 := World.rowIs.cell b1.r hig
            have x2f := World.rowIs.frozen b1.r i
            have lx2 := World.rowIs.lt b1.r
            have HI6 : Hid (DI g (ups s2 i 2) (o2 ++ [i]) st) := b2.done hig Hnst.out (fun k hk => by
              have hk2 : k ∈ (nd g i).frm := by
                unfold now at hk
                split at hk
                · cases hk
                · exact hk
              have hkk := HD.out.Wn _ (List.mem_of_getElem? (get_nd hig)) k hk2
              exact (b2.o k.toNat (by omega)).2 (b3 k hk))
            have HM6 : Hid ((∀ q, seen q ≠ 0 → ups s2 i 2 q ≠ 0) ∧ (∀ q, q < g.nodes.length → seen q = 2 → ups s2 i 2 q = 2) ∧ ∀ q, q < g.nodes.length → sn q = 2 → ups s2 i 2 q = 2) := by
              obtain ⟨a1, a2, a3, a4, a5, a6⟩ := HS.out
              have key : ∀ q, q < g.nodes.length → sn q = 2 → ups s2 i 2 q = 2 := fun q hq hs => by
                unfold ups
                by_cases e : q = i
                · rw [if_pos e]
                · rw [if_neg e]
                  exact b5 q hq (by unfold ups; rw [if_neg e]; exact hs)
              refine ⟨fun q hs => ?_, fun q hq hs => key q hq (a5 q hq hs), key⟩
              unfold ups
              by_cases e : q = i
              · rw [if_pos e]; omega
              · rw [if_neg e]
                exact b4 q (by unfold ups; rw [if_neg e]; exact a4 q hs)
            obtain ⟨sx, hsx⟩ : ∃ s, s = s2 i := ⟨_, rfl⟩
            rw [← hsx] at x2
            have hk2 : o2.length ≤ 256 := by
              have := nodup_le _ o2 b2.nd b2.lt
              have := HN.out
              omega
            obtain ⟨W6, hW6⟩ : ∃ X, X = w5.setCell ⟨sr, i, none⟩ (.int .i64 2) := ⟨_, rfl⟩
            rw [← hW6] at HS6
            clear b1 b2 b3 b4 b5 p1 p2 hcall hsx vo
            obtain ⟨vo, p1, p2⟩ := HS6.out.o
            obtain ⟨k2, hk2e⟩ : ∃ k2, k2 = o2.length := ⟨_, rfl⟩
            have Hk2 : Hid (k2 = o2.length) := hk2e
            rw [← hk2e] at p2 hk2
            obtain ⟨va, vc, rfl, q1, q2⟩ := Fi.own_form p2
            have lo := lt_cell p1
            have p1f := HS6.out.fz
            have hbC : Below W6.heap.size W6 (W6.alloc (Obj.cells #[.int .i64 (i : Int)] 3)) := (Below.refl _ _).alloc (Nat.le_refl _) _
            have hlo := Fi.own_lt p2
            have hbo := Fi.own_block p2
            have HOw : Hid ((W6.alloc (Obj.cells #[.int .i64 (i : Int)] 3)).ownsRow w1.heap.size 3 1 (.slice va k2 vc) k2 (ils (o2.map Int.ofNat))) := Fi.own_step p2 (fun q hq => hbC.block q (hlo q hq))
            have hzk := HS6.out.k.size
            have hbase : w1.heap.size ≤ (W6.alloc (Obj.cells #[.int .i64 (i : Int)] 3)).heap.size := by have := hbC.size; omega
            have HF : Hid (∀ v' w7, w7.ownsRow w1.heap.size 3 1 v' (k2 + 1) (ils (o2.map Int.ofNat) ++ [.int .i64 (i : Int)]) → Fi.Gw (W6.alloc (Obj.cells #[.int .i64 (i : Int)] 3)) w7 (.slice va k2 vc) v' → DS w1 g.nodes.length oB sr (ups s2 i 2) (o2 ++ [i]) (w7.setCell ⟨oB, 0, none⟩ v') ∧ w7.cell? ⟨oB, 0, none⟩ = some (.slice va k2 vc) ∧ w7.frozen? ⟨oB, 0, none⟩ = false) := fun v' w7 o7 g7 => by
              have ho1 := HS6.out.z.2
              have hne : some oB ≠ (Value.slice va k2 vc).ownBlock := fun q => by have := hbo oB q.symm; omega
              refine ⟨HS6.out.push p1 (by rw [← Hk2.out]; exact p2) hbC g7 (by rw [← Hk2.out]; exact o7) HD.out.so, g7.cell (by have := hbC.size; omega) hne (Fi.keepC hbC lo p1), g7.froz (by have := hbC.size; omega) hne ((World.frozen?_of_block (w := W6) (w' := W6.alloc (Obj.cells #[.int .i64 (i : Int)] 3)) (a := ⟨oB, 0, none⟩) (hbC.block oB lo)).trans p1f)⟩
            have HN7 : Hid (∀ w8, DS w1 g.nodes.length oB sr (ups s2 i 2) (o2 ++ [i]) w8 → ∃ seen' out', DS w1 g.nodes.length oB sr seen' out' w8 ∧ DI g seen' out' st ∧ (∀ (q : Nat) x, q < j + 1 → l[q]? = some x → seen' x.toNat = 2) ∧ (∀ q, seen q ≠ 0 → seen' q ≠ 0) ∧ (∀ q, q < g.nodes.length → seen q = 2 → seen' q = 2) ∧ (j + 1 < m → ZL w8 S (some ⟨b, off, none⟩) l)) := fun w8 h8 => by
              obtain ⟨a1, a2, a3, a4, a5, a6⟩ := HS.out
              refine ⟨_, _, h8, HI6.out, fun q x hq hx => ?_, HM6.out.1, HM6.out.2.1, fun hjm => ?_⟩
              · by_cases e : q = j
                · subst e
                  rw [Hy.out.1] at hx
                  cases hx
                  rw [Int.toNat_natCast]; exact if_pos rfl
                · have hxl := Hx.out x (List.mem_of_getElem? hx)
                  exact HM6.out.2.2 _ (by omega) (a3 q x (by omega) hx)
              · rcases HSt.out with hst | hst
                · exact a6.keep2 (fun b hb => by
                    obtain ⟨c1, c2, c3⟩ := hst b hb
                    have hM : ¬ Mo sr oB b := fun q => q.elim c2 c3
                    exact (h8.k.block b c1 hM).trans (a1.k.block b c1 hM).symm) (fun b hb => Nat.lt_of_lt_of_le (hst b hb).1 h8.k.size)
                · omega
            clear HS6 HI6 HM6 p2 hlo hbo hk2e
            go_upto_region 11 with fail
            rw [← hW6]
            clear hW6 x1 x2 x2f lx1 lx2
            go_wp2_with (at_builtin; refine Fi.wpList_append_1 23 3 (.int .i64 0) 8 Try.underlying23 infoZ rfl (by omega) rfl (.tmp 39) (.tmp 41) rfl w1.heap.size _ k2 (ils (o2.map Int.ofNat)) rfl HOw.out W6.heap.size (.int .i64 (i : Int)) rfl (by simp [go_sem]) rfl (by omega) hbase ?a1)
            case a1 =>
              intro v' w7 o7 g7
              obtain ⟨f1, f2, f3⟩ := HF.out v' w7 o7 g7
              have HNx := HN7.out _ f1
              obtain ⟨va', vc', rfl, r1, r2⟩ := Fi.own_form o7
              have HNy : Hid (∃ seen' out', DS w1 g.nodes.length oB sr seen' out' (w7.setCell ⟨oB, 0, none⟩ (.slice va' (k2 + 1) vc')) ∧ DI g seen' out' st ∧ (∀ (q : Nat) x, q < j + 1 → l[q]? = some x → seen' x.toNat = 2) ∧ (∀ q, seen q ≠ 0 → seen' q ≠ 0) ∧ (∀ q, q < g.nodes.length → seen q = 2 → seen' q = 2) ∧ (j + 1 < m → ZL (w7.setCell ⟨oB, 0, none⟩ (.slice va' (k2 + 1) vc')) S (some ⟨b, off, none⟩) l)) := HNx
              have lf := lt_cell f2
              clear o7 g7 f1 HNx HF HN7 HOw
              go_wp2_with fail
              exact ⟨⟨j + 1, by omega, by go_num, HNy⟩, by simp [intOf]; omega⟩
          · have HC : Hid (Cyc g ∧ Kx (Mo sr oB) w1 w5) := ⟨hcyc, hk5⟩
            clear hcyc hk5 hcall
            go_wp2_with fail
            go_ret
            exact .inr ⟨rfl, HC.out.1, HC.out.2⟩
      · obtain rfl : j = m := by omega
        have HE : Hid (PuQ w1 g oB sr seen st l (.returned (.bool true)) wr) := .inl ⟨rfl, sn, ou, a1, a2, fun x hx => by
          obtain ⟨q, hq, e⟩ := List.getElem_of_mem hx
          exact a3 q x (by have := Hl.out; omega) (by rw [List.getElem?_eq_getElem hq, e]), a4, a5⟩
        clear hE a1 a2 a3 a4 a5 a6
        go_wp2_with fail
        go_ret
        exact HE.out
end Go.Proofs.Ytjpcebnbkdekkaa.Gh

/- inOrder. -/
namespace Go.Proofs.Ytjpcebnbkdekkaa.Gh
open Go.RowKit Go.Maps Go.Sort Fl
set_option linter.unusedVariables false
set_option linter.unusedSimpArgs false

/-- What inOrder answers. -/
def InQ (w : World) (g : Gr) (e : Ending) (w' : World) : Prop :=
  (∃ ord oo oc, e = .returned (.tuple #[.slice oo ord.length oc, .bool true]) ∧ Ord g ord ∧ ord.length ≤ oc ∧ oc ≤ 9223372036854775807 ∧ ZL w' (fun b => w.heap.size ≤ b ∧ b < w'.heap.size) oo (ord.map Int.ofNat) ∧ Below w.heap.size w w') ∨
  (e = .returned (.tuple #[.slice none 0 0, .bool false]) ∧ Cyc g ∧ Below w.heap.size w w')
theorem DI.start (g : Gr) : DI g (fun _ => 0) [] [] :=
  ⟨fun _ _ => by omega, fun i _ => by simp, fun i h => by simp at h, List.nodup_nil, fun m i h => by simp at h, fun i _ => by simp, trivial, fun i h => by simp at h⟩
set_option maxRecDepth 8000 in
set_option maxHeartbeats 8000000 in
theorem inOrder_any (g : Gr) (F : Nat → Prop) (O : Nat → Nat → Prop) (V : Hist) (no : Option Addr) (nc : Nat) (w : World) (hR : NR w F O V (fun _ => 0) g.nodes no) (hF : ∀ b, F b → b < w.heap.size) (hO : ∀ i b, O i b → b < w.heap.size) (hN : g.nodes.length ≤ 256) (hnc : g.nodes.length ≤ nc) (hWn : ∀ d ∈ g.nodes, ∀ k ∈ d.frm, 0 ≤ k ∧ k < g.nodes.length) :
    Calls Try.prog 23 #[.slice no g.nodes.length nc] w fun e w' => InQ w g e w' := by
  obtain ⟨N, hNe⟩ : ∃ N, N = g.nodes.length := ⟨_, rfl⟩
  have hN256 : N ≤ 256 := by omega
  have hsf := fun (a : Addr) (c : Array Value) (w : World) => run_store Try.prog w a (.func (.func 38) #[] c) .plain rfl
  have HNe : Hid (N = g.nodes.length) := hNe
  rw [← hNe] at hnc ⊢
  obtain ⟨W2, hW2⟩ : ∃ X, X = (w.alloc (Obj.cells #[.slice no N nc] 67)).alloc (Obj.cells #[.slice none 0 0] 23) := ⟨_, rfl⟩
  have z2 : W2.heap.size = w.heap.size + 2 := by rw [hW2]; simp
  have mk : (Instr.makeSlice 23 (.int .i64 (N : Int)) (.int .i64 (N : Int))).run Try.prog W2 = .ok (.slice (some ⟨W2.heap.size, 0, none⟩) N N) (W2.alloc (.cells (madeCells #[.int .i64 0] N) 3)) := run_make_row' (P := Try.prog) 23 3 (.int .i64 0) 8 Try.underlying23 infoZ rfl .i64 .i64 N (by omega) (by omega) W2
  rw [z2, hW2] at mk
  clear hNe
  go_enter Try.func23, Try.ntmps23
  go_upto_region 4 with (simp only [mk])
  clear mk hW2 z2 W2
  obtain ⟨W5, hW5⟩ : ∃ X, X = ((((w.alloc (Obj.cells #[.slice no N nc] 67)).alloc (Obj.cells #[.slice none 0 0] 23)).alloc (Obj.cells (madeCells #[.int .i64 0] N) 3)).alloc (Obj.cells #[.slice (some ⟨w.heap.size + 2, 0, none⟩) N N] 23)).alloc (Obj.cells #[.nilFunc] 94) := ⟨_, rfl⟩
  rw [← hW5]
  have z5 : W5.heap.size = w.heap.size + 5 := by rw [hW5]; simp
  have hb5 : Below w.heap.size w W5 := by rw [hW5]; exact (((((Below.refl _ _).alloc (Nat.le_refl _) _).alloc (by simp) _).alloc (by simp; omega) _).alloc (by simp; omega) _).alloc (by simp; omega) _
  obtain ⟨oB, hoB⟩ : ∃ x, x = w.heap.size + 1 := ⟨_, rfl⟩
  obtain ⟨sr, hsr⟩ : ∃ x, x = w.heap.size + 2 := ⟨_, rfl⟩
  obtain ⟨sB, hsB⟩ : ∃ x, x = w.heap.size + 1 + 1 + 1 := ⟨_, rfl⟩
  obtain ⟨pB, hpB⟩ : ∃ x, x = w.heap.size + 1 + 1 + 1 + 1 := ⟨_, rfl⟩
  have f0 : W5.cell? ⟨w.heap.size, 0, none⟩ = some (.slice no N nc) := by rw [hW5]; simp [go_sem]
  have f1 : W5.cell? ⟨oB, 0, none⟩ = some (.slice none 0 0) := by rw [hW5, hoB]; simp [go_sem]
  have f1f : W5.frozen? ⟨oB, 0, none⟩ = false := by rw [hW5, hoB]; simp [go_sem]
  have f3 : W5.cell? ⟨sB, 0, none⟩ = some (.slice (some ⟨sr, 0, none⟩) N N) := by rw [hW5, hsB, hsr]; simp [go_sem]
  have f4 : W5.cell? ⟨pB, 0, none⟩ = some .nilFunc := by rw [hW5, hpB]; simp [go_sem]
  have f4f : W5.frozen? ⟨pB, 0, none⟩ = false := by rw [hW5, hpB]; simp [go_sem]
  have f2 : W5.rowIs sr 3 N (fun _ => .int .i64 0) := by
    have h1 := World.rowIs_made ((w.alloc (Obj.cells #[.slice no N nc] 67)).alloc (Obj.cells #[.slice none 0 0] 23)) (.int .i64 0) N 3
    have h2 : ((w.alloc (Obj.cells #[.slice no N nc] 67)).alloc (Obj.cells #[.slice none 0 0] 23)).heap.size = sr := by rw [hsr]; simp
    rw [h2] at h1
    rw [hW5]
    exact World.rowIs.alloc (World.rowIs.alloc h1 _) _
  rw [← hpB, ← hsB, ← hoB, ← hsr]
  obtain ⟨w1, hw1⟩ : ∃ X, X = W5.setCell ⟨pB, 0, none⟩ (.func (.func 38) #[] #[pt sB, pt pB, pt w.heap.size, pt oB]) := ⟨_, rfl⟩
  have zw1 : w1.heap.size = w.heap.size + 5 := by rw [hw1]; simpa [World.setCell] using z5
  have hoth : ∀ b, b ≠ pB → w1.heap[b]? = W5.heap[b]? := fun b hb => by rw [hw1]; exact Below.heap_setCell _ _ _ _ hb
  have hoc : ∀ {b : Nat} {v : Value}, b ≠ pB → W5.cell? ⟨b, 0, none⟩ = some v → w1.cell? ⟨b, 0, none⟩ = some v := fun hb hv => (World.cell?_of_block (w := W5) (w' := w1) (a := ⟨_, 0, none⟩) (hoth _ hb)).trans hv
  have hb1 : Below w.heap.size w w1 := by rw [hw1]; exact hb5.setCell (p := ⟨pB, 0, none⟩) (show w.heap.size ≤ pB by omega) _
  have HDc : Hid (Dc w1 g F O V no nc w.heap.size pB sB oB sr) := by
    refine ⟨?_, ?_, ?_, by rw [← HNe.out]; exact hnc, by omega, by omega, by omega, by omega, hR.keep (fun b _ hl => hb1.block b hl) hb1.size, fun b hb => by have := hF b hb; omega, fun i b hb => by have := hO i b hb; omega, hN, hWn⟩
    · rw [← HNe.out]; exact hoc (by omega) f3
    · rw [hw1]; exact World.cell?_setCell_same _ _ _ f4
    · rw [← HNe.out]; exact hoc (by omega) f0
  have HDS : Hid (DS w1 g.nodes.length oB sr (fun _ => 0) [] w1) := by
    rw [← HNe.out]
    refine ⟨World.rowIs.of_block f2 (hoth sr (by omega)), ⟨.slice none 0 0, hoc (by omega) f1, World.ownsRow_nil _ _ _ _⟩, (World.frozen?_of_block (w := W5) (w' := w1) (a := ⟨oB, 0, none⟩) (hoth oB (by omega))).trans f1f, Kx.refl _ _, by omega⟩
  have HB1 : Hid (Below w.heap.size w w1) := hb1
  have Hz : Hid (w1.heap.size = w.heap.size + 5 ∧ oB = w.heap.size + 1 ∧ sr = w.heap.size + 2 ∧ sB = w.heap.size + 3 ∧ pB = w.heap.size + 4) := ⟨zw1, hoB, hsr, by omega, by omega⟩
  have k0 : w1.cell? ⟨w.heap.size, 0, none⟩ = some (.slice no N nc) := hoc (by omega) f0
  have k4 := HDc.out.cp
  have l0 := lt_cell k0
  have l4 := lt_cell f4
  have hn0 : ¬ Mo sr oB w.heap.size := fun q => q.elim (by omega) (by omega)
  have hn4 : ¬ Mo sr oB pB := fun q => q.elim (by omega) (by omega)
  clear hW5 hoth hoc hb1 f0 f1 f1f f2 f3 hR hF hO hWn hb5 hpB hsB hoB hsr z5 zw1
  go_upto_region 5 with (simp only [hsf])
  rw [show W5.setCell ⟨pB, 0, none⟩ (.func (.func 38) #[] #[.pointer (some ⟨sB, 0, none⟩), .pointer (some ⟨pB, 0, none⟩), .pointer (some ⟨w.heap.size, 0, none⟩), .pointer (some ⟨oB, 0, none⟩)]) = w1 from hw1.symm]
  clear hw1 f4 f4f
  go_wp2_with fail
  go_loopw [14] (fun i ww => ∃ k : Nat, k ≤ N ∧ i = .int .i64 k ∧ Hid (∃ seen out, DS w1 g.nodes.length oB sr seen out ww ∧ DI g seen out [] ∧ ∀ i, i < k → seen i = 2)) (fun i _ => N - (intOf i).toNat)
  case atStart => exact ⟨0, by omega, rfl, ⟨_, _, HDS.out, DI.start g, fun i h => absurd h (by omega)⟩⟩
  case round =>
    obtain ⟨k, hk, rfl, hE⟩ := hrel
    obtain ⟨seen, out, a1, a2, a3⟩ := hE.out
    by_cases hlt : k < N
    · have hkg : k < g.nodes.length := by rw [← HNe.out]; exact hlt
      have hbC : Below wr.heap.size wr (wr.alloc (Obj.cells #[.int .i64 (k : Int)] 3)) := (Below.refl _ _).alloc (Nat.le_refl _) _
      have hcall := put_any g F O V no nc w.heap.size pB sB oB sr w1 HDc.out (cnt g.nodes.length seen) [(k : Int)] seen out [] (fun _ => True) (some ⟨wr.heap.size, 0, none⟩) 1 1 (wr.alloc (Obj.cells #[.int .i64 (k : Int)] 3)) (Nat.le_refl _) (a1.bel hbC) a2 (one_ZL (k : Int) wr) rfl (by omega) (by omega) (.inr (by omega)) (fun x hx => by
        simp only [List.mem_cons, List.mem_nil_iff, or_false] at hx
        subst hx
        exact ⟨by omega, by omega, .inl rfl⟩)
      have u4 := a1.k.cell (lt_cell k4) hn4 k4
      have lu4 := lt_cell u4
      have hlt' : (k : Int) < (N : Int) := by omega
      have w3 : IntKind.i64.wrap ((k : Int) + 1) = (k : Int) + 1 := wid (by omega) (by omega)
      have Ha3 : Hid (∀ i, i < k → seen i = 2) := a3
      clear hE a1 a2 a3 hbC HDS
      go_wp2_with fail
      refine hcall.mono ?_
      intro e w5 hQ
      rcases hQ with ⟨rfl, s2, o2, b1, b2, b3, b4, b5⟩ | ⟨rfl, hcyc, hk5⟩
      · have HNx : Hid (∃ seen out, DS w1 g.nodes.length oB sr seen out w5 ∧ DI g seen out [] ∧ ∀ i, i < k + 1 → seen i = 2) := ⟨s2, o2, b1, b2, fun i hi => by
          by_cases e : i = k
          · subst e
            have := b3 (i : Int) (List.mem_cons_self ..)
            rwa [Int.toNat_natCast] at this
          · exact b5 i (by omega) (Ha3.out i (by omega))⟩
        clear b1 b2 b3 b4 b5 hcall
        go_wp2_with fail
        exact ⟨⟨k + 1, by omega, by go_num, HNx⟩, by simp [intOf]; omega⟩
      · have HE : Hid (InQ w g (.returned (.tuple #[.slice none 0 0, .bool false])) w5) := .inr ⟨rfl, hcyc, HB1.out.trans (hk5.below (by have := Hz.out; omega) (fun j hj q => by
          have hz := Hz.out
          rcases q with q | q
          · omega
          · omega))⟩
        clear hcyc hk5 hcall
        go_wp2_with fail
        go_returns
        exact HE.out
    · obtain rfl : k = N := by omega
      have hkg := HNe.out
      have hord := a2.ord (fun i hi => a3 i (by omega))
      obtain ⟨vo, p1, p2⟩ := a1.o
      have p2' : wr.ownsRow w1.heap.size 3 1 vo (out.map Int.ofNat).length (ils (out.map Int.ofNat)) := by rw [List.length_map]; exact p2
      obtain ⟨oo, oc, rfl, q1, q2, q3⟩ := own_ZL p2'
      rw [List.length_map] at q1
      have lo := lt_cell p1
      have HE : Hid (InQ w g (.returned (.tuple #[.slice oo out.length oc, .bool true])) wr) := .inl ⟨out, oo, oc, rfl, hord, q1, q2, q3.keep (fun _ _ _ => rfl) (Nat.le_refl _) (fun b hb _ => ⟨by have := Hz.out; omega, hb.2⟩), HB1.out.trans (a1.k.below (by have := Hz.out; omega) (fun j hj q => by
          have hz := Hz.out
          rcases q with q | q
          · omega
          · omega))⟩
      rw [List.length_map] at p1
      obtain ⟨ol, hol⟩ : ∃ ol, ol = out.length := ⟨_, rfl⟩
      rw [← hol] at p1 HE
      clear hE a1 a2 a3 hord p2 p2' q3 hol HDS
      go_wp2_with fail
      go_returns
      exact HE.out
end Go.Proofs.Ytjpcebnbkdekkaa.Gh

/- New. -/
namespace Go.Proofs.Ytjpcebnbkdekkaa.Gh
open Go.RowKit Go.Maps Go.Sort Fl
set_option linter.unusedVariables false
set_option linter.unusedSimpArgs false

theorem BA.nr {base : Nat} {ds : List Nd} {v : Value} {Vs : List Value} {O : Nat → Nat → Prop} {w : World} (h : BA base ds ds.length v Vs O w) : ∃ no nc, v = .slice no ds.length nc ∧ ds.length ≤ nc ∧ nc ≤ 9223372036854775807 ∧ ∀ V, NR w (fun b => base ≤ b ∧ b < w.heap.size ∧ ¬ ∃ j, O j b) O V (fun _ => 0) ds no := by
  rcases h.own.2 with ⟨e1, e2⟩ | ⟨q, cap, cur, e1, e2, e3, e4, hm, rest⟩
  · exact ⟨none, 0, by rw [e1, e2], by omega, by omega, fun V => ⟨fun i d hd => by
      have := (List.getElem?_eq_some_iff.1 hd).1
      omega⟩⟩
  · refine ⟨some ⟨q, 0, none⟩, cap, e1, e4, by unfold maxLen at hm; omega, fun V => ⟨fun i d hd => ?_⟩⟩
    have hi := (List.getElem?_eq_some_iff.1 hd).1
    obtain ⟨ev, x, a1, a2⟩ := h.nd i d hi hd
    refine ⟨q, ev, x, rfl, ⟨e2, (Array.getElem?_eq_some_iff.1 e3).1, ?_⟩, ?_, a2 V _ (fun b b1 b2 b3 b4 => ⟨b1, b2, b4⟩)⟩
    · rintro ⟨j, hj⟩
      exact (h.O1 j q hj).2.2.1 (by rw [e1]; rfl)
    · have hown := h.own
      subst e1
      rw [World.ownsRow.cellAt hown i (by omega)]; exact a1
/-- What is wrong with a graph, but for loops. -/
def ne0 (g : Gr) : Int := if 256 < g.nodes.length ∨ 256 < g.outs.length ∨ g.ins < 0 ∨ 16 < g.ins then 5 else if wns g.nodes.length g.ins g.nodes = 0 then (if belB g.nodes.length g.outs = true then 0 else 8) else wns g.nodes.length g.ins g.nodes
theorem ne0_wf {g : Gr} (h : ne0 g = 0) : Wf g := by
  unfold ne0 at h
  by_cases c : 256 < g.nodes.length ∨ 256 < g.outs.length ∨ g.ins < 0 ∨ 16 < g.ins
  · rw [if_pos c] at h; omega
  rw [if_neg c] at h
  by_cases d : wns g.nodes.length g.ins g.nodes = 0
  · rw [if_pos d] at h
    by_cases e : belB g.nodes.length g.outs = true
    · refine ⟨by omega, fun x hx => ?_, belB_is e, by omega, by omega, by omega⟩
      have h1 := wns_is d x hx
      unfold wn at h1
      by_cases f : wr1 g.nodes.length g.ins x = 0
      · obtain ⟨a1, a2, a3, a4, a5⟩ := wr1_ok f
        exact ⟨a2, a3, a4, a5⟩
      · rw [if_neg f] at h1; exact absurd h1 f
    · rw [if_neg e] at h; omega
  · rw [if_neg d] at h; exact absurd h d
/-- What New answers. -/
structure NwQ (w : World) (g : Gr) (e : Ending) (w' : World) : Prop where
  b : Below w.heap.size w w'
  bad : ne0 g ≠ 0 → e = .returned (.tuple #[.pointer none, .int .i64 (ne0 g)])
  ok : ne0 g = 0 → (Cyc g ∧ e = .returned (.tuple #[.pointer none, .int .i64 10])) ∨ (¬ Cyc g ∧ (∃ ord, Ord g ord) ∧ ∃ x F O, e = .returned (.tuple #[pt x, .int .i64 0]) ∧ ∀ V, GS w' x g F O V 0 w.heap.size)
/-- A graph that is handed in. -/
structure GH (w : World) (S : Nat → Prop) (g : Gr) (go uo : Option Addr) (gc uc : Nat) : Prop where
  n : GA w S go g.nodes
  gl : g.nodes.length ≤ gc
  u : ZL w S uo g.outs
  ul : g.outs.length ≤ uc
  um : uc ≤ 9223372036854775807
  un : uo = none → uc = 0
@[reducible] def gvg (g : Gr) (go uo : Option Addr) (gc uc : Nat) : Value := gv g.ins go uo g.nodes.length gc g.outs.length uc
set_option maxRecDepth 8000 in
set_option maxHeartbeats 8000000 in
theorem New_any (hC : Vo.CirC) (g : Gr) (S : Nat → Prop) (go uo : Option Addr) (gc uc : Nat) (w : World) (hG : GH w S g go uo gc uc) :
    Calls Try.prog 13 #[gvg g go uo gc uc] w fun e w' => NwQ w g e w' := by
  obtain ⟨N, hN⟩ : ∃ N, N = g.nodes.length := ⟨_, rfl⟩
  obtain ⟨U, hU⟩ : ∃ U, U = g.outs.length := ⟨_, rfl⟩
  obtain ⟨ins, hins⟩ : ∃ ins, ins = g.ins := ⟨_, rfl⟩
  obtain ⟨W1, hW1⟩ : ∃ X, X = w.alloc (Obj.cells #[.int .i64 ins, .slice go N gc, .slice uo U uc] 25) := ⟨_, rfl⟩
  have HB1 : Hid (Below w.heap.size w W1) := by rw [hW1]; exact (Below.refl _ _).alloc (Nat.le_refl _) _
  have z1 : W1.heap.size = w.heap.size + 1 := by rw [hW1]; simp
  have g0 : W1.cell? ⟨w.heap.size, 0, none⟩ = some (.int .i64 ins) := by rw [hW1]; simp [go_sem]
  have g1 : W1.cell? ⟨w.heap.size, 1, none⟩ = some (.slice go N gc) := by rw [hW1]; simp [go_sem]
  have g2 : W1.cell? ⟨w.heap.size, 2, none⟩ = some (.slice uo U uc) := by rw [hW1]; simp [go_sem]
  have lg : w.heap.size < W1.heap.size := by omega
  have HG : Hid (GH w S g go uo gc uc) := hG
  have HNe : Hid (N = g.nodes.length ∧ U = g.outs.length ∧ ins = g.ins) := ⟨hN, hU, hins⟩
  have q1 : Calls Try.prog 21 #[.int .i64 17, .slice (some ⟨w.heap.size + 1, 0, none⟩) 1 1] (W1.alloc (Obj.cells #[.int .i64 ins] 3)) fun e w' => e = .returned (.bool (decide (0 ≤ ins) && decide (ins < 17))) ∧ w' = W1.alloc (Obj.cells #[.int .i64 ins] 3) := by
    have := below_any 17 [ins] _ _ 1 1 _ (one_ZL ins W1) rfl (by omega) (by omega)
    rw [belB_one, z1] at this
    exact this
  have Hbad : Hid (∀ r w', ne0 g = r → r ≠ 0 → Below w.heap.size w w' → NwQ w g (.returned (.tuple #[.pointer none, .int .i64 r])) w') := fun r w' hr h0 hb => ⟨hb, fun _ => by rw [hr], fun h => absurd (hr ▸ h) h0⟩
  have hargs : gvg g go uo gc uc = .agg #[.int .i64 ins, .slice go N gc, .slice uo U uc] := by rw [hN, hU, hins]
  rw [hargs]
  clear hG hargs
  by_cases c1 : 256 < N
  · have hv : Hid (ne0 g = 5) := by unfold Hid ne0; rw [if_pos (.inl (by omega))]
    have c1' : (256 : Int) < (N : Int) := by omega
    clear hN hU hins
    go_enter Try.func13, Try.ntmps13
    go_wp2_with fail
    go_returns
    exact Hbad.out 5 _ hv.out (by decide) (by first | exact HB1.out | (rw [← hW1]; exact HB1.out))
  by_cases c2 : 256 < U
  · have hv : Hid (ne0 g = 5) := by unfold Hid ne0; rw [if_pos (.inr (.inl (by omega)))]
    have c2' : (256 : Int) < (U : Int) := by omega
    have c1' : ¬ (256 : Int) < (N : Int) := by omega
    clear hN hU hins
    go_enter Try.func13, Try.ntmps13
    go_wp2_with fail
    go_returns
    exact Hbad.out 5 _ hv.out (by decide) (by first | exact HB1.out | (rw [← hW1]; exact HB1.out))
  have c1' : ¬ (256 : Int) < (N : Int) := by omega
  have c2' : ¬ (256 : Int) < (U : Int) := by omega
  obtain ⟨W2, hW2⟩ : ∃ X, X = W1.alloc (Obj.cells #[.int .i64 ins] 3) := ⟨_, rfl⟩
  have HB2 : Hid (Below w.heap.size w W2) := by rw [hW2]; exact HB1.out.alloc (by omega) _
  have hb12 : Below W1.heap.size W1 W2 := by rw [hW2]; exact (Below.refl _ _).alloc (Nat.le_refl _) _
  have z2 : W2.heap.size = w.heap.size + 2 := by rw [hW2]; simp; omega
  by_cases c3 : ins < 0 ∨ 16 < ins
  · have hv : Hid (ne0 g = 5) := by unfold Hid ne0; rw [if_pos (.inr (.inr (by omega)))]
    have hb : (decide (0 ≤ ins) && decide (ins < 17)) = false := by
      rcases c3 with c | c
      · rw [decide_eq_false (by omega)]; rfl
      · rw [show decide (ins < 17) = false from decide_eq_false (by omega), Bool.and_false]
    rw [hb] at q1
    clear hN hU hins hb c3
    go_enter Try.func13, Try.ntmps13
    go_wp2_with fail
    rw [← hW1]
    clear hW1 z1 z2
    refine q1.mono ?_
    rintro e w3 ⟨rfl, hw⟩
    rw [hw, ← hW2]
    clear hw hW2
    go_wp2_with fail
    go_returns
    exact Hbad.out 5 _ hv.out (by decide) HB2.out
  have hb : (decide (0 ≤ ins) && decide (ins < 17)) = true := by rw [decide_eq_true (by omega), decide_eq_true (by omega)]; rfl
  rw [hb] at q1
  have x0 := Fi.keepC hb12 lg g0
  have x1 := Fi.keepC hb12 lg g1
  have x2 := Fi.keepC hb12 lg g2
  have lx2 := lt_cell x0
  have q2 := buildAll_any hC ins go uo N gc U uc g.nodes S W2 (HG.out.n.keep (fun b _ hl => HB2.out.block b hl) HB2.out.size) hN.symm (by have := HG.out.gl; omega) (by omega)
  simp only [gv] at q2
  have Hne : Hid (ne0 g = if wns N ins g.nodes = 0 then (if belB N g.outs = true then 0 else 8) else wns N ins g.nodes) := by unfold Hid ne0; rw [if_neg (by omega), hN, hins]
  clear hN hU hins hb c3 c1 c2 g0 g1 g2 hb12
  go_enter Try.func13, Try.ntmps13
  go_wp2_with fail
  rw [← hW1]
  clear hW1 z1
  refine q1.mono ?_
  rintro e w3 ⟨rfl, hw⟩
  rw [hw, ← hW2]
  clear hw hW2 z2 q1
  go_wp2_with fail
  refine q2.mono ?_
  intro e w4 hQ
  have HB4 : Hid (Below W2.heap.size W2 w4) := hQ.b
  have HB4w : Hid (Below w.heap.size w w4) := HB2.out.trans (hQ.b.mono HB2.out.size)
  have y0 := Fi.keepC hQ.b lx2 x0
  have y2 := Fi.keepC hQ.b lx2 x2
  have ly := lt_cell y0
  clear x0 x1 x2
  by_cases hw4 : wns N ins g.nodes = 0
  · obtain ⟨v, Vs, O, rfl, hBA⟩ := hQ.ok hw4
    obtain ⟨no, nc, rfl, n1, n2, n3⟩ := hBA.nr
    have HBA : Hid (BA W2.heap.size g.nodes g.nodes.length (.slice no g.nodes.length nc) Vs O w4 ∧ ∀ V, NR w4 (fun b => W2.heap.size ≤ b ∧ b < w4.heap.size ∧ ¬ ∃ j, O j b) O V (fun _ => 0) g.nodes no) := ⟨hBA, n3⟩
    rw [← HNe.out.1] at n1
    rw [show g.nodes.length = N from HNe.out.1.symm]
    have q3 := below_any N g.outs S uo U uc w4 (HG.out.u.bel HB4w.out) HNe.out.2.1.symm (by have := HG.out.ul; have := HNe.out.2.1; omega) HG.out.um
    cases hb3 : belB N g.outs
    · have hv : Hid (ne0 g = 8) := by unfold Hid; rw [Hne.out, if_pos hw4, hb3]; rfl
      rw [hb3] at q3
      clear hQ hBA n3 q2 hb3
      go_wp2_with fail
      refine q3.mono ?_
      rintro e w5 ⟨rfl, hw⟩
      rw [hw]
      clear hw
      go_wp2_with fail
      go_returns
      exact Hbad.out 8 _ hv.out (by decide) HB4w.out
    · have hv : Hid (ne0 g = 0) := by unfold Hid; rw [Hne.out, if_pos hw4, hb3]; rfl
      have hWf := ne0_wf hv.out
      rw [hb3] at q3
      have q4 := inOrder_any g _ O (fun _ _ => none) no nc w4 (n3 _) (fun b hb => hb.2.1) (fun i b hb => (hBA.O1 i b hb).2.1) hWf.N (by have := HNe.out.1; omega) (fun d hd k hk => (hWf.n d hd).2.1 k hk)
      rw [← HNe.out.1] at q4
      clear hQ hBA n3 q2 hb3
      go_wp2_with fail
      refine q3.mono ?_
      rintro e w5 ⟨rfl, hw⟩
      rw [hw]
      clear hw q3
      go_wp2_with fail
      refine q4.mono ?_
      intro e w5 hI
      rcases hI with ⟨ord, oo, oc, rfl, hord, o1, o2, o3, hb5⟩ | ⟨rfl, hcyc, hb5⟩
      · have hlen : ord.length = N := by rw [hord.len, ← HNe.out.1]
        rw [hlen] at o1 ⊢
        have u0 := Fi.keepC hb5 ly y0
        have u2 := Fi.keepC hb5 ly y2
        have lu := lt_cell u0
        have HB5 : Hid (Below w4.heap.size w4 w5) := hb5
        have HB5w : Hid (Below w.heap.size w w5) := HB4w.out.trans (hb5.mono HB4w.out.size)
        have Ho : Hid (Ord g ord ∧ ord.length = N ∧ oc ≤ 9223372036854775807 ∧ nc ≤ 9223372036854775807 ∧ ZL w5 (fun b => w4.heap.size ≤ b ∧ b < w5.heap.size) oo (ord.map Int.ofNat)) := ⟨hord, hlen, o2, n2, o3⟩
        have q5 := fun w' (hb' : Below w.heap.size w w') => clone_any g.outs S uo U uc w' (HG.out.u.bel hb') HNe.out.2.1.symm (by have := HG.out.ul; have := HNe.out.2.1; omega) HG.out.un (by omega)
        have HWf : Hid (Wf g) := hWf
        have HBz : Hid (w.heap.size ≤ W2.heap.size) := HB2.out.size
        have HF : Hid (∀ wc w7 uo' uc', Below w5.heap.size w5 wc → U ≤ uc' → uc' ≤ 9223372036854775807 → ZL wc (fun b => w5.heap.size ≤ b ∧ b < wc.heap.size) uo' g.outs → w7 = wc.alloc (Obj.cells #[.int .i64 ins, .slice no N nc, .slice oo N oc, .slice uo' U uc'] 74) → NwQ w g (.returned (.tuple #[pt wc.heap.size, .int .i64 0])) w7) := fun wc w7 uo' uc' hbc hu1 hu2 hu3 hw7 => by
          obtain ⟨p1, p2, p3, p4, p5⟩ := Ho.out
          have hb57 : Below w5.heap.size w5 w7 := by rw [hw7]; exact hbc.alloc (by have := hbc.size; omega) _
          have hbc7 : Below wc.heap.size wc w7 := by rw [hw7]; exact (Below.refl _ _).alloc (Nat.le_refl _) _
          have hb47 : Below w4.heap.size w4 w7 := HB5.out.trans (hb57.mono HB5.out.size)
          have z7 : w7.heap.size = wc.heap.size + 1 := by rw [hw7]; simp
          have s5 := HB5.out.size
          have sc := hbc.size
          have s4 := HB4.out.size
          have hBz := HBz.out
          refine ⟨HB5w.out.trans (hb57.mono HB5w.out.size), fun h => absurd hv.out h, fun _ => .inr ⟨p1.acyc, ⟨ord, p1⟩, wc.heap.size, fun b => w.heap.size ≤ b ∧ b < w7.heap.size ∧ ¬ ∃ j, O j b, O, rfl, fun V => ⟨⟨ord, no, oo, uo', nc, oc, uc', ⟨⟨by omega, by omega, ?_⟩, ?_, ?_, ?_, ?_, by rw [← HNe.out.1]; exact n1, by rw [p2]; exact o1, by rw [← HNe.out.2.1]; exact hu1, p4, p3, hu2, ?_, ?_⟩, p1, ?_⟩, fun i b hb => ?_, fun i j b hi hj => HBA.out.1.OO i j b hi hj, fun b hb => ⟨hb.2.1, hb.1⟩, by omega⟩⟩⟩
          · rintro ⟨j, hj⟩
            have := (HBA.out.1.O1 j _ hj).2.1
            omega
          · rw [← HNe.out.2.2, hw7]; simp [go_sem]
          · rw [← HNe.out.1, hw7]; simp [go_sem]
          · rw [p2, hw7]; simp [go_sem]
          · rw [← HNe.out.2.1, hw7]; simp [go_sem]
          · exact p5.keep (fun b _ hl => hb57.block b hl) hb57.size (fun b hb _ => ⟨by omega, by omega, fun ⟨j, hj⟩ => by have := (HBA.out.1.O1 j b hj).2.1; omega⟩)
          · exact hu3.keep (fun b _ hl => hbc7.block b hl) hbc7.size (fun b hb _ => ⟨by omega, by omega, fun ⟨j, hj⟩ => by have := (HBA.out.1.O1 j b hj).2.1; omega⟩)
          · exact ⟨fun i d hd => by
              obtain ⟨nb, ev, xv, b1, b2, b3, b4⟩ := ((HBA.out.2 V).bel hb47).at' i d hd
              exact ⟨nb, ev, xv, b1, ⟨by omega, by omega, b2.2.2⟩, b3, b4.mono (fun b hb => ⟨by omega, by omega, hb.2.2⟩)⟩⟩
          · have hq := HBA.out.1.O1 i b hb
            exact ⟨fun hf => hf.2.2 ⟨i, hb⟩, by omega, by omega⟩
        clear hord hlen o2 o3 hb5 q4 hWf y0 y2 ly Hne Hbad n2
        go_wp2_with fail
        have gg0 := cell_regrown u0
        have gg2 := cell_regrown u2
        refine RF.wp_region_float (fun k => k != 6 && k != 8) (by kernel_rfl) (by kernel_rfl) (by kernel_rfl) ?_
        repeat (refine RF.wpFl_read rfl (fun K hK => ?_); go_simp; refine hK _ ?_; clear hK K)
        refine RF.wpFl_do rfl rfl (fun K hK => ?_)
        go_wp2_with fail
        refine (q5 _ (HB5w.out.trans ((belD' (n := 1)).mono HB5w.out.size))).mono ?_
        rintro e wc ⟨uo', uc', rfl, v1, v2, v3, v4⟩
        have HBc : Hid (Below w5.heap.size w5 wc) := (belD' (n := 1)).trans v4
        have HZc : Hid (ZL wc (fun b => w5.heap.size ≤ b ∧ b < wc.heap.size) uo' g.outs) := v3
        clear v3 v4
        go_wp2_with fail
        refine hK _ _ HBc.out ?_
        clear hK K
        repeat (refine RF.wpFl_read rfl (fun K hK => ?_); go_simp; refine hK _ ?_; clear hK K)
        refine RF.wpFl_do rfl rfl (fun K hK => ?_)
        go_wp2_with fail
        refine hK _ _ (HBc.out.alloc (by have := HBc.out.size; omega) _) ?_
        clear hK K gg0 gg2
        repeat (refine RF.wpFl_read rfl (fun K hK => ?_); go_simp; refine hK _ ?_; clear hK K)
        refine RF.wpFl_nil ?_
        go_wp2_with fail
        go_returns
        exact HF.out _ _ _ _ HBc.out v1 v2 HZc.out rfl
      · have HE : Hid (NwQ w g (.returned (.tuple #[.pointer none, .int .i64 10])) w5) := ⟨HB4w.out.trans (hb5.mono HB4w.out.size), fun h => absurd hv.out h, fun _ => .inl ⟨hcyc, rfl⟩⟩
        clear hcyc hb5 q4
        go_wp2_with fail
        go_returns
        exact HE.out
  · have he := hQ.bad hw4
    subst he
    have HE : Hid (NwQ w g (.returned (.tuple #[.pointer none, .int .i64 (wns N ins g.nodes)])) w4) := Hbad.out _ _ (by rw [Hne.out, if_neg hw4]) hw4 HB4w.out
    obtain ⟨r, hr⟩ : ∃ r, r = wns N ins g.nodes := ⟨_, rfl⟩
    rw [← hr] at HE hw4 ⊢
    clear hQ q2 hr Hne
    go_wp2_with fail
    go_returns
    exact HE.out
end Go.Proofs.Ytjpcebnbkdekkaa.Gh

/- Sound: pieces one behind the other. -/
namespace Go.Proofs.Ytjpcebnbkdekkaa.Gh
open Go.RowKit Go.Maps Go.Sort Fl
set_option linter.unusedVariables false
set_option linter.unusedSimpArgs false

/-- A piece. -/
structure Pc where
  ins : List (List Nat)
  n : Int
  rest : Bool
/-- Where the time stands ahead of a piece, and behind it. -/
def t0 (t : Nat) (p : Pc) : Nat := if p.rest = true then 0 else t
def tnx (g : Gr) (t : Nat) (p : Pc) : Nat := if er g p.ins p.n = 0 then t0 t p + p.n.toNat else t0 t p
def tst (g : Gr) : Nat → List Pc → Nat
  | t, [] => t
  | t, p :: l => tst g (tnx g t p) l
theorem tst_app (g : Gr) : ∀ (t : Nat) (a b : List Pc), tst g t (a ++ b) = tst g (tst g t a) b
  | t, [], b => rfl
  | t, p :: a, b => tst_app g (tnx g t p) a b
theorem tst_step (g : Gr) {l : List Pc} {k : Nat} {p : Pc} (h : l[k]? = some p) : tst g 0 (l.take (k + 1)) = tnx g (tst g 0 (l.take k)) p := by
  rw [List.take_add_one, h, tst_app]; rfl
theorem tnx_le (g : Gr) (t : Nat) (p : Pc) : tnx g t p ≤ t + 65536 := by
  unfold tnx t0
  by_cases c : er g p.ins p.n = 0
  · rw [if_pos c]
    have := (er_ok c).2.1
    split <;> omega
  · rw [if_neg c]; split <;> omega
theorem tst_le (g : Gr) (l : List Pc) : ∀ k, tst g 0 (l.take k) ≤ 65536 * k := by
  intro k
  induction k with
  | zero => simp [tst]
  | succ k ih =>
    by_cases c : k < l.length
    · rw [tst_step g (List.getElem?_eq_getElem c)]
      have := tnx_le g (tst g 0 (l.take k)) l[k]
      omega
    · rw [List.take_of_length_le (by omega)]
      rw [List.take_of_length_le (by omega)] at ih
      omega
/-- What is told of a piece. -/
def hrs (g : Gr) (V : Hist) (t : Nat) (p : Pc) : List (List (Option Nat)) := if er g p.ins p.n = 0 then outR g V (t0 t p) p.n.toNat else []
/-- Pieces in memory. -/
structure PcL (w : World) (B : Nat) (po : Option Addr) (pcs : List Pc) : Prop where
  at' : ∀ i p, pcs[i]? = some p → ∃ b off io ic, po = some ⟨b, off, none⟩ ∧ b < B ∧ w.cell? ⟨b, off + i * 3, none⟩ = some (.slice io p.ins.length ic) ∧ w.cell? ⟨b, off + i * 3 + 1, none⟩ = some (.int .i64 p.n) ∧ w.cell? ⟨b, off + i * 3 + 2, none⟩ = some (.bool p.rest) ∧ p.ins.length ≤ ic ∧ ic ≤ 9223372036854775807 ∧ Fi.PL w B io p.ins
theorem PcL.keep {w w' : World} {B : Nat} {po : Option Addr} {pcs : List Pc} (h : PcL w B po pcs) (hB : B ≤ w.heap.size) (hk : ∀ b, b < B → w'.heap[b]? = w.heap[b]?) (hz : w.heap.size ≤ w'.heap.size) : PcL w' B po pcs := ⟨fun i p hp => by
  obtain ⟨b, off, io, ic, h1, h2, h3, h4, h5, h6, h7, h8⟩ := h.at' i p hp
  have hc : ∀ {o : Nat} {v : Value}, w.cell? ⟨b, o, none⟩ = some v → w'.cell? ⟨b, o, none⟩ = some v := fun hv => (World.cell?_of_block (w := w) (w' := w') (a := ⟨b, _, none⟩) (hk b h2)).trans hv
  exact ⟨b, off, io, ic, h1, h2, hc h3, hc h4, hc h5, h6, h7, h8.keep hB hk hz⟩⟩
/-- What came of pieces, in a row of one's own; all in blocks of Z. -/
def Sz (Z : Nat → Prop) (w : World) (v : Value) (b : Nat) : Prop := Z b ∧ b < w.heap.size ∧ some b ≠ v.ownBlock
structure HO (w : World) (base : Nat) (Z : Nat → Prop) (v : Value) (R : List (List (List (Option Nat)) × Int)) : Prop where
  ex : ∃ Vs : List Value, w.ownsRow base 37 2 v R.length Vs ∧ Vs.length = R.length * 2 ∧ ∀ (j : Nat) r, R[j]? = some r → ∃ x, Vs[j * 2]? = some x ∧ Vs[j * 2 + 1]? = some (.int .i64 r.2) ∧ OL w (Sz Z w v) x r.1
  oz : ∀ k, v.ownBlock = some k → Z k
theorem HO.nil (w : World) (base : Nat) (Z : Nat → Prop) : HO w base Z (.slice none 0 0) [] := ⟨⟨[], World.ownsRow_nil _ _ _ _, rfl, fun j r h => by simp at h⟩, fun k h => by simp [Value.ownBlock] at h⟩
theorem HO.keep {w w' : World} {base : Nat} {Z Z' : Nat → Prop} {v : Value} {R : List (List (List (Option Nat)) × Int)} (h : HO w base Z v R) (hk : ∀ j, Z j → j < w.heap.size → w'.heap[j]? = w.heap[j]?) (hz : w.heap.size ≤ w'.heap.size) (hZ : ∀ j, Z j → j < w.heap.size → Z' j) : HO w' base Z' v R := by
  obtain ⟨Vs, h1, h2, h3⟩ := h.ex
  refine ⟨⟨Vs, Fi.own_step h1 (fun k hk' => hk k (h.oz k hk') (Fi.own_lt h1 k hk')), h2, fun j r hj => ?_⟩, fun k hk' => hZ k (h.oz k hk') (Fi.own_lt h1 k hk')⟩
  obtain ⟨x, g1, g2, g3⟩ := h3 j r hj
  exact ⟨x, g1, g2, g3.keep (fun b hb hl => hk b hb.1 hl) hz (fun b hb hl => ⟨hZ b hb.1 hl, by omega, hb.2.2⟩)⟩
theorem infoH : (Try.prog.info? 37).map (fun i => (i.zero, i.size, i.bytes)) = some (some (.agg #[.slice none 0 0, .int .i64 0]), 2, 32) := by kernel_rfl
theorem wpList_append_h {w : World} {ops : Array Oper} {rest : List Oper} {o : Oper} {a : Act} {Q : Exit → Act → World → Prop} (hgd : o.guard = none) (s y : Operand)
    (ho : o.op = .call { callee := .builtin .append, args := #[s, y], argTypes := #[27, 27] })
    (base : Nat) (v : Value) (n : Nat) (xs : List Value) (hs : a.eval s = v) (hown : w.ownsRow base 37 2 v n xs)
    (g : Nat) (x y' : Value) (hx : a.eval y = .slice (some ⟨g, 0, none⟩) 1 1) (hc : w.cell? ⟨g, 0, none⟩ = some x) (hc2 : w.cell? ⟨g, 1, none⟩ = some y') (hx1 : x.oneCell' = true) (hy1 : y'.oneCell' = true)
    (h63 : n ≤ 4194304) (hbase : base ≤ w.heap.size)
    (h : ∀ v' w', w'.ownsRow base 37 2 v' (n + 1) (xs ++ [x, y']) → Fi.Gw w w' v v' → wpList Try.prog ops Q rest (a.put o.dst v') w') :
    wpList Try.prog ops Q (o :: rest) a w := by
  obtain ⟨i, hi, hz, hz1, hz2⟩ := info_parts infoH
  refine wpList_append_own_at w hgd s y 27 ho base 37 i (.agg #[.slice none 0 0, .int .i64 0]) 2 32 Try.underlying27 hi hz hz1 hz2 rfl (by omega) v n xs hs hown ⟨g, 0, none⟩ 1 1 [x, y'] hx rfl ?_ ?_ (by unfold maxLen; omega) (by omega) hbase (fun v' w' k1 k2 _ k4 => h v' w' k1 ⟨k2, k4.imp id (fun e => ⟨_, e, Nat.le_refl _⟩)⟩)
  · intro j u hj
    match j, hj with
    | 0, hj => simp at hj; subst hj; simpa [Addr.add] using hc
    | 1, hj => simp at hj; subst hj; simpa [Addr.add] using hc2
  · intro u hu
    simp at hu
    rcases hu with rfl | rfl
    · exact hx1
    · exact hy1
/-- One more piece. -/
theorem HO.put {w w1 w2 : World} {base : Nat} {Z : Nat → Prop} {v v' x : Value} {R : List (List (List (Option Nat)) × Int)} {r : List (List (Option Nat)) × Int} (h : HO w base Z v R) (Vs : List Value) (hV : Vs.length = R.length * 2) (h3 : ∀ (j : Nat) r, R[j]? = some r → ∃ x, Vs[j * 2]? = some x ∧ Vs[j * 2 + 1]? = some (.int .i64 r.2) ∧ OL w (Sz Z w v) x r.1)
    (hb1 : Below w.heap.size w w1) (g1 : Fi.Gw w1 w2 v v') (o1 : w2.ownsRow base 37 2 v' (R.length + 1) (Vs ++ [x, .int .i64 r.2])) (hx : OL w (Sz Z w v) x r.1) (hZ : ∀ b, w1.heap.size ≤ b → Z b) : HO w2 base Z v' (R ++ [r]) := by
  have z1 := hb1.size; have z2 := g1.gr.size
  have hkeep : ∀ b, Sz Z w v b → b < w.heap.size → w2.heap[b]? = w.heap[b]? := fun b hb l => by
    rw [g1.gr.block b (by omega) hb.2.2, hb1.block b l]
  have hS : ∀ b, Sz Z w v b → b < w.heap.size → Sz Z w2 v' b := fun b hb l => by
    refine ⟨hb.1, by omega, ?_⟩
    rcases g1.ob with q | ⟨k, q, hk⟩
    · rw [q]; exact hb.2.2
    · rw [q]; intro q2; simp at q2; omega
  refine ⟨⟨Vs ++ [x, .int .i64 r.2], ?_, by simp [hV]; omega, fun j q hj => ?_⟩, fun k hk => ?_⟩
  · have e : (R ++ [r]).length = R.length + 1 := by simp
    rw [e]; exact o1
  · by_cases c : j < R.length
    · rw [List.getElem?_append_left c] at hj
      obtain ⟨y, y1, y2, y3⟩ := h3 j q hj
      exact ⟨y, by rw [List.getElem?_append_left (by omega)]; exact y1, by rw [List.getElem?_append_left (by omega)]; exact y2, y3.keep hkeep (by omega) hS⟩
    · have hjl : j < (R ++ [r]).length := (List.getElem?_eq_some_iff.1 hj).1
      simp at hjl
      obtain rfl : j = R.length := by omega
      rw [List.getElem?_append_right (Nat.le_refl _)] at hj
      simp at hj
      subst hj
      exact ⟨x, by rw [← hV]; simp, by rw [List.getElem?_append_right (by omega), show R.length * 2 + 1 - Vs.length = 1 by omega]; rfl, hx.keep hkeep (by omega) hS⟩
  · rcases g1.ob with q | ⟨m, q, hm⟩
    · rw [q] at hk; exact h.oz k hk
    · rw [q] at hk; cases hk; exact hZ _ hm
/-- What is told of all pieces. -/
def rsl (g : Gr) (J : Nat → Hist) : Nat → Nat → List Pc → List (List (List (Option Nat)) × Int)
  | _, _, [] => []
  | k, t, p :: l => (hrs g (vl g (J k)) t p, er g p.ins p.n) :: rsl g J (k + 1) (tnx g t p) l
theorem rsl_app (g : Gr) (J : Nat → Hist) : ∀ (k t : Nat) (a b : List Pc), rsl g J k t (a ++ b) = rsl g J k t a ++ rsl g J (k + a.length) (tst g t a) b
  | k, t, [], b => rfl
  | k, t, p :: a, b => by
    show _ :: rsl g J (k + 1) (tnx g t p) (a ++ b) = _ :: (_ ++ _)
    rw [rsl_app g J (k + 1) (tnx g t p) a b, List.length_cons, show k + 1 + a.length = k + (a.length + 1) by omega]; rfl
theorem rsl_len (g : Gr) (J : Nat → Hist) : ∀ (k t : Nat) (a : List Pc), (rsl g J k t a).length = a.length
  | k, t, [] => rfl
  | k, t, p :: a => by show (rsl g J _ _ a).length + 1 = a.length + 1; rw [rsl_len]
theorem rsl_step (g : Gr) (J : Nat → Hist) {l : List Pc} {k : Nat} {p : Pc} (h : l[k]? = some p) : rsl g J 0 0 (l.take (k + 1)) = rsl g J 0 0 (l.take k) ++ [(hrs g (vl g (J k)) (tst g 0 (l.take k)) p, er g p.ins p.n)] := by
  have hk := (List.getElem?_eq_some_iff.1 h).1
  rw [List.take_add_one, h, rsl_app, List.length_take, Nat.min_eq_left (by omega), Nat.zero_add]; rfl
theorem PLmono {w : World} {N N' : Nat} {ao : Option Addr} {ps : List (List Nat)} (h : Fi.PL w N ao ps) (hN : N ≤ N') : Fi.PL w N' ao ps := ⟨fun hn => by
  obtain ⟨b, off, h1, h2, h3⟩ := h.at' hn
  refine ⟨b, off, h1, by omega, fun j p hj => ?_⟩
  obtain ⟨a, c, g1, g2, g3, g4, g5⟩ := h3 j p hj
  exact ⟨a, c, g1, g2, g3, g4, g5.keep (fun _ _ _ => rfl) (Nat.le_refl _) (fun b hb _ => by omega)⟩⟩
/-- What Sound answers. -/
structure SoQ (w : World) (g : Gr) (pcs : List Pc) (J : Nat → Hist) (e : Ending) (w' : World) : Prop where
  b : Below w.heap.size w w'
  bad : ne0 g ≠ 0 → e = .returned (.tuple #[.slice none 0 0, .int .i64 (ne0 g)])
  cyc : ne0 g = 0 → Cyc g → e = .returned (.tuple #[.slice none 0 0, .int .i64 10])
  ok : ne0 g = 0 → ¬ Cyc g → ∃ v base, e = .returned (.tuple #[v, .int .i64 0]) ∧ w.heap.size ≤ base ∧ base ≤ w'.heap.size ∧ HO w' base (fun b => base ≤ b) v (rsl g J 0 0 pcs)
end Go.Proofs.Ytjpcebnbkdekkaa.Gh

/- Sound, walked. -/
namespace Go.Proofs.Ytjpcebnbkdekkaa.Gh
open Go.RowKit Go.Maps Go.Sort Fl
set_option linter.unusedVariables false
set_option linter.unusedSimpArgs false

/-- Whose blocks are not a graph's. -/
def Zn (base : Nat) (O : Nat → Nat → Prop) (b : Nat) : Prop := base ≤ b ∧ ¬ ∃ i, O i b
/-- Run, whatever is wrong with a piece. -/
theorem Run_q (hC : Vo.CirC) (x : Nat) (g : Gr) (F : Nat → Prop) (O : Nat → Nat → Prop) (I : Hist) (t B il ic : Nat) (p : Pc) (io : Option Addr) (w : World) (hG : GS w x g F O (vl g I) (t0 t p) B) (hW : Wf g) (hP : Fi.PL w B io p.ins) (hil : p.ins.length = il) (hc : il ≤ ic) (hcm : ic ≤ 9223372036854775807) (hB : B ≤ w.heap.size)
    (hI : er g p.ins p.n = 0 → ∀ (q : Nat) l, p.ins[q]? = some l → ∀ j, j < p.n.toNat → I q (t0 t p + j) = ab (l.getD j 0)) (hsol : ∀ i, i < g.nodes.length → ∀ t, vl g I i t = sampD (nd g i) I (vl g I) i t) (hT : t ≤ 4611686018427300000) :
    Calls Try.prog 15 #[.pointer (some ⟨x, 0, none⟩), .slice io il ic, .int .i64 p.n] w fun e w' => ∃ ao1 l1 c1, e = .returned (.tuple #[.slice ao1 l1 c1, .int .i64 (er g p.ins p.n)]) ∧ OL w' (fun b => w.heap.size ≤ b) (.slice ao1 l1 c1) (hrs g (vl g I) t p) ∧ GS w' x g F O (vl g I) (tnx g t p) B ∧ Kx (fun b => ∃ i, O i b) w w' := by
  by_cases he : er g p.ins p.n = 0
  · obtain ⟨n0, n1, _, _⟩ := er_ok he
    obtain ⟨nn, hnn⟩ : ∃ nn : Nat, p.n = nn := ⟨p.n.toNat, by omega⟩
    have ht0 : t0 t p ≤ t := by unfold t0; split <;> omega
    have hq := run_ok hC x g F O (vl g I) I (t0 t p) B il ic nn p.ins io w hG hW hP hil hc hcm hB (by rw [← hnn]; exact he) (fun q l hl j hj => hI he q l hl j (by rw [hnn]; exact hj)) hsol (by omega)
    rw [hnn]
    refine hq.mono ?_
    rintro e w' ⟨v, rfl, h1, h2, h3⟩
    obtain ⟨ao, c, hv, _⟩ := h1.ex
    subst hv
    refine ⟨ao, (outR g (vl g I) (t0 t p) nn).length, c, ?_, ?_, ?_, h3⟩
    · rw [← hnn, he]
    · have e1 : hrs g (vl g I) t p = outR g (vl g I) (t0 t p) nn := by unfold hrs; rw [if_pos he, hnn]; rfl
      rw [e1]; exact h1
    · have e1 : tnx g t p = t0 t p + nn := by unfold tnx; rw [if_pos he, hnn]; rfl
      rw [e1]; exact h2
  · have hq := run_bad x g F O (vl g I) (t0 t p) B il ic p.ins io p.n w hG hP hil hc hcm hB he
    refine hq.mono ?_
    rintro e w' ⟨rfl, hb⟩
    refine ⟨none, 0, 0, rfl, ?_, ?_, Kx.bel hb⟩
    · have e1 : hrs g (vl g I) t p = [] := by unfold hrs; rw [if_neg he]
      rw [e1]
      exact ⟨⟨none, 0, rfl, Nat.le_refl _, by omega, fun h => absurd h (by simp)⟩⟩
    · have e1 : tnx g t p = t0 t p := by unfold tnx; rw [if_neg he]
      rw [e1]; exact hG.bel hb
set_option maxRecDepth 8000 in
set_option maxHeartbeats 8000000 in
theorem Sound_any (hC : Vo.CirC) (g : Gr) (go uo : Option Addr) (gc uc : Nat) (pcs : List Pc) (po : Option Addr) (m pc : Nat) (J : Nat → Hist) (w : World) (hG : GH w (fun b => b < w.heap.size) g go uo gc uc) (hP : PcL w w.heap.size po pcs) (hm : pcs.length = m) (hpc : m ≤ pc) (hpm : pc ≤ 9223372036854775807) (hml : m ≤ 1048576)
    (hJ : ∀ k p, pcs[k + 1]? = some p → p.rest = false → J (k + 1) = J k) (hI : ∀ k p, pcs[k]? = some p → er g p.ins p.n = 0 → ∀ (q : Nat) l, p.ins[q]? = some l → ∀ i, i < p.n.toNat → J k q (t0 (tst g 0 (pcs.take k)) p + i) = ab (l.getD i 0)) :
    Calls Try.prog 7 #[gvg g go uo gc uc, .slice po m pc] w fun e w' => SoQ w g pcs J e w' := by
  obtain ⟨N, hN⟩ : ∃ N, N = g.nodes.length := ⟨_, rfl⟩
  obtain ⟨U, hU⟩ : ∃ U, U = g.outs.length := ⟨_, rfl⟩
  obtain ⟨ins, hins⟩ : ∃ ins, ins = g.ins := ⟨_, rfl⟩
  obtain ⟨W1, hW1⟩ : ∃ X, X = w.alloc (Obj.cells #[.int .i64 ins, .slice go N gc, .slice uo U uc] 25) := ⟨_, rfl⟩
  have HB1 : Hid (Below w.heap.size w W1) := by rw [hW1]; exact (Below.refl _ _).alloc (Nat.le_refl _) _
  have hG1 : GH W1 (fun b => b < w.heap.size) g go uo gc uc := ⟨hG.n.keep (fun b _ hl => HB1.out.block b hl) HB1.out.size, hG.gl, hG.u.bel HB1.out, hG.ul, hG.um, hG.un⟩
  have q1 := New_any hC g _ go uo gc uc W1 hG1
  have hargs : gvg g go uo gc uc = .agg #[.int .i64 ins, .slice go N gc, .slice uo U uc] := by rw [hN, hU, hins]
  rw [hargs] at q1 ⊢
  have HP1 : Hid (PcL W1 W1.heap.size po pcs) := ⟨fun i p hp => by
    obtain ⟨b, off, io, ic, h1, h2, h3, h4, h5, h6, h7, h8⟩ := (hP.keep (Nat.le_refl _) (fun b hb => HB1.out.block b hb) HB1.out.size).at' i p hp
    exact ⟨b, off, io, ic, h1, by have := HB1.out.size; omega, h3, h4, h5, h6, h7, PLmono h8 HB1.out.size⟩⟩
  have Hm : Hid (pcs.length = m) := hm
  have HJ : Hid ((∀ k p, pcs[k + 1]? = some p → p.rest = false → J (k + 1) = J k) ∧ ∀ k p, pcs[k]? = some p → er g p.ins p.n = 0 → ∀ (q : Nat) l, p.ins[q]? = some l → ∀ i, i < p.n.toNat → J k q (t0 (tst g 0 (pcs.take k)) p + i) = ab (l.getD i 0)) := ⟨hJ, hI⟩
  clear hG hP hm hJ hI hargs hG1 hN hU hins
  go_enter Try.func7, Try.ntmps7
  go_wp2_with fail
  rw [← hW1]
  clear hW1
  refine q1.mono ?_
  intro e w2 hQ
  have HB2 : Hid (Below W1.heap.size W1 w2) := hQ.b
  have HB2w : Hid (Below w.heap.size w w2) := HB1.out.trans (hQ.b.mono HB1.out.size)
  by_cases hn : ne0 g = 0
  · rcases hQ.ok hn with ⟨hcyc, rfl⟩ | ⟨hac, hord, x, F, O, rfl, hGS⟩
    · have HE : Hid (SoQ w g pcs J (.returned (.tuple #[.slice none 0 0, .int .i64 10])) w2) := ⟨HB2w.out, fun h => absurd hn h, fun _ _ => rfl, fun _ h => absurd hcyc h⟩
      clear hQ hcyc q1
      go_wp2_with fail
      go_returns
      exact HE.out
    · have HWf : Hid (Wf g) := ne0_wf hn
      have Hord : Hid (∃ ord, Ord g ord) := hord
      have Hsol : Hid (∀ k i, i < g.nodes.length → ∀ t, vl g (J k) i t = sampD (nd g i) (J k) (vl g (J k)) i t) := fun k i hi t => by
        obtain ⟨ord, ho⟩ := hord
        exact vl_eq (ho.rk HWf.out) (J k) i t hi
      have HE : Hid (∀ w' v, Below w.heap.size w w' → w2.heap.size ≤ w'.heap.size → (∃ O, HO w' w2.heap.size (Zn w2.heap.size O) v (rsl g J 0 0 pcs)) → SoQ w g pcs J (.returned (.tuple #[v, .int .i64 0])) w') := fun w' v hb hz ⟨O, hH⟩ => ⟨hb, fun h => absurd hn h, fun _ h => absurd h hac, fun _ _ => ⟨v, w2.heap.size, rfl, HB2w.out.size, hz, hH.keep (fun _ _ _ => rfl) (Nat.le_refl _) (fun b hb _ => hb.1)⟩⟩
      have HFw : Hid (∀ b, F b → b < w2.heap.size) := fun b hb => ((hGS (vl g (J 0))).F1 b hb).1
      have HS0 : Hid (∃ O, GS w2 x g F O (vl g (J 0)) 0 W1.heap.size ∧ HO w2 w2.heap.size (Zn w2.heap.size O) (.slice none 0 0) [] ∧ ∀ i b, O i b → b < w2.heap.size) := ⟨O, hGS _, HO.nil _ _ _, fun i b hb => ((hGS (vl g (J 0))).O1 i b hb).2.1⟩
      clear hQ q1 hGS hord hac hn O
      go_wp2_with fail
      go_loopw [23, 8] (fun i v ww => ∃ k : Nat, k ≤ m ∧ i = .int .i64 k ∧ Hid (∃ O, GS ww x g F O (vl g (J (k - 1))) (tst g 0 (pcs.take k)) W1.heap.size ∧ HO ww w2.heap.size (Zn w2.heap.size O) v (rsl g J 0 0 (pcs.take k))) ∧ Below W1.heap.size W1 ww ∧ w2.heap.size ≤ ww.heap.size) (fun i _ _ => m - (intOf i).toNat)
      case atStart =>
        obtain ⟨O, h1, h2, _⟩ := HS0.out
        exact ⟨0, by omega, rfl, ⟨O, h1, h2⟩, HB2.out, Nat.le_refl _⟩
      case round =>
        obtain ⟨k, hk, rfl, hE, hbr, hzr⟩ := hrel
        obtain ⟨O, hGS, hHO⟩ := hE.out
        obtain ⟨Vs, o1, o2, o3⟩ := hHO.ex
        obtain ⟨va, vc, rfl, hv1, hv2⟩ := Fi.own_form o1
        have hlen : (rsl g J 0 0 (pcs.take k)).length = k := by rw [rsl_len, List.length_take, Hm.out]; omega
        rw [hlen] at hv1 hHO o1 o3 ⊢
        by_cases hlt : k < m
        · obtain ⟨p, hp⟩ : ∃ p, pcs[k]? = some p := ⟨_, List.getElem?_eq_getElem (by rw [Hm.out]; exact hlt)⟩
          obtain ⟨b, off, io, ic, rfl, hb, c0, c1, c2, hic, hicm, hPL⟩ := (HP1.out.keep (Nat.le_refl _) (fun b hb => hbr.block b hb) hbr.size).at' k p hp
          obtain ⟨il, hil⟩ : ∃ il, il = p.ins.length := ⟨_, rfl⟩
          rw [← hil] at c0 hic
          have hlt' : (k : Int) < (m : Int) := by omega
          have w3 : IntKind.i64.wrap ((k : Int) + 1) = (k : Int) + 1 := wid (by omega) (by omega)
          have lb := lt_cell c0
          obtain ⟨WB, hWB⟩ : ∃ X, X = wr.alloc (Obj.cells #[.slice io il ic, .int .i64 p.n, .bool p.rest] 34) := ⟨_, rfl⟩
          have hbB : Below wr.heap.size wr WB := by rw [hWB]; exact (Below.refl _ _).alloc (Nat.le_refl _) _
          have zB : WB.heap.size = wr.heap.size + 1 := by rw [hWB]; simp
          have d0 : WB.cell? ⟨wr.heap.size, 0, none⟩ = some (.slice io il ic) := by rw [hWB]; simp [go_sem]
          have d1 : WB.cell? ⟨wr.heap.size, 1, none⟩ = some (.int .i64 p.n) := by rw [hWB]; simp [go_sem]
          have d2 : WB.cell? ⟨wr.heap.size, 2, none⟩ = some (.bool p.rest) := by rw [hWB]; simp [go_sem]
          have ld := lt_cell d0
          have HT : Hid (tst g 0 (pcs.take k) ≤ 65536 * k) := tst_le g pcs k
          have Hp : Hid (pcs[k]? = some p ∧ il = p.ins.length ∧ Fi.PL WB W1.heap.size io p.ins) := ⟨hp, hil, hPL.keep (by have := hbr.size; omega) (fun b hb => hbB.block b (by have := hbr.size; omega)) hbB.size⟩
          have HGO : Hid (GS wr x g F O (vl g (J (k - 1))) (tst g 0 (pcs.take k)) W1.heap.size ∧ HO wr w2.heap.size (Zn w2.heap.size O) (.slice va k vc) (rsl g J 0 0 (pcs.take k))) := ⟨hGS, hHO⟩
          have HFB : Hid (Below wr.heap.size wr WB ∧ WB.heap.size = wr.heap.size + 1) := ⟨hbB, zB⟩
          clear hE hGS hHO o1 o2 o3 hPL hbB zB hp hil
          cases hr : p.rest
          · have hb4 : Below W1.heap.size W1 WB ∧ w2.heap.size ≤ WB.heap.size ∧ WB.heap.size ≤ WB.heap.size := ⟨hbr.trans (HFB.out.1.mono hbr.size), by have := HFB.out.2; omega, Nat.le_refl _⟩
            obtain ⟨O4, hO4⟩ : ∃ O4, O4 = O := ⟨_, rfl⟩
            have hGS4 : GS WB x g F O4 (vl g (J k)) (t0 (tst g 0 (pcs.take k)) p) W1.heap.size := by
              have e1 : t0 (tst g 0 (pcs.take k)) p = tst g 0 (pcs.take k) := by unfold t0; rw [hr]; rfl
              have e2 : J k = J (k - 1) := by
                cases k with
                | zero => rfl
                | succ k => exact HJ.out.1 k p Hp.out.1 hr
              rw [e1, e2, hO4]
              exact HGO.out.1.bel HFB.out.1
            have hHO4 : HO WB w2.heap.size (Zn w2.heap.size O4) (.slice va k vc) (rsl g J 0 0 (pcs.take k)) := by
              rw [hO4]
              exact HGO.out.2.keep (fun b _ hl => HFB.out.1.block b hl) HFB.out.1.size (fun b hb _ => hb)
            have hPL4 := Hp.out.2.2
            have HF2 : Hid (∀ b, F b → b < w2.heap.size) := HFw.out
            rw [hr] at d2
            clear hO4 HGO HFB
            go_upto_region 8 with fail
            rw [← hr, show wr.alloc (Obj.cells #[Value.slice io il ic, .int .i64 p.n, .bool p.rest] 34) = WB from hWB.symm]
            clear hWB
            rw [hr]
            clear hr
            have HB4 : Hid (Below W1.heap.size W1 WB ∧ w2.heap.size ≤ WB.heap.size ∧ WB.heap.size ≤ WB.heap.size) := hb4
            have hq := Run_q hC x g F O4 (J k) (tst g 0 (pcs.take k)) W1.heap.size il ic p io WB hGS4 HWf.out hPL4 Hp.out.2.1.symm hic hicm (by have := HB4.out.1.size; omega) (HJ.out.2 k p Hp.out.1) (Hsol.out k) (by have := HT.out; omega)
            have HO4 : Hid (HO WB w2.heap.size (Zn w2.heap.size O4) (.slice va k vc) (rsl g J 0 0 (pcs.take k)) ∧ ∀ i b, O4 i b → b < WB.heap.size) := ⟨hHO4, fun i b hb => (hGS4.O1 i b hb).2.1⟩
            clear hGS4 hHO4 hPL4 hb4
            go_wp2_with fail
            refine hq.mono ?_
            rintro e w5 ⟨ao1, l1, c1', rfl, hOL, hGS5, hK5⟩
            have z5 := hK5.size
            have hHO5 : HO w5 w2.heap.size (Zn w2.heap.size O4) (.slice va k vc) (rsl g J 0 0 (pcs.take k)) := HO4.out.1.keep (fun b hb hl => hK5.block b hl hb.2) z5 (fun b hb _ => hb)
            obtain ⟨Vs5, r1, r2, r3⟩ := hHO5.ex
            rw [hlen] at r1
            have hlo := Fi.own_lt r1
            have hOL5 : OL w5 (Sz (Zn w2.heap.size O4) w5 (.slice va k vc)) (.slice ao1 l1 c1') (hrs g (vl g (J k)) (tst g 0 (pcs.take k)) p) := by
              obtain ⟨Vs4, y1, y2, y3⟩ := HO4.out.1.ex
              have hlo4 := Fi.own_lt y1
              exact hOL.keep (fun _ _ _ => rfl) (Nat.le_refl _) (fun b hb hl => ⟨⟨by have := HB4.out; omega, fun ⟨i, q⟩ => by have := HO4.out.2 i b q; omega⟩, hl, fun q => by have := hlo4 b q.symm; omega⟩)
            have hbC : Below w5.heap.size w5 (w5.alloc (Obj.cells #[.slice ao1 l1 c1', .int .i64 (er g p.ins p.n)] 37)) := (Below.refl _ _).alloc (Nat.le_refl _) _
            have HOw : Hid ((w5.alloc (Obj.cells #[.slice ao1 l1 c1', .int .i64 (er g p.ins p.n)] 37)).ownsRow w2.heap.size 37 2 (.slice va k vc) k Vs5) := Fi.own_step r1 (fun q hq => hbC.block q (hlo q hq))
            have hbase : w2.heap.size ≤ (w5.alloc (Obj.cells #[.slice ao1 l1 c1', .int .i64 (er g p.ins p.n)] 37)).heap.size := by have := hbC.size; have := HB4.out; omega
            have HF : Hid (∀ v' w6, w6.ownsRow w2.heap.size 37 2 v' (k + 1) (Vs5 ++ [.slice ao1 l1 c1', .int .i64 (er g p.ins p.n)]) → Fi.Gw (w5.alloc (Obj.cells #[.slice ao1 l1 c1', .int .i64 (er g p.ins p.n)] 37)) w6 (.slice va k vc) v' → (∃ O, GS w6 x g F O (vl g (J (k + 1 - 1))) (tst g 0 (pcs.take (k + 1))) W1.heap.size ∧ HO w6 w2.heap.size (Zn w2.heap.size O) v' (rsl g J 0 0 (pcs.take (k + 1)))) ∧ Below W1.heap.size W1 w6 ∧ w2.heap.size ≤ w6.heap.size) := fun v' w6 o6 g6 => by
              have hown := Fi.own_block HOw.out
              have hne : ∀ b, (F b ∨ ∃ i, O4 i b) → b < w5.heap.size → some b ≠ (Value.slice va k vc).ownBlock := fun b hb hl q => by
                have hz := hHO5.oz b q.symm
                rcases hb with hb | hb
                · have := hown b q.symm
                  have := HF2.out b hb
                  omega
                · exact hz.2 hb
              have sC := hbC.size
              have sg := g6.gr.size
              refine ⟨⟨O4, ?_, ?_⟩, ?_, by have := HB4.out; omega⟩
              · rw [tst_step g Hp.out.1, Nat.add_sub_cancel]
                exact hGS5.keep (fun b hb hl => by rw [g6.gr.block b (by omega) (hne b hb hl), hbC.block b hl]) (by omega)
              · rw [rsl_step g J Hp.out.1]
                exact hHO5.put Vs5 r2 r3 hbC g6 (by rw [hlen]; exact o6) hOL5 (fun b hb => ⟨by have := HB4.out; omega, fun ⟨i, q⟩ => by have := HO4.out.2 i b q; omega⟩)
              · have hb5 : Below W1.heap.size W1 w5 := HB4.out.1.trans (hK5.below (by have := HB4.out.1.size; omega) (fun j hj ⟨i, q⟩ => by have := (hGS5.O1 i j q).2.2; omega))
                exact hb5.trans ((hbC.mono (by have := hb5.size; omega)).trans (g6.bel (by have := hb5.size; omega) (fun q hq => by have := hown q hq; have := HB2.out.size; omega)))
            clear hOL hGS5 hK5 hHO5 r1 r2 r3 hlo hOL5 hbC hq
            go_wp2_with (at_builtin; refine wpList_append_h rfl (.tmp 40) (.tmp 44) rfl w2.heap.size _ k Vs5 rfl HOw.out w5.heap.size (.slice ao1 l1 c1') (.int .i64 (er g p.ins p.n)) rfl (by simp [go_sem]) (by simp [go_sem]) rfl rfl (by omega) hbase ?a1)
            case a1 =>
              intro v' w6 o6 g6
              obtain ⟨f1, f2, f3⟩ := HF.out v' w6 o6 g6
              have HF1 : Hid (∃ O, GS w6 x g F O (vl g (J (k + 1 - 1))) (tst g 0 (pcs.take (k + 1))) W1.heap.size ∧ HO w6 w2.heap.size (Zn w2.heap.size O) v' (rsl g J 0 0 (pcs.take (k + 1)))) := f1
              clear o6 g6 f1 HF HOw
              go_wp2_with fail
              exact ⟨⟨k + 1, by omega, by go_num, HF1, f2, f3⟩, by simp [intOf]; omega⟩
          · have hq4 := Rest_any hC x g F O _ _ W1.heap.size WB (HGO.out.1.bel HFB.out.1) HWf.out (by have := hbr.size; have := HFB.out.2; omega)
            have HX : Hid (∀ W4, RsQ WB x g F O W1.heap.size W4 → (Below W1.heap.size W1 W4 ∧ w2.heap.size ≤ W4.heap.size ∧ WB.heap.size ≤ W4.heap.size) ∧ ∃ O4, GS W4 x g F O4 (vl g (J k)) (t0 (tst g 0 (pcs.take k)) p) W1.heap.size ∧ HO W4 w2.heap.size (Zn w2.heap.size O4) (.slice va k vc) (rsl g J 0 0 (pcs.take k)) ∧ Fi.PL W4 W1.heap.size io p.ins ∧ W4.cell? ⟨wr.heap.size, 0, none⟩ = some (.slice io il ic) ∧ W4.cell? ⟨wr.heap.size, 1, none⟩ = some (.int .i64 p.n)) := fun W4 hQ => by
              obtain ⟨O', r1, r2⟩ := hQ.ex
              have sz := hQ.k.size
              have e1 : t0 (tst g 0 (pcs.take k)) p = 0 := by unfold t0; rw [hr]; rfl
              have hOl : ∀ i b, O i b → b < wr.heap.size := fun i b hb => (HGO.out.1.O1 i b hb).2.1
              have hOb : ∀ i b, O i b → W1.heap.size ≤ b := fun i b hb => (HGO.out.1.O1 i b hb).2.2
              refine ⟨⟨hbr.trans ((HFB.out.1.mono hbr.size).trans (hQ.k.below (by have := hbr.size; have := HFB.out.2; omega) (fun b hb ⟨i, q⟩ => by have := hOb i b q; omega))), by have := HFB.out.2; omega, sz⟩, O', by rw [e1]; exact r2 _, ?_, ?_, hQ.k.cell ld (fun ⟨i, q⟩ => by have := hOl i _ q; omega) d0, hQ.k.cell ld (fun ⟨i, q⟩ => by have := hOl i _ q; omega) d1⟩
              · refine (HGO.out.2.keep (w' := WB) (Z' := Zn w2.heap.size O) (fun b _ hl => HFB.out.1.block b hl) HFB.out.1.size (fun b hb _ => hb)).keep (fun b hb hl => hQ.k.block b hl hb.2) sz (fun b hb hl => ⟨hb.1, fun ⟨i, q⟩ => ?_⟩)
                rcases r1 i b q with q' | q'
                · exact hb.2 ⟨i, q'⟩
                · omega
              · exact Hp.out.2.2.keep (by have := hbr.size; have := HFB.out.2; omega) (fun b hb => hQ.k.block b (by have := hbr.size; have := HFB.out.2; omega) (fun ⟨i, q⟩ => by have := hOb i b q; omega)) sz
            have HF2 : Hid (∀ b, F b → b < w2.heap.size) := HFw.out
            rw [hr] at d2
            clear HGO HFB
            go_upto_region 8 with fail
            rw [← hr, show wr.alloc (Obj.cells #[Value.slice io il ic, .int .i64 p.n, .bool p.rest] 34) = WB from hWB.symm]
            clear hWB
            rw [hr]
            clear hr
            go_wp2_with fail
            refine hq4.mono ?_
            rintro e W4 ⟨rfl, hRs⟩
            obtain ⟨hb4, O4, hGS4, hHO4, hPL4, d0, d1⟩ := HX.out W4 hRs
            have ld := lt_cell d0
            clear hRs HX hq4
            have HB4 : Hid (Below W1.heap.size W1 W4 ∧ w2.heap.size ≤ W4.heap.size ∧ WB.heap.size ≤ W4.heap.size) := hb4
            have hq := Run_q hC x g F O4 (J k) (tst g 0 (pcs.take k)) W1.heap.size il ic p io W4 hGS4 HWf.out hPL4 Hp.out.2.1.symm hic hicm (by have := HB4.out.1.size; omega) (HJ.out.2 k p Hp.out.1) (Hsol.out k) (by have := HT.out; omega)
            have HO4 : Hid (HO W4 w2.heap.size (Zn w2.heap.size O4) (.slice va k vc) (rsl g J 0 0 (pcs.take k)) ∧ ∀ i b, O4 i b → b < W4.heap.size) := ⟨hHO4, fun i b hb => (hGS4.O1 i b hb).2.1⟩
            clear hGS4 hHO4 hPL4 hb4
            go_wp2_with fail
            refine hq.mono ?_
            rintro e w5 ⟨ao1, l1, c1', rfl, hOL, hGS5, hK5⟩
            have z5 := hK5.size
            have hHO5 : HO w5 w2.heap.size (Zn w2.heap.size O4) (.slice va k vc) (rsl g J 0 0 (pcs.take k)) := HO4.out.1.keep (fun b hb hl => hK5.block b hl hb.2) z5 (fun b hb _ => hb)
            obtain ⟨Vs5, r1, r2, r3⟩ := hHO5.ex
            rw [hlen] at r1
            have hlo := Fi.own_lt r1
            have hOL5 : OL w5 (Sz (Zn w2.heap.size O4) w5 (.slice va k vc)) (.slice ao1 l1 c1') (hrs g (vl g (J k)) (tst g 0 (pcs.take k)) p) := by
              obtain ⟨Vs4, y1, y2, y3⟩ := HO4.out.1.ex
              have hlo4 := Fi.own_lt y1
              exact hOL.keep (fun _ _ _ => rfl) (Nat.le_refl _) (fun b hb hl => ⟨⟨by have := HB4.out; omega, fun ⟨i, q⟩ => by have := HO4.out.2 i b q; omega⟩, hl, fun q => by have := hlo4 b q.symm; omega⟩)
            have hbC : Below w5.heap.size w5 (w5.alloc (Obj.cells #[.slice ao1 l1 c1', .int .i64 (er g p.ins p.n)] 37)) := (Below.refl _ _).alloc (Nat.le_refl _) _
            have HOw : Hid ((w5.alloc (Obj.cells #[.slice ao1 l1 c1', .int .i64 (er g p.ins p.n)] 37)).ownsRow w2.heap.size 37 2 (.slice va k vc) k Vs5) := Fi.own_step r1 (fun q hq => hbC.block q (hlo q hq))
            have hbase : w2.heap.size ≤ (w5.alloc (Obj.cells #[.slice ao1 l1 c1', .int .i64 (er g p.ins p.n)] 37)).heap.size := by have := hbC.size; have := HB4.out; omega
            have HF : Hid (∀ v' w6, w6.ownsRow w2.heap.size 37 2 v' (k + 1) (Vs5 ++ [.slice ao1 l1 c1', .int .i64 (er g p.ins p.n)]) → Fi.Gw (w5.alloc (Obj.cells #[.slice ao1 l1 c1', .int .i64 (er g p.ins p.n)] 37)) w6 (.slice va k vc) v' → (∃ O, GS w6 x g F O (vl g (J (k + 1 - 1))) (tst g 0 (pcs.take (k + 1))) W1.heap.size ∧ HO w6 w2.heap.size (Zn w2.heap.size O) v' (rsl g J 0 0 (pcs.take (k + 1)))) ∧ Below W1.heap.size W1 w6 ∧ w2.heap.size ≤ w6.heap.size) := fun v' w6 o6 g6 => by
              have hown := Fi.own_block HOw.out
              have hne : ∀ b, (F b ∨ ∃ i, O4 i b) → b < w5.heap.size → some b ≠ (Value.slice va k vc).ownBlock := fun b hb hl q => by
                have hz := hHO5.oz b q.symm
                rcases hb with hb | hb
                · have := hown b q.symm
                  have := HF2.out b hb
                  omega
                · exact hz.2 hb
              have sC := hbC.size
              have sg := g6.gr.size
              refine ⟨⟨O4, ?_, ?_⟩, ?_, by have := HB4.out; omega⟩
              · rw [tst_step g Hp.out.1, Nat.add_sub_cancel]
                exact hGS5.keep (fun b hb hl => by rw [g6.gr.block b (by omega) (hne b hb hl), hbC.block b hl]) (by omega)
              · rw [rsl_step g J Hp.out.1]
                exact hHO5.put Vs5 r2 r3 hbC g6 (by rw [hlen]; exact o6) hOL5 (fun b hb => ⟨by have := HB4.out; omega, fun ⟨i, q⟩ => by have := HO4.out.2 i b q; omega⟩)
              · have hb5 : Below W1.heap.size W1 w5 := HB4.out.1.trans (hK5.below (by have := HB4.out.1.size; omega) (fun j hj ⟨i, q⟩ => by have := (hGS5.O1 i j q).2.2; omega))
                exact hb5.trans ((hbC.mono (by have := hb5.size; omega)).trans (g6.bel (by have := hb5.size; omega) (fun q hq => by have := hown q hq; have := HB2.out.size; omega)))
            clear hOL hGS5 hK5 hHO5 r1 r2 r3 hlo hOL5 hbC hq
            go_wp2_with (at_builtin; refine wpList_append_h rfl (.tmp 40) (.tmp 44) rfl w2.heap.size _ k Vs5 rfl HOw.out w5.heap.size (.slice ao1 l1 c1') (.int .i64 (er g p.ins p.n)) rfl (by simp [go_sem]) (by simp [go_sem]) rfl rfl (by omega) hbase ?a1)
            case a1 =>
              intro v' w6 o6 g6
              obtain ⟨f1, f2, f3⟩ := HF.out v' w6 o6 g6
              have HF1 : Hid (∃ O, GS w6 x g F O (vl g (J (k + 1 - 1))) (tst g 0 (pcs.take (k + 1))) W1.heap.size ∧ HO w6 w2.heap.size (Zn w2.heap.size O) v' (rsl g J 0 0 (pcs.take (k + 1)))) := f1
              clear o6 g6 f1 HF HOw
              go_wp2_with fail
              exact ⟨⟨k + 1, by omega, by go_num, HF1, f2, f3⟩, by simp [intOf]; omega⟩
        · obtain rfl : k = m := by omega
          have htk : pcs.take k = pcs := List.take_of_length_le (by rw [Hm.out]; exact Nat.le_refl _)
          have HE2 : Hid (SoQ w g pcs J (.returned (.tuple #[.slice va k vc, .int .i64 0])) wr) := by
            rw [htk] at hHO
            exact HE.out wr _ (HB1.out.trans (hbr.mono HB1.out.size)) hzr ⟨O, hHO⟩
          clear hE hGS hHO o1 o2 o3
          go_wp2_with fail
          go_returns
          exact HE2.out
  · have he := hQ.bad hn
    subst he
    have HE : Hid (SoQ w g pcs J (.returned (.tuple #[.slice none 0 0, .int .i64 (ne0 g)])) w2) := ⟨HB2w.out, fun _ => rfl, fun h => absurd h hn, fun h => absurd h hn⟩
    obtain ⟨r, hr⟩ : ∃ r, r = ne0 g := ⟨_, rfl⟩
    rw [← hr] at HE hn ⊢
    clear hQ q1 hr
    go_wp2_with fail
    go_returns
    exact HE.out
end Go.Proofs.Ytjpcebnbkdekkaa.Gh

/- alive; what is heard, read. -/
namespace Go.Proofs.Ytjpcebnbkdekkaa.Gh
open Go.RowKit Go.Maps Go.Sort Fl
set_option linter.unusedVariables false
set_option linter.unusedSimpArgs false

def gA : Gr := ⟨0, [⟨2, [], 0, 4611686018427387904, ⟨0, 0, 0, 0, 0⟩, ⟨0, 0, 0, 0, 0, 0, 0⟩⟩], [0]⟩
def pA : List Pc := [⟨[], 1, false⟩]
theorem gA_ne : ne0 gA = 0 := by decide
theorem gA_ac : ¬ Cyc gA := by
  rintro ⟨n, i, hi, hr⟩
  have hi0 : i = 0 := by have : i < 1 := hi; omega
  subst hi0
  cases n with
  | zero => obtain ⟨x, hx, _⟩ := hr; cases hx
  | succ n => obtain ⟨c, ⟨x, hx, _⟩, _⟩ := hr; cases hx
theorem gA_r (J : Nat → Hist) : rsl gA J 0 0 pA = [([[some 4611686018427387904]], 0)] := by
  have e1 : er gA [] 1 = 0 := by decide
  show [(hrs gA (vl gA (J 0)) 0 ⟨[], 1, false⟩, er gA [] 1)] = _
  rw [e1]
  have e2 : hrs gA (vl gA (J 0)) 0 ⟨[], 1, false⟩ = [[vl gA (J 0) 0 0]] := by unfold hrs; rw [if_pos e1]; rfl
  rw [e2]
  have e3 : vl gA (J 0) 0 0 = ab 4611686018427387904 := rfl
  rw [e3]
  decide
/-- What was heard of piece j: its lists. -/
theorem HO.at {w : World} {base : Nat} {Z : Nat → Prop} {v : Value} {R : List (List (List (Option Nat)) × Int)} (h : HO w base Z v R) {j : Nat} {r : List (List (Option Nat)) × Int} (hj : R[j]? = some r) : ∃ q cap ao c, v = .slice (some ⟨q, 0, none⟩) R.length cap ∧ R.length ≤ cap ∧ cap ≤ 9223372036854775807 ∧ q < w.heap.size ∧ Z q ∧ w.cell? ⟨q, j * 2, none⟩ = some (.slice ao r.1.length c) ∧ w.cell? ⟨q, j * 2 + 1, none⟩ = some (.int .i64 r.2) ∧ OL w (Sz Z w v) (.slice ao r.1.length c) r.1 ∧ r.1.length ≤ c ∧ c ≤ 9223372036854775807 := by
  obtain ⟨Vs, h1, h2, h3⟩ := h.ex
  have hjl := (List.getElem?_eq_some_iff.1 hj).1
  rcases h1.2 with ⟨e1, e2⟩ | ⟨q, cap, cur, e1, e2, e3, e4, hm, rest⟩
  · omega
  · obtain ⟨x, x1, x2, x3⟩ := h3 j r hj
    obtain ⟨ao, c, y1, y2, y3, y4⟩ := x3.ex
    subst y1
    have hoz := h.oz q (by rw [e1]; rfl)
    subst e1
    refine ⟨q, cap, ao, c, rfl, e4, by unfold maxLen at hm; omega, (Array.getElem?_eq_some_iff.1 e3).1, hoz, ?_, ?_, x3, y2, y3⟩
    · rw [World.ownsRow.cellAt h1 (j * 2) (by omega)]; exact x1
    · rw [World.ownsRow.cellAt h1 (j * 2 + 1) (by omega)]; exact x2
theorem cirC : Vo.CirC := fun k w hk => Vo.circle_any k w hk
end Go.Proofs.Ytjpcebnbkdekkaa.Gh

/- alive, walked. -/
namespace Go.Proofs.Ytjpcebnbkdekkaa.Gh
open Go.RowKit Go.Maps Go.Sort Fl
set_option linter.unusedVariables false
set_option linter.unusedSimpArgs false

theorem cal_cast {f} {xs ys : Array Value} {w v : World} {Q : Ending → World → Prop} (h : Calls Try.prog f xs w Q) (hw : w = v) (ha : xs = ys) : Calls Try.prog f ys v Q := by
  subst hw; subst ha; exact h
@[reducible] def nA : Array Value := #[.int .i64 2, .slice none 0 0, .int .i64 0, .float .f64 4611686018427387904, .float .f64 0, .float .f64 0, .float .f64 0, .float .f64 0, .float .f64 0, .int .i64 0, .int .u32 0, .float .f64 0, .int .i64 0, .int .i64 0, .int .i64 0, .int .i64 0]
set_option maxRecDepth 8000 in
set_option maxHeartbeats 4000000 in
theorem alive_any (w : World) : Calls Try.prog 12 #[] w fun e w' => e = .returned (.bool true) ∧ Below w.heap.size w w' := by
  obtain ⟨W3, hW3⟩ : ∃ X, X = ((w.alloc (Obj.cells nA 53)).alloc (Obj.cells #[.int .i64 0] 3)).alloc (Obj.cells #[.slice none 0 0, .int .i64 1, .bool false] 34) := ⟨_, rfl⟩
  have HB : Hid (Below w.heap.size w W3) := by rw [hW3]; exact (((Below.refl _ _).alloc (Nat.le_refl _) _).alloc (by simp) _).alloc (by simp; omega) _
  have z3 : W3.heap.size = w.heap.size + 3 := by rw [hW3]; simp
  have hcA : ∀ (j : Nat) v, nA[j]? = some v → W3.cell? ⟨w.heap.size, j, none⟩ = some v := fun j v hv => by
    rw [hW3]
    simpa [go_sem, nA] using hv
  have hGH : GH W3 (fun b => b < W3.heap.size) gA (some ⟨w.heap.size, 0, none⟩) (some ⟨w.heap.size + 1, 0, none⟩) 1 1 := by
    refine ⟨⟨fun i d hd => ?_⟩, Nat.le_refl _, ⟨fun _ => ⟨w.heap.size + 1, 0, rfl, by omega, by omega, fun j y hj => ?_⟩⟩, Nat.le_refl _, by omega, fun h => by cases h⟩
    · have hi : i = 0 := by have := (List.getElem?_eq_some_iff.1 hd).1; have h1 : i < 1 := this; omega
      subst hi
      cases hd
      refine ⟨w.heap.size, 0, none, 0, rfl, by omega, by omega, fun j v hv => ?_, ⟨⟨fun h => absurd h (by decide)⟩, by decide, by decide, fun _ => rfl, by decide, by decide, by decide, by decide⟩⟩
      have := hcA j v hv
      simpa using this
    · have hj0 : j = 0 := by have := (List.getElem?_eq_some_iff.1 hj).1; have h1 : j < 1 := this; omega
      subst hj0
      cases hj
      rw [hW3]; simp [go_sem]
  have hPc : PcL W3 W3.heap.size (some ⟨w.heap.size + 2, 0, none⟩) pA := ⟨fun i p hp => by
    have hi : i = 0 := by have := (List.getElem?_eq_some_iff.1 hp).1; have h1 : i < 1 := this; omega
    subst hi
    cases hp
    refine ⟨w.heap.size + 2, 0, none, 0, rfl, by omega, ?_, ?_, ?_, by decide, by decide, ⟨fun h => absurd h (by decide)⟩⟩
    · rw [hW3]; simp [go_sem]
    · rw [hW3]; simp [go_sem]
    · rw [hW3]; simp [go_sem]⟩
  have hq := Sound_any cirC gA (some ⟨w.heap.size, 0, none⟩) (some ⟨w.heap.size + 1, 0, none⟩) 1 1 pA (some ⟨w.heap.size + 2, 0, none⟩) 1 1 (fun _ _ _ => none) W3 hGH hPc rfl (by omega) (by omega) (by omega) (fun k p h => by cases h) (fun k p h _ q l hl => by
    have hi : k = 0 := by have := (List.getElem?_eq_some_iff.1 h).1; have h1 : k < 1 := this; omega
    subst hi
    cases h
    cases hl)
  clear hGH hPc hcA
  have hord : FloatKind.f64.format.order 4611686018427387904 4611686018427387904 = some .eq := by decide
  go_enter Try.func12, Try.ntmps12
  go_wp2_with fail
  refine (cal_cast hq hW3 rfl).mono ?_
  rintro e w1 hS
  obtain ⟨v, base, rfl, hb1, hb2, hH⟩ := hS.ok gA_ne gA_ac
  rw [gA_r] at hH
  have HB2 : Hid (Below w.heap.size w w1) := Below.trans HB.out (hS.b.mono (by omega))
  clear hq hS hW3
  obtain ⟨q, cap, ao, c, rfl, k1, k2, k3, k4, k5, k6, k7, k8, k9⟩ := hH.at (j := 0) (r := ([[some 4611686018427387904]], 0)) rfl
  obtain ⟨ao', c', m1, m2, m3, m4⟩ := k7.ex
  cases m1
  obtain ⟨b, off, rfl, n2, n3, n4⟩ := m4 (by decide)
  obtain ⟨x, x1, x2⟩ := n4 0 _ rfl
  obtain ⟨gg, ag, cg, y1, y2, y3, y4, y5, y6⟩ := x2.ex
  subst y1
  obtain ⟨hl1, hg0⟩ : gg.length = 1 ∧ gg[0]? = some 4611686018427387904 := by
    have := congrArg List.length y5
    rw [Fi.abs_len] at this
    have h1 : gg.length = 1 := this
    refine ⟨h1, ?_⟩
    cases h : gg[0]? with
    | none => have := List.getElem?_eq_none_iff.1 h; omega
    | some x =>
      have h2 := Fi.abs_get h
      rw [y5] at h2
      have h3 : ab x = some 4611686018427387904 := (Option.some.inj h2).symm
      unfold ab at h3
      split at h3
      · cases h3
      · exact h3
  obtain ⟨b2, off2, rfl, _, _, z4⟩ := y6.at' (by omega)
  have c4 := (z4 0 _ hg0).1
  rw [hl1] at x1 y2
  have c1 : w1.cell? ⟨q, 0, none⟩ = some (.slice (some ⟨b, off, none⟩) 1 c) := k5
  have c2 : w1.cell? ⟨b, off, none⟩ = some (.slice (some ⟨b2, off2, none⟩) 1 cg) := x1
  have c3 : w1.cell? ⟨b2, off2, none⟩ = some (.float .f64 4611686018427387904) := c4
  have HB3 := HB2
  clear m4 n4 x2 hH k7 y6 z4 hg0 hl1 y5 c4 x1 k5 k6 m2 k8 y4 y2 n2 n3 HB HB2 z3 hb1 hb2 k4 m3 k9
  go_wp2_with fail
  go_returns
  exact ⟨rfl, HB3.out⟩

end Go.Proofs.Ytjpcebnbkdekkaa.Gh
