/- A player in memory; what New, Seek, At and Next come to. -/
import Derived.Test.YtaohahahhjkcdahX6
import Derived.Test.YtaohahahhjkcdahX9
namespace Go.Proofs.Ytaohahahhjkcdah.X
open Go.RowKit Go.Maps Go.Sort
set_option linter.unusedVariables false
set_option linter.unusedSimpArgs false

theorem parts_any (l : List M.Pt) : ∀ (start : Int) (w : World) (q base : Nat) (f t : Int) (v : Value) (out : List Z.M.Ev) (ao : Option Addr) (c : Nat), PL w (· < q) ao l → l.length ≤ c → c ≤ 9223372036854775807 → Ea w q base f t v out → out.length ≤ 4096 →
    (∀ p ∈ l, M.Pok p ∧ 0 ≤ start + p.s ∧ start + p.s + p.t * p.o ≤ 1125899906842624) → 0 ≤ f → f ≤ 1125899906842624 → t ≤ 1125899906842624 →
    Calls Try.prog 23 #[.pointer (some ⟨q, 0, none⟩), .slice ao l.length c, .int .i64 start] w fun e w' => e = .returned (.bool (decide (out.length + (M.win f t (M.pes l start)).length ≤ 4096))) ∧ EQ w q base f t v out (M.win f t (M.pes l start)) w' :=
  fun start w q base f t v out ao c h1 h2 h3 h4 h5 h6 h7 h8 h9 => parts_list l (fun p _ => part_any p) start w q base f t v out ao c h1 h2 h3 h4 h5 h6 h7 h8 h9
/-- A player: its parts, which are those of sections that are right, and where it is. -/
structure Plr (w : World) (pp : Nat) (l : List M.Sc) (at' : Int) : Prop where
  c0 : ∃ ao c, w.cell? ⟨pp, 0, none⟩ = some (.slice ao (M.hds l 0).length c) ∧ (M.hds l 0).length ≤ c ∧ c ≤ 9223372036854775807 ∧ PL w (· < pp) ao (M.hds l 0)
  c1 : w.cell? ⟨pp, 1, none⟩ = some (.int .i64 at')
  z1 : w.frozen? ⟨pp, 1, none⟩ = false
  lt : pp < w.heap.size
  a0 : 0 ≤ at'
  a1 : at' ≤ 1125899906842624
theorem Plr.bel {w w' : World} {pp : Nat} {l : List M.Sc} {a : Int} (h : Plr w pp l a) (hb : Below w.heap.size w w') : Plr w' pp l a := by
  obtain ⟨ao, c, h1, h2, h3, h4⟩ := h.c0
  have := h.lt; have := hb.size
  exact ⟨⟨ao, c, keepC hb h.lt h1, h2, h3, h4.keep (fun b hb' => hb.block b (by omega)) (fun _ h => h)⟩, keepC hb h.lt h.c1, keepF hb h.lt h.z1, by omega, h.a0, h.a1⟩
theorem Plr.put {w : World} {pp : Nat} {l : List M.Sc} {a : Int} (h : Plr w pp l a) {x : Int} (h0 : 0 ≤ x) (h1 : x ≤ 1125899906842624) : Plr (w.setCell ⟨pp, 1, none⟩ (.int .i64 x)) pp l x := by
  obtain ⟨ao, c, g1, g2, g3, g4⟩ := h.c0
  refine ⟨⟨ao, c, (World.cell?_setCell_other _ _ _ _ (fun e => absurd (show (1 : Nat) = 0 from congrArg Addr.off e) (by decide))).trans g1, g2, g3, g4.keep (fun b hb => Below.heap_setCell _ _ _ _ (by show b ≠ pp; omega)) (fun _ h => h)⟩, World.cell?_setCell_same _ _ _ h.c1, (World.frozen?_setCell _ _ _ _).trans h.z1, by simpa [World.setCell] using h.lt, h0, h1⟩
theorem M.pok_all {l : List M.Sc} (h : ∀ s ∈ l, M.Ok s) (ht : M.tots l ≤ 1125899906842624) : ∀ p ∈ M.hds l 0, M.Pok p ∧ 0 ≤ 0 + p.s ∧ 0 + p.s + p.t * p.o ≤ 1125899906842624 := fun p hp => by
  obtain ⟨h1, h2, h3⟩ := M.hds_mem l h 0 p hp
  exact ⟨h1, by omega, by omega⟩
/-- What New answers. -/
structure NewQ (w : World) (l : List M.Sc) (e : Ending) (w' : World) : Prop where
  b : Below w.heap.size w w'
  bad : (M.cks l 1 0 0).1 ≠ 0 → e = .returned (.tuple #[.pointer none, .int .i64 (M.cks l 1 0 0).1])
  ok : (M.cks l 1 0 0).1 = 0 → ∃ pp, e = .returned (.tuple #[.pointer (some ⟨pp, 0, none⟩), .int .i64 0]) ∧ w.heap.size ≤ pp ∧ Plr w' pp l 0
set_option maxHeartbeats 2000000 in
theorem New_any (l : List M.Sc) (w : World) (ao : Option Addr) (c : Nat) (hL : LL w (· < w.heap.size) ao l) (hc : l.length ≤ c) (hcm : c ≤ 9223372036854775807) :
    Calls Try.prog 15 #[.slice ao l.length c] w fun e w' => NewQ w l e w' := by
  have HLg := Long_any l w ao c hL hc hcm
  have HB : Hid ((M.cks l 1 0 0).1 ≠ 0 → (M.cks l 1 0 0).2.2 = 0) := M.cks_bad l 1 0 0
  by_cases hz : (M.cks l 1 0 0).1 = 0
  · obtain ⟨g1, g2, g3, g4, g5, g6⟩ := M.cks_right (by omega) (by omega) (by omega) hz
    have hlen : l.length ≤ 256 := by omega
    have HH := fun (W : World) (hb : Below w.heap.size w W) => heard_any l 0 W w.heap.size ao c (hL.keep (Kp.below hb)) hb.size hc hcm g6 hlen (by omega) (by omega) (by omega)
    rw [hz] at HLg
    have Hz : Hid ((M.cks l 1 0 0).1 = 0) := hz
    clear g1 g2 g3 g4 g5 g6 HB hz
    generalize (M.cks l 1 0 0).2.2 = VL at *
    generalize 0 + M.tots l = TL at *
    go_enter Try.func15, Try.ntmps15
    go_wp2_with fail
    refine HLg.mono ?_
    rintro e w1 ⟨rfl, hb1⟩
    go_wp2_with fail
    refine (HH _ hb1).mono ?_
    rintro e w2 ⟨v, rfl, hO, hb2⟩
    obtain ⟨ka, kc, rfl, hk1, hk2, hP⟩ := hO.pl
    have HP : Hid (PL w2 (fun b => w1.heap.size ≤ b ∧ b < w2.heap.size) ka (M.hds l 0)) := hP
    have hb02 : Below w.heap.size w w2 := hb1.trans (hb2.mono hb1.size)
    clear hO hP HH HLg hb1 hb2
    go_wp2_with fail
    go_returns
    have hb3 : Below w2.heap.size w2 (w2.alloc (Obj.cells #[.slice ka (M.hds l 0).length kc, .int .i64 0] 69)) := (Below.refl _ _).alloc (Nat.le_refl _) _
    refine ⟨hb02.trans (hb3.mono hb02.size), fun h => absurd Hz.out h, fun _ => ⟨w2.heap.size, rfl, hb02.size, ⟨ka, kc, by simp [go_sem], hk1, hk2, ?_⟩, by simp [go_sem], by simp [go_sem], by simp, by omega, by omega⟩⟩
    exact HP.out.keep (fun b hb => hb3.block b hb.2) (fun b hb => hb.2)
  · have e2 := HB.out hz
    rw [e2] at HLg
    have Hz : Hid ((M.cks l 1 0 0).1 ≠ 0) := hz
    obtain ⟨V, hV⟩ : ∃ V, V = (M.cks l 1 0 0).1 := ⟨_, rfl⟩
    rw [← hV] at HLg
    have HV : Hid (V = (M.cks l 1 0 0).1) := hV
    have hy : (V != 0) = true := by rw [hV]; simpa using hz
    clear HB hz e2 hV
    go_enter Try.func15, Try.ntmps15
    go_wp2_with fail
    refine HLg.mono ?_
    rintro e w1 ⟨rfl, hb1⟩
    go_wp2_with fail
    go_returns
    exact ⟨hb1, fun _ => by rw [← HV.out]; rfl, fun h => absurd h Hz.out⟩
/-- Seek: what is wrong, and where the player is then. -/
def M.sk (a x : Int) : Int × Int := if x < 0 ∨ 1125899906842624 < x then (3, a) else (0, x)
theorem Seek_any (l : List M.Sc) (pp : Nat) (a x : Int) (w : World) (hP : Plr w pp l a) :
    Calls Try.prog 16 #[.pointer (some ⟨pp, 0, none⟩), .int .i64 x] w fun e w' => e = .returned (.int .i64 (M.sk a x).1) ∧ Plr w' pp l (M.sk a x).2 ∧ w'.heap.size = w.heap.size ∧ (∀ j, j ≠ pp → w'.heap[j]? = w.heap[j]?) ∧ Below pp w w' := by
  have c1 := hP.c1
  have z1 := hP.z1
  have lt := hP.lt
  by_cases h : x < 0 ∨ 1125899906842624 < x
  · rw [show M.sk a x = (3, a) from if_pos h]
    rcases (show x < 0 ∨ (¬ x < 0 ∧ 1125899906842624 < x) by omega) with h | ⟨h, h'⟩
    all_goals
      go_enter Try.func16, Try.ntmps16
      go_wp2_with fail
      go_ret
      exact ⟨rfl, hP, rfl, fun _ _ => rfl, Below.refl _ _⟩
  · rw [show M.sk a x = (0, x) from if_neg h]
    have h1 : ¬ x < 0 := by omega
    have h2 : ¬ 1125899906842624 < x := by omega
    have hR := hP.put (x := x) (by omega) (by omega)
    clear h
    go_enter Try.func16, Try.ntmps16
    go_wp2_with fail
    go_ret
    exact ⟨rfl, hR, by simp [World.setCell], fun j hj => Below.heap_setCell _ _ _ _ hj, (Below.refl pp w).setCell (p := ⟨pp, 1, none⟩) (Nat.le_refl _) _⟩
theorem At_any (l : List M.Sc) (pp : Nat) (a : Int) (w : World) (hP : Plr w pp l a) :
    Calls Try.prog 18 #[.pointer (some ⟨pp, 0, none⟩)] w fun e w' => e = .returned (.int .i64 a) ∧ w' = w := by
  have c1 := hP.c1
  have lt := hP.lt
  go_enter Try.func18, Try.ntmps18
  go_wp2_with fail
  go_ret
  exact ⟨rfl, rfl⟩
/-- Next: what is wrong, the events, and where the player is then. -/
def M.nx (E : List Z.M.Ev) (a x : Int) : Int × List Z.M.Ev × Int := if x < 0 ∨ 1125899906842624 - a < x then (3, [], a) else if (M.win a (a + x) E).length ≤ 4096 then (0, M.win a (a + x) E, a + x) else (5, [], a)
/-- A slice value that lies as events, in blocks of S. -/
def EVs (w : World) (S : Nat → Prop) (v : Value) (L : List Z.M.Ev) : Prop := ∃ ao c, v = .slice ao L.length c ∧ L.length ≤ c ∧ c ≤ 9223372036854775807 ∧ EL w S ao L
theorem EVs.nil (w : World) (S : Nat → Prop) : EVs w S (.slice none 0 0) [] := ⟨none, 0, rfl, Nat.le_refl _, by omega, ⟨fun h => by simp at h⟩⟩
theorem EVs.keep {w w' : World} {S S' : Nat → Prop} {v : Value} {L : List Z.M.Ev} (h : EVs w S v L) (hk : Kp S w w') (hs : ∀ b, S b → S' b) : EVs w' S' v L := by
  obtain ⟨ao, c, h1, h2, h3, h4⟩ := h
  exact ⟨ao, c, h1, h2, h3, (h4.keep hk).mono hs⟩
/-- What Next leaves. -/
structure NxQ (w : World) (pp : Nat) (l : List M.Sc) (r : Int × List Z.M.Ev × Int) (e : Ending) (w' : World) : Prop where
  ex : ∃ v, e = .returned (.tuple #[v, .int .i64 r.1]) ∧ EVs w' (fun b => w.heap.size ≤ b ∧ b < w'.heap.size) v r.2.1
  p : Plr w' pp l r.2.2
  z : w.heap.size ≤ w'.heap.size
  k : ∀ j, j < w.heap.size → j ≠ pp → w'.heap[j]? = w.heap[j]?
  b : Below pp w w'
set_option maxHeartbeats 4000000 in
theorem Next_any (l : List M.Sc) (hok : ∀ s ∈ l, M.Ok s) (htot : M.tots l ≤ 1125899906842624) (pp : Nat) (a x : Int) (w : World) (hP : Plr w pp l a) (hx : x ≤ 9223372036854775807) :
    Calls Try.prog 17 #[.pointer (some ⟨pp, 0, none⟩), .int .i64 x] w fun e w' => NxQ w pp l (M.nx (M.pls l 0) a x) e w' := by
  have c1 := hP.c1
  have z1 := hP.z1
  have lt := hP.lt
  have a0 := hP.a0
  have a1 := hP.a1
  obtain ⟨ka, kc, c0, hk1, hk2, hPL⟩ := hP.c0
  have ws : IntKind.i64.wrap (1125899906842624 - a) = 1125899906842624 - a := wid (by omega) (by omega)
  by_cases h : x < 0 ∨ 1125899906842624 - a < x
  · rw [show M.nx (M.pls l 0) a x = (3, [], a) from if_pos h]
    have HR : Hid (∀ e, e = .returned (.tuple #[.slice none 0 0, .int .i64 3]) → NxQ w pp l (3, [], a) e w) := fun e he => ⟨⟨_, he, EVs.nil _ _⟩, hP, Nat.le_refl _, fun _ _ _ => rfl, Below.refl _ _⟩
    rcases (show x < 0 ∨ (¬ x < 0 ∧ 1125899906842624 - a < x) by omega) with h | ⟨h, h'⟩
    all_goals
      go_enter Try.func17, Try.ntmps17
      go_wp2_with fail
      go_returns
      exact HR.out _ rfl
  · have h1 : ¬ x < 0 := by omega
    have h2 : ¬ 1125899906842624 - a < x := by omega
    have wx : IntKind.i64.wrap (a + x) = a + x := wid (by omega) (by omega)
    have hE : M.pes (M.hds l 0) 0 = M.pls l 0 := M.pes_hds l 0 0
    have HN : Hid (M.nx (M.pls l 0) a x = if (M.win a (a + x) (M.pls l 0)).length ≤ 4096 then (0, M.win a (a + x) (M.pls l 0), a + x) else (5, [], a)) := if_neg h
    have HPP := fun (W : World) (q base : Nat) h1 h2 h3 => parts_any (M.hds l 0) 0 W q base a (a + x) (.slice none 0 0) [] ka kc h1 hk1 hk2 h2 h3 (M.pok_all hok htot) a0 a1 (by omega)
    rw [hE] at HPP
    have HPl : Hid (Plr w pp l a) := hP
    have HPL : Hid (PL w (· < pp) ka (M.hds l 0)) := hPL
    clear h hE hP hPL
    generalize M.nx (M.pls l 0) a x = R at *
    generalize M.win a (a + x) (M.pls l 0) = L at *
    go_enter Try.func17, Try.ntmps17
    go_wp2_with fail
    go_cut [6] (fun c wx => c = .pointer (some ⟨w.heap.size, 0, none⟩) ∧ Below w.heap.size w wx ∧ w.heap.size < wx.heap.size ∧ wx.cell? ⟨w.heap.size, 0, none⟩ = some (.int .i64 a) ∧ wx.cell? ⟨w.heap.size, 1, none⟩ = some (.int .i64 (a + x)) ∧ wx.cell? ⟨w.heap.size, 2, none⟩ = some (.slice none 0 0) ∧ wx.frozen? ⟨w.heap.size, 2, none⟩ = false)
    case first =>
      go_region
      all_goals
        go_wp2_with fail
        go_meet
        case rel => exact ⟨rfl, by go_grown, by simp, by simp [go_sem], by simp [go_sem], by simp [go_sem], by simp [go_sem]⟩
    case rest =>
      obtain ⟨rfl, hb1, zz, y0, y1, y2, yf⟩ := hcut
      rename World => w1
      have hA1 : Ea w1 w.heap.size (w.heap.size + 1) a (a + x) (.slice none 0 0) [] := ⟨y0, y1, y2, yf, Z.OE.nil _ _, by omega, by omega⟩
      have x0 := keepC hb1 lt c0
      have hp1 : pp < w1.heap.size := by omega
      have hL1 : PL w1 (· < w.heap.size) ka (M.hds l 0) := HPL.out.keep (fun b hb => hb1.block b (by omega)) (fun b hb => by omega)
      have HC := HPP w1 w.heap.size (w.heap.size + 1) hL1 hA1 (by simp)
      have HPl1 : Hid (Plr w1 pp l a) := HPl.out.bel hb1
      clear HPP hL1 hA1 HPL HPl y2 yf y0 y1
      by_cases cL : L.length ≤ 4096
      · have hR := HN.out
        rw [if_pos cL] at hR
        subst hR
        have cL' : ([] : List Z.M.Ev).length + L.length ≤ 4096 := by simpa using cL
        rw [decide_eq_true cL'] at HC
        have CL : Hid (([] : List Z.M.Ev).length + L.length ≤ 4096) := cL'
        clear HN cL cL'
        go_wp2_with fail
        refine HC.mono ?_
        rintro e w2 ⟨rfl, hEQ⟩
        obtain ⟨v2, g2, a2⟩ := hEQ.ex
        have A2 := a2 CL.out
        rw [List.nil_append] at A2
        have e1 := A2.c1
        have e2 := A2.c2
        have hown := A2.own
        obtain ⟨va, vc, rfl, hv1, hv2⟩ := OE.form hown
        have hnn : some pp ≠ (Value.slice none 0 0).ownBlock := by simp [Value.ownBlock]
        have hb2 : Below w.heap.size w w2 := hb1.trans g2.b
        have z2 : w.heap.size < w2.heap.size := by have := g2.z; omega
        have hP2 : Plr w2 pp l a := by
          obtain ⟨ao', c', h1, h2, h3, h4⟩ := HPl1.out.c0
          exact ⟨⟨ao', c', keepC g2.b lt h1, h2, h3, h4.keep (fun b hb => g2.b.block b (Nat.lt_trans hb lt)) (fun _ h => h)⟩, keepC g2.b lt HPl1.out.c1, keepF g2.b lt HPl1.out.z1, by omega, a0, a1⟩
        have j1 := hP2.c1
        have jz := hP2.z1
        have hP3 := hP2.put (x := a + x) (by omega) (by omega)
        have lt2 : pp < w2.heap.size := by omega
        obtain ⟨ao3, c3, q3, q4, q5, q6⟩ := hown.le
        have hev : EVs (w2.setCell ⟨pp, 1, none⟩ (.int .i64 (a + x))) (fun b => w.heap.size ≤ b ∧ b < (w2.setCell ⟨pp, 1, none⟩ (.int .i64 (a + x))).heap.size) (.slice va L.length vc) L := by
          refine ⟨va, vc, rfl, hv1, hv2, ⟨fun hn => ?_⟩⟩
          rcases hown.2 with ⟨u1, u2⟩ | ⟨g, cap, cur, u1, u2, u3, u4⟩
          · omega
          · cases u1
            obtain ⟨b', off', w1', w2', w3'⟩ := (by cases q3; exact q6.at' hn : ∃ b off, (some (⟨g, 0, none⟩ : Addr)) = some ⟨b, off, none⟩ ∧ b < w2.heap.size ∧ ∀ j e, L[j]? = some e → Z.E5 w2 b (off + j * 5) e)
            cases w1'
            refine ⟨g, 0, rfl, ⟨by omega, by simpa [World.setCell] using w2'⟩, fun j e hj => ?_⟩
            have hk : Kp (· = g) w2 (w2.setCell ⟨pp, 1, none⟩ (.int .i64 (a + x))) := fun b hb => Below.heap_setCell _ _ _ _ (by show b ≠ pp; omega)
            exact hk.e5 rfl (w3' j e hj)
        have HR : Hid (∀ e, e = .returned (.tuple #[.slice va L.length vc, .int .i64 0]) → NxQ w pp l (0, L, a + x) e (w2.setCell ⟨pp, 1, none⟩ (.int .i64 (a + x)))) := fun e he =>
          ⟨⟨_, he, hev⟩, hP3, by simp [World.setCell]; omega, fun j hj hne => (Below.heap_setCell _ _ _ _ hne).trans (hb2.block j hj), (hb2.mono (show pp ≤ w.heap.size by omega)).setCell (p := ⟨pp, 1, none⟩) (Nat.le_refl _) _⟩
        have s1 : (w2.setCell ⟨pp, 1, none⟩ (.int .i64 (a + x))).cell? ⟨w.heap.size, 2, none⟩ = some (.slice va L.length vc) := (World.cell?_setCell_other _ _ _ _ (fun e => by have := congrArg Addr.block e; simp at this; omega)).trans e2
        have s2 : w.heap.size < (w2.setCell ⟨pp, 1, none⟩ (.int .i64 (a + x))).heap.size := by simpa [World.setCell] using z2
        clear hev hP3 hP2 hEQ g2 a2 A2 q3 q4 q5 q6 hown HC
        go_wp2_with fail
        go_returns
        exact HR.out _ rfl
      · have hR := HN.out
        rw [if_neg cL] at hR
        subst hR
        have cL' : ¬ ([] : List Z.M.Ev).length + L.length ≤ 4096 := by simpa using cL
        rw [decide_eq_false cL'] at HC
        clear HN cL cL'
        go_wp2_with fail
        refine HC.mono ?_
        rintro e w2 ⟨rfl, hEQ⟩
        obtain ⟨v2, g2, a2⟩ := hEQ.ex
        have hb2 : Below w.heap.size w w2 := hb1.trans g2.b
        have z2 : w.heap.size < w2.heap.size := by have := g2.z; omega
        have hP2 : Plr w2 pp l a := by
          obtain ⟨ao', c', h1, h2, h3, h4⟩ := HPl1.out.c0
          exact ⟨⟨ao', c', keepC g2.b lt h1, h2, h3, h4.keep (fun b hb => g2.b.block b (Nat.lt_trans hb lt)) (fun _ h => h)⟩, keepC g2.b lt HPl1.out.c1, keepF g2.b lt HPl1.out.z1, by omega, a0, a1⟩
        have HR : Hid (∀ e, e = .returned (.tuple #[.slice none 0 0, .int .i64 5]) → NxQ w pp l (5, [], a) e w2) := fun e he =>
          ⟨⟨_, he, EVs.nil _ _⟩, hP2, by omega, fun j hj hne => hb2.block j hj, hb2.mono (by omega)⟩
        clear hEQ g2 a2 HC hP2
        go_wp2_with fail
        go_returns
        exact HR.out _ rfl
end Go.Proofs.Ytaohahahhjkcdah.X
