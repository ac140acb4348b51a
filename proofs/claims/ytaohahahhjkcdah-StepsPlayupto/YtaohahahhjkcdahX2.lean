/- What the program's checker and Long come to at every list of sections. -/
import Derived.Test.YtaohahahhjkcdahX1
namespace Go.Proofs.Ytaohahahhjkcdah.X
open Go.RowKit Go.Maps
set_option linter.unusedVariables false
set_option linter.unusedSimpArgs false

/-- What the checker leaves: the count at pm (where nothing is wrong), all below B as it was. -/
structure CS (w : World) (B pm : Nat) (ok : Prop) (m : Int) (w' : World) : Prop where
  b : Below B w w'
  z : w.heap.size ≤ w'.heap.size
  k : ∀ j, j < w.heap.size → j ≠ pm → w'.heap[j]? = w.heap[j]?
  c : ok → w'.cell? ⟨pm, 0, none⟩ = some (.int .i64 m)
  f : w'.frozen? ⟨pm, 0, none⟩ = false
def SecC (s : M.Sc) : Prop := ∀ (lev m : Int) (w : World) (B pm : Nat) (ea : Option Addr) (ec : Nat) (ka : Option Addr) (kc : Nat), SV w (· < B) s ea ec ka kc → B ≤ pm → pm < w.heap.size → w.cell? ⟨pm, 0, none⟩ = some (.int .i64 m) → w.frozen? ⟨pm, 0, none⟩ = false → 1 ≤ lev → lev ≤ 33 → 0 ≤ m → m ≤ 256 →
  Calls Try.prog 20 #[.pointer (some ⟨pm, 0, none⟩), sa s ea ec ka kc, .int .i64 lev] w fun e w' => e = .returned (.tuple #[.int .i64 (M.ck s lev m).2.2, .int .i64 (M.ck s lev m).1]) ∧ CS w B pm ((M.ck s lev m).1 = 0) (M.ck s lev m).2.1 w'
theorem CS.refl {w : World} {B pm : Nat} {m : Int} (hc : w.cell? ⟨pm, 0, none⟩ = some (.int .i64 m)) (hf : w.frozen? ⟨pm, 0, none⟩ = false) : CS w B pm True m w := ⟨Below.refl _ _, Nat.le_refl _, fun _ _ _ => rfl, fun _ => hc, hf⟩
theorem CS.go {w wr W w' : World} {B pm : Nat} {P ok : Prop} {m m2 : Int} (h : CS w B pm P m wr) (hpm : pm < w.heap.size) (hB : B ≤ pm) (hb : Below wr.heap.size wr W) (h2 : CS W B pm ok m2 w') : CS w B pm ok m2 w' := by
  have z1 := h.z; have z2 := hb.size; have z3 := h2.z
  exact ⟨h.b.trans ((hb.mono (by omega)).trans h2.b), by omega, fun j hj hne => (h2.k j (by omega) hne).trans ((hb.block j (by omega)).trans (h.k j hj hne)), h2.c, h2.f⟩
theorem CS.bel {w wr W : World} {B pm : Nat} {ok : Prop} {m : Int} (h : CS w B pm ok m wr) (hpm : pm < w.heap.size) (hB : B ≤ pm) (hb : Below wr.heap.size wr W) : CS w B pm ok m W := by
  have z1 := h.z; have z2 := hb.size
  exact ⟨h.b.trans (hb.mono (by omega)), by omega, fun j hj hne => (hb.block j (by omega)).trans (h.k j hj hne), fun o => keepC hb (by omega) (h.c o), keepF hb (by omega) h.f⟩
theorem CS.cell {w w' : World} {B pm : Nat} {ok : Prop} {m : Int} (h : CS w B pm ok m w') {b o : Nat} {v : Value} (hlt : b < w.heap.size) (hne : b ≠ pm) (hc : w.cell? ⟨b, o, none⟩ = some v) : w'.cell? ⟨b, o, none⟩ = some v :=
  (World.cell?_of_block (w := w) (w' := w') (a := ⟨b, o, none⟩) (h.k b hlt hne)).trans hc
theorem frozen_setCell' (w : World) (a : Addr) (v : Value) : (w.setCell a v).frozen? a = w.frozen? a := by simp [go_sem]

set_option maxHeartbeats 4000000 in
theorem sections_any (l : List M.Sc) (ih : ∀ s ∈ l, SecC s) (lev m : Int) (w : World) (B pm : Nat) (ao : Option Addr) (c : Nat) (hL : LL w (· < B) ao l) (hc : l.length ≤ c) (hcm : c ≤ 9223372036854775807) (hB : B ≤ pm) (hpm : pm < w.heap.size) (h0 : w.cell? ⟨pm, 0, none⟩ = some (.int .i64 m)) (hf : w.frozen? ⟨pm, 0, none⟩ = false) (h1 : 1 ≤ lev) (h2 : lev ≤ 33) (hm0 : 0 ≤ m) (hm1 : m ≤ 256) :
    Calls Try.prog 13 #[.pointer (some ⟨pm, 0, none⟩), .slice ao l.length c, .int .i64 lev] w fun e w' => e = .returned (.tuple #[.int .i64 (M.cks l lev m 0).2.2, .int .i64 (M.cks l lev m 0).1]) ∧ CS w B pm ((M.cks l lev m 0).1 = 0) (M.cks l lev m 0).2.1 w' := by
  have HV : Hid (M.cks l lev m 0 = M.cks (l.drop 0) lev m 0) := rfl
  have HB : Hid ((M.cks l lev m 0).1 ≠ 0 → (M.cks l lev m 0).2.2 = 0) := M.cks_bad l lev m 0
  generalize M.cks l lev m 0 = V at *
  obtain ⟨VE, VM, VL⟩ := V
  dsimp only at HB ⊢
  have IH : Hid (∀ s ∈ l, SecC s) := ih
  have HL : Hid (LL w (· < B) ao l) := hL
  have C0 : CS w B pm True m w := CS.refl h0 hf
  clear ih hL
  go_enter Try.func13, Try.ntmps13
  go_wp2_with fail
  go_loopw [15, 8] (fun i a wr => ∃ (k : Nat) (A m' : Int), k ≤ l.length ∧ i = .int .i64 k ∧ a = .int .i64 A ∧ 0 ≤ A ∧ A ≤ 1125899906842624 ∧ 0 ≤ m' ∧ m' ≤ 256 ∧ Hid ((VE, VM, VL) = M.cks (l.drop k) lev m' A) ∧ CS w B pm True m' wr) (fun i _ _ => l.length - (intOf i).toNat)
  case atStart => exact ⟨0, 0, m, by omega, rfl, rfl, by omega, by omega, hm0, hm1, HV, C0⟩
  case round =>
    obtain ⟨k, A, m', hkn, rfl, rfl, hA0, hA1, hm0', hm1', hk, hC⟩ := hrel
    clear HV C0
    have zr := hC.z
    have pz : pm < wr.heap.size := by omega
    by_cases hlt : k < l.length
    · have hlt' : (k : Int) < l.length := by omega
      obtain ⟨s, hs⟩ : ∃ s, l[k]? = some s := ⟨_, List.getElem?_eq_getElem hlt⟩
      obtain ⟨b, off, rfl, hbB, q0⟩ := (HL.out.keep (Kp.below hC.b)).at' (by omega)
      obtain ⟨ea, ec, ka, kc, q, hSV⟩ := q0 k s hs
      have r0 := q.c0
      have r1 := q.c1
      have r2 := q.c2
      have r3 := q.c3
      have bz : b < wr.heap.size := by omega
      have hmem : s ∈ l := List.mem_of_getElem? hs
      have pc := hC.c trivial
      have pf := hC.f
      have hE := M.cks_drop hs lev m' A
      rw [← hk.out] at hE
      have w3 : IntKind.i64.wrap ((k : Int) + 1) = (k : Int) + 1 := wid (by omega) (by omega)
      have HS : ∀ (W : World), Below wr.heap.size wr W → Calls Try.prog 20 #[.pointer (some ⟨pm, 0, none⟩), sa s ea ec ka kc, .int .i64 lev] W fun e w' => e = .returned (.tuple #[.int .i64 (M.ck s lev m').2.2, .int .i64 (M.ck s lev m').1]) ∧ CS W B pm ((M.ck s lev m').1 = 0) (M.ck s lev m').2.1 w' := fun W hb => by
        have := hb.size
        exact IH.out s hmem lev m' W B pm ea ec ka kc (hSV.keep (Kp.below (hb.mono (by omega)))) hB (by omega) (keepC hb pz pc) (keepF hb pz pf) h1 h2 hm0' hm1'
      have HO : Hid ((M.ck s lev m').1 = 0 → (M.ck s lev m').2.2 = M.tot s ∧ m' + 1 ≤ (M.ck s lev m').2.1 ∧ (M.ck s lev m').2.1 ≤ 256 ∧ 0 ≤ M.tot s ∧ M.tot s ≤ 1125899906842624) := fun h => by
        obtain ⟨g1, g2⟩ := M.ck_ok s lev m' hm0' h
        exact ⟨congrArg (·.2.2) g1.e, g1.lo, g1.hi, g1.pos, g2.a1⟩
      clear hk q q0 hSV IH HL hmem pc pf hs
      generalize M.ck s lev m' = K at *
      obtain ⟨KE, KM, KL⟩ := K
      dsimp only at hE HO HS
      by_cases hz : KE = 0
      · subst hz
        obtain ⟨o1, o2, o3, o4, o5⟩ := HO.out rfl
        have k0 : 0 ≤ KL := by omega
        have k1 : KL ≤ 1125899906842624 := by omega
        rw [if_neg (by decide)] at hE
        have w4 : IntKind.i64.wrap (A + KL) = A + KL := wid (by omega) (by omega)
        by_cases hbig : 1125899906842624 < A + KL
        · rw [if_pos hbig] at hE
          obtain ⟨rfl, rfl, rfl⟩ : VE = 4 ∧ VM = KM ∧ VL = 0 := by simpa using hE
          clear hE HO HB o1
          go_wp2_with fail
          refine (HS _ (by go_grown)).mono ?_
          rintro e w4 ⟨rfl, hC4⟩
          go_wp2_with fail
          go_returns
          exact ⟨rfl, hC.go hpm hB ((Below.refl _ _).alloc (Nat.le_refl _) _) ⟨hC4.b, hC4.z, hC4.k, fun h => absurd h (by decide), hC4.f⟩⟩
        · rw [if_neg hbig] at hE
          have HE : Hid ((VE, VM, VL) = M.cks (l.drop (k + 1)) lev KM (A + KL)) := hE
          clear hE HO o1
          go_wp2_with fail
          refine (HS _ (by go_grown)).mono ?_
          rintro e w4 ⟨rfl, hC4⟩
          have hC5 : CS w B pm True KM w4 := hC.go hpm hB ((Below.refl _ _).alloc (Nat.le_refl _) _) ⟨hC4.b, hC4.z, hC4.k, fun _ => hC4.c (by first | rfl | trivial), hC4.f⟩
          clear hC4
          go_wp2_with fail
          go_roundw
          case rel => exact ⟨k + 1, A + KL, KM, by omega, by go_num, rfl, by omega, by omega, by omega, by omega, HE, hC5⟩
          case measure => simp [intOf]; omega
      · rw [if_pos (by simpa using hz)] at hE
        obtain ⟨rfl, rfl, rfl⟩ : VE = KE ∧ VM = KM ∧ VL = 0 := by simpa using hE
        have hz' : (VE != 0) = true := by simp [hz]
        have hz2 : Hid (VE ≠ 0) := hz
        clear hE HO HB hz
        go_wp2_with fail
        refine (HS _ (by go_grown)).mono ?_
        rintro e w4 ⟨rfl, hC4⟩
        go_wp2_with fail
        go_returns
        exact ⟨rfl, hC.go hpm hB ((Below.refl _ _).alloc (Nat.le_refl _) _) ⟨hC4.b, hC4.z, hC4.k, fun h => absurd h hz2.out, hC4.f⟩⟩
    · obtain rfl : k = l.length := by omega
      have hlt' : ¬ ((l.length : Nat) : Int) < l.length := by omega
      have hE := hk.out
      rw [List.drop_length, M.cks_nil] at hE
      obtain ⟨rfl, rfl, rfl⟩ : VE = 0 ∧ VM = m' ∧ VL = A := by simpa using hE
      clear hk hE
      go_wp2_with fail
      go_returns
      exact ⟨rfl, hC.b, hC.z, hC.k, fun _ => hC.c trivial, hC.f⟩

set_option maxHeartbeats 4000000 in
theorem section_any (s : M.Sc) : SecC s := by
  induction s using M.Sc.ind with
  | h t l ev kids ih =>
    intro lev m w B pm ea ec ka kc hSV hB hpm h0 hf h1 h2 hm0 hm1
    have HA := fun (W : World) (hb : Below B w W) (hz : w.heap.size ≤ W.heap.size) => wrongAlone_any ⟨t, l, ev, kids⟩ ea ec ka kc W ((hSV.e.keep (Kp.below hb)).le (fun b hlt => by omega)) hSV.n
    have HK := fun (W : World) (hb : Below B w W) (hz : w.heap.size ≤ W.heap.size) (hl : lev + 1 ≤ 33) (hm : m + 1 ≤ 256) (hc : W.cell? ⟨pm, 0, none⟩ = some (.int .i64 (m + 1))) (hf : W.frozen? ⟨pm, 0, none⟩ = false) => sections_any kids ih (lev + 1) (m + 1) W B pm ka kc ((LS.ll (s := ⟨t, l, ev, kids⟩) hSV.k).keep (Kp.below hb)) hSV.n.h3 hSV.n.h4 hB (by omega) hc hf (by omega) hl (by omega) hm
    have G1 : Hid (32 < lev → M.ck ⟨t, l, ev, kids⟩ lev m = (4, m, 0)) := M.ck_lev _
    have G2 : Hid (¬ 32 < lev → 256 ≤ m → M.ck ⟨t, l, ev, kids⟩ lev m = (5, m + 1, 0)) := M.ck_many _
    have G3 : Hid (¬ 32 < lev → ¬ 256 ≤ m → M.al t l ev ≠ 0 → M.ck ⟨t, l, ev, kids⟩ lev m = (M.al t l ev, m + 1, 0)) := M.ck_al ⟨t, l, ev, kids⟩
    have G4 : Hid (¬ 32 < lev → ¬ 256 ≤ m → M.al t l ev = 0 → M.ck ⟨t, l, ev, kids⟩ lev m = M.cke t l m (M.cks kids (lev + 1) (m + 1) 0)) := M.ck_kids ⟨t, l, ev, kids⟩
    have G5 : Hid (M.al t l ev = 0 → 0 ≤ t ∧ t ≤ 65536 ∧ 0 ≤ l ∧ l ≤ 65536) := fun h => by obtain ⟨a, b, c, d, _⟩ := M.al_out h; exact ⟨a, b, c, d⟩
    have G6 : Hid (m + 1 ≤ 256 → (M.cks kids (lev + 1) (m + 1) 0).1 = 0 → 0 ≤ (M.cks kids (lev + 1) (m + 1) 0).2.2 ∧ (M.cks kids (lev + 1) (m + 1) 0).2.2 ≤ 1125899906842624) := fun hm h => by
      obtain ⟨g1, _, _, g4, g5, _⟩ := M.cks_right (by omega) hm (by omega) h
      have : (M.cks kids (lev + 1) (m + 1) 0).2.2 = 0 + M.tots kids := congrArg (·.2.2) g1
      omega
    clear hSV ih
    generalize M.ck ⟨t, l, ev, kids⟩ lev m = V at *
    generalize M.cks kids (lev + 1) (m + 1) 0 = K at *
    obtain ⟨VE, VM, VL⟩ := V
    obtain ⟨KE, KM, KL⟩ := K
    dsimp only at *
    generalize M.al t l ev = Y at *
    by_cases c1 : 32 < lev
    · obtain ⟨rfl, rfl, rfl⟩ : VE = 4 ∧ VM = m ∧ VL = 0 := by simpa using G1.out c1
      clear G1 G2 G3 G4 G5 G6 HA HK
      go_enter Try.func20, Try.ntmps20
      go_wp2_with fail
      go_returns
      exact ⟨rfl, (CS.refl (B := B) h0 hf).go hpm hB (Below.refl _ _) ⟨(Below.refl _ _).alloc (by omega) _, by simp, fun j hj hne => ((Below.refl w.heap.size w).alloc (Nat.le_refl _) _).block j hj, fun h => absurd h (by decide), keepF ((Below.refl w.heap.size w).alloc (Nat.le_refl _) _) hpm hf⟩⟩
    by_cases c2 : 256 ≤ m
    · obtain ⟨rfl, rfl, rfl⟩ : VE = 5 ∧ VM = m + 1 ∧ VL = 0 := by simpa using G2.out c1 c2
      obtain rfl : m = 256 := by omega
      clear G1 G2 G3 G4 G5 G6 HA HK
      go_enter Try.func20, Try.ntmps20
      go_wp2_with fail
      go_returns
      exact ⟨rfl, (CS.refl (B := B) h0 hf).go hpm hB (Below.refl _ _) ⟨(Below.refl _ _).alloc (by omega) _, by simp, fun j hj hne => ((Below.refl w.heap.size w).alloc (Nat.le_refl _) _).block j hj, fun h => absurd h (by decide), keepF ((Below.refl w.heap.size w).alloc (Nat.le_refl _) _) hpm hf⟩⟩
    have c3 : (m == 256) = false := by simp; omega
    have w1 : IntKind.i64.wrap (m + 1) = m + 1 := wid (by omega) (by omega)
    have w2 : IntKind.i64.wrap (lev + 1) = lev + 1 := wid (by omega) (by omega)
    have hW1 : ∀ o : Obj, CS w B pm True (m + 1) ((w.setCell ⟨pm, 0, none⟩ (.int .i64 (m + 1))).alloc o) := fun o => by
      have hb : Below w.heap.size (w.setCell ⟨pm, 0, none⟩ (.int .i64 (m + 1))) ((w.setCell ⟨pm, 0, none⟩ (.int .i64 (m + 1))).alloc o) := (Below.refl _ _).alloc (by simp) o
      exact ⟨((Below.refl B w).setCell hB _).trans (hb.mono (by omega)), by simp, fun j hj hne => (hb.block j hj).trans (Below.heap_setCell _ _ _ _ hne), fun _ => keepC hb hpm (World.cell?_setCell_same w _ _ h0), keepF hb hpm ((frozen_setCell' w _ _).trans hf)⟩
    have sz1 : ∀ o : Obj, ((w.setCell ⟨pm, 0, none⟩ (.int .i64 (m + 1))).alloc o).heap.size = w.heap.size + 1 := fun o => by simp
    by_cases c4 : Y = 0
    · subst c4
      obtain ⟨t0, t1, l0, l1⟩ := G5.out rfl
      have hV := G4.out c1 c2 rfl
      have HK' := fun (W : World) hb hz hc hf => HK W hb hz (by omega) (by omega) hc hf
      have g6 := G6.out (by omega)
      clear G1 G2 G3 G4 G5 G6 HK
      by_cases c5 : KE = 0
      · subst c5
        have hK := g6 rfl
        unfold M.cke at hV
        rw [if_neg (by simp)] at hV
        dsimp only at hV
        have HT := fun w => tooLong_any t (l + KL) w t0
        have wk : IntKind.i64.wrap (l + KL) = l + KL := wid (by omega) (by omega)
        have hp : 0 ≤ t * (l + KL) := Int.mul_nonneg t0 (by omega)
        by_cases c6 : 1125899906842624 < t * (l + KL)
        · rw [if_pos c6] at hV
          obtain ⟨rfl, rfl, rfl⟩ : VE = 4 ∧ VM = KM ∧ VL = 0 := by simpa using hV
          rw [decide_eq_true c6] at HT
          clear hV g6 hp c6
          go_enter Try.func20, Try.ntmps20
          go_wp2_with fail
          have hC1 := hW1 (Obj.cells #[.int .i64 t, .int .i64 l, .slice ea ev.length ec, .slice ka kids.length kc] 44)
          have hz1 := sz1 (Obj.cells #[.int .i64 t, .int .i64 l, .slice ea ev.length ec, .slice ka kids.length kc] 44)
          have e0 : ((w.setCell ⟨pm, 0, none⟩ (.int .i64 (m + 1))).alloc (Obj.cells #[.int .i64 t, .int .i64 l, .slice ea ev.length ec, .slice ka kids.length kc] 44)).cell? ⟨w.heap.size, 0, none⟩ = some (.int .i64 t) := by simp [go_sem]
          have e1 : ((w.setCell ⟨pm, 0, none⟩ (.int .i64 (m + 1))).alloc (Obj.cells #[.int .i64 t, .int .i64 l, .slice ea ev.length ec, .slice ka kids.length kc] 44)).cell? ⟨w.heap.size, 1, none⟩ = some (.int .i64 l) := by simp [go_sem]
          have e3 : ((w.setCell ⟨pm, 0, none⟩ (.int .i64 (m + 1))).alloc (Obj.cells #[.int .i64 t, .int .i64 l, .slice ea ev.length ec, .slice ka kids.length kc] 44)).cell? ⟨w.heap.size, 3, none⟩ = some (.slice ka kids.length kc) := by simp [go_sem]
          generalize (w.setCell ⟨pm, 0, none⟩ (.int .i64 (m + 1))).alloc (Obj.cells #[.int .i64 t, .int .i64 l, .slice ea ev.length ec, .slice ka kids.length kc] 44) = W1 at *
          refine (HA _ hC1.b hC1.z).mono ?_
          rintro e w3 ⟨rfl, hb3⟩
          have hC3 := hC1.bel hpm hB hb3
          have z3 := hb3.size
          have f0 := keepC hb3 (by omega) e0
          have f1 := keepC hb3 (by omega) e1
          have f3 := keepC hb3 (by omega) e3
          have s3 : w.heap.size < w3.heap.size := by omega
          clear hb3 e0 e1 e3 hC1 hW1 sz1 HA hz1 z3
          go_wp2_with fail
          refine (HK' _ hC3.b hC3.z (hC3.c trivial) hC3.f).mono ?_
          rintro e w4 ⟨rfl, hC4⟩
          have j0 := hC4.cell s3 (by omega) f0
          have j1 := hC4.cell s3 (by omega) f1
          have s4 : w.heap.size < w4.heap.size := by have := hC4.z; omega
          have hC5 : CS w B pm True VM w4 := hC3.go hpm hB (Below.refl _ _) ⟨hC4.b, hC4.z, hC4.k, fun _ => hC4.c (by first | rfl | trivial), hC4.f⟩
          clear hC4 hC3 f0 f1 f3 s3
          go_wp2_with fail
          refine (HT _).mono ?_
          rintro e w5 ⟨rfl, hb5⟩
          have hC6 := hC5.bel hpm hB (((Below.refl _ _).alloc (Nat.le_refl _) _).trans (hb5.mono (by simp)))
          clear hb5
          go_wp2_with fail
          go_returns
          exact ⟨rfl, hC6.b, hC6.z, hC6.k, fun h => absurd h (by decide), hC6.f⟩
        · rw [if_neg c6] at hV
          obtain ⟨rfl, rfl, rfl⟩ : VE = 0 ∧ VM = KM ∧ VL = t * (l + KL) := by simpa using hV
          rw [decide_eq_false c6] at HT
          have HT2 := fun w => all_any t (l + KL) w hp (by omega)
          clear hV g6 hp c6
          generalize t * (l + KL) = P at *
          go_enter Try.func20, Try.ntmps20
          go_wp2_with fail
          have hC1 := hW1 (Obj.cells #[.int .i64 t, .int .i64 l, .slice ea ev.length ec, .slice ka kids.length kc] 44)
          have hz1 := sz1 (Obj.cells #[.int .i64 t, .int .i64 l, .slice ea ev.length ec, .slice ka kids.length kc] 44)
          have e0 : ((w.setCell ⟨pm, 0, none⟩ (.int .i64 (m + 1))).alloc (Obj.cells #[.int .i64 t, .int .i64 l, .slice ea ev.length ec, .slice ka kids.length kc] 44)).cell? ⟨w.heap.size, 0, none⟩ = some (.int .i64 t) := by simp [go_sem]
          have e1 : ((w.setCell ⟨pm, 0, none⟩ (.int .i64 (m + 1))).alloc (Obj.cells #[.int .i64 t, .int .i64 l, .slice ea ev.length ec, .slice ka kids.length kc] 44)).cell? ⟨w.heap.size, 1, none⟩ = some (.int .i64 l) := by simp [go_sem]
          have e3 : ((w.setCell ⟨pm, 0, none⟩ (.int .i64 (m + 1))).alloc (Obj.cells #[.int .i64 t, .int .i64 l, .slice ea ev.length ec, .slice ka kids.length kc] 44)).cell? ⟨w.heap.size, 3, none⟩ = some (.slice ka kids.length kc) := by simp [go_sem]
          generalize (w.setCell ⟨pm, 0, none⟩ (.int .i64 (m + 1))).alloc (Obj.cells #[.int .i64 t, .int .i64 l, .slice ea ev.length ec, .slice ka kids.length kc] 44) = W1 at *
          refine (HA _ hC1.b hC1.z).mono ?_
          rintro e w3 ⟨rfl, hb3⟩
          have hC3 := hC1.bel hpm hB hb3
          have z3 := hb3.size
          have f0 := keepC hb3 (by omega) e0
          have f1 := keepC hb3 (by omega) e1
          have f3 := keepC hb3 (by omega) e3
          have s3 : w.heap.size < w3.heap.size := by omega
          clear hb3 e0 e1 e3 hC1 hW1 sz1 HA hz1 z3
          go_wp2_with fail
          refine (HK' _ hC3.b hC3.z (hC3.c trivial) hC3.f).mono ?_
          rintro e w4 ⟨rfl, hC4⟩
          have j0 := hC4.cell s3 (by omega) f0
          have j1 := hC4.cell s3 (by omega) f1
          have s4 : w.heap.size < w4.heap.size := by have := hC4.z; omega
          have hC5 : CS w B pm True VM w4 := hC3.go hpm hB (Below.refl _ _) ⟨hC4.b, hC4.z, hC4.k, fun _ => hC4.c (by first | rfl | trivial), hC4.f⟩
          clear hC4 hC3 f0 f1 f3 s3
          go_wp2_with fail
          refine (HT _).mono ?_
          rintro e w5 ⟨rfl, hb5⟩
          have hC6 := hC5.bel hpm hB (((Below.refl _ _).alloc (Nat.le_refl _) _).trans (hb5.mono (by simp)))
          have g0 : w5.cell? ⟨w4.heap.size, 0, none⟩ = some (.int .i64 t) := keepC hb5 (by simp) (by simp [go_sem])
          have g1 : w5.cell? ⟨w4.heap.size, 1, none⟩ = some (.int .i64 (l + KL)) := keepC hb5 (by simp) (by simp [go_sem])
          have s5 : w4.heap.size < w5.heap.size := by have := hb5.size; simp at this; omega
          clear hb5
          go_wp2_with fail
          refine (HT2 _).mono ?_
          rintro e w6 ⟨rfl, hb6⟩
          have hC7 := hC6.bel hpm hB hb6
          clear hb6
          go_wp2_with fail
          go_returns
          exact ⟨rfl, hC7.b, hC7.z, hC7.k, fun _ => hC7.c trivial, hC7.f⟩
      · unfold M.cke at hV
        rw [if_pos (by simpa using c5)] at hV
        obtain ⟨rfl, rfl, rfl⟩ : VE = KE ∧ VM = KM ∧ VL = 0 := by simpa using hV
        have hz' : (VE != 0) = true := by simp [c5]
        have hz2 : Hid (VE ≠ 0) := c5
        clear hV g6 c5
        go_enter Try.func20, Try.ntmps20
        go_wp2_with fail
        have hC1 := hW1 (Obj.cells #[.int .i64 t, .int .i64 l, .slice ea ev.length ec, .slice ka kids.length kc] 44)
        have hz1 := sz1 (Obj.cells #[.int .i64 t, .int .i64 l, .slice ea ev.length ec, .slice ka kids.length kc] 44)
        have e3 : ((w.setCell ⟨pm, 0, none⟩ (.int .i64 (m + 1))).alloc (Obj.cells #[.int .i64 t, .int .i64 l, .slice ea ev.length ec, .slice ka kids.length kc] 44)).cell? ⟨w.heap.size, 3, none⟩ = some (.slice ka kids.length kc) := by simp [go_sem]
        generalize (w.setCell ⟨pm, 0, none⟩ (.int .i64 (m + 1))).alloc (Obj.cells #[.int .i64 t, .int .i64 l, .slice ea ev.length ec, .slice ka kids.length kc] 44) = W1 at *
        refine (HA _ hC1.b hC1.z).mono ?_
        rintro e w3 ⟨rfl, hb3⟩
        have hC3 := hC1.bel hpm hB hb3
        have z3 := hb3.size
        have f3 := keepC hb3 (by omega) e3
        have s3 : w.heap.size < w3.heap.size := by omega
        clear hb3 e3 hC1 hW1 sz1 HA hz1 z3
        go_wp2_with fail
        refine (HK' _ hC3.b hC3.z (hC3.c trivial) hC3.f).mono ?_
        rintro e w4 ⟨rfl, hC4⟩
        have hC5 : CS w B pm False VM w4 := hC3.go hpm hB (Below.refl _ _) ⟨hC4.b, hC4.z, hC4.k, False.elim, hC4.f⟩
        clear hC4 hC3 f3 s3
        go_wp2_with fail
        go_returns
        exact ⟨rfl, hC5.b, hC5.z, hC5.k, fun h => absurd h hz2.out, hC5.f⟩
    · obtain ⟨rfl, rfl, rfl⟩ : VE = Y ∧ VM = m + 1 ∧ VL = 0 := by simpa using G3.out c1 c2 c4
      have hz' : (VE != 0) = true := by simp [c4]
      have hz2 : Hid (VE ≠ 0) := c4
      clear G1 G2 G3 G4 G5 G6 HK c4
      go_enter Try.func20, Try.ntmps20
      go_wp2_with fail
      have hC1 := hW1 (Obj.cells #[.int .i64 t, .int .i64 l, .slice ea ev.length ec, .slice ka kids.length kc] 44)
      refine (HA _ hC1.b hC1.z).mono ?_
      rintro e w3 ⟨rfl, hb3⟩
      have hC3 := hC1.bel hpm hB hb3
      clear hb3 hC1 hW1 sz1 HA
      go_wp2_with fail
      go_returns
      exact ⟨rfl, hC3.b, hC3.z, hC3.k, fun h => absurd h hz2.out, hC3.f⟩
/-- What the program's Long answers. -/
theorem Long_any (l : List M.Sc) (w : World) (ao : Option Addr) (c : Nat) (hL : LL w (· < w.heap.size) ao l) (hc : l.length ≤ c) (hcm : c ≤ 9223372036854775807) :
    Calls Try.prog 7 #[.slice ao l.length c] w fun e w' => e = .returned (.tuple #[.int .i64 (M.cks l 1 0 0).2.2, .int .i64 (M.cks l 1 0 0).1]) ∧ Below w.heap.size w w' := by
  have hb : Below w.heap.size w (w.alloc (Obj.cells #[.int .i64 0] 47)) := (Below.refl _ _).alloc (Nat.le_refl _) _
  have HS := sections_any l (fun s _ => section_any s) 1 0 (w.alloc (Obj.cells #[.int .i64 0] 47)) w.heap.size w.heap.size ao c (hL.keep (Kp.below hb)) hc hcm (Nat.le_refl _) (by simp) (by simp [go_sem]) (by simp [go_sem]) (by omega) (by omega) (by omega) (by omega)
  generalize M.cks l 1 0 0 = V at *
  obtain ⟨VE, VM, VL⟩ := V
  dsimp only at *
  go_enter Try.func7, Try.ntmps7
  go_wp2_with fail
  refine HS.mono ?_
  rintro e w1 ⟨rfl, hC⟩
  have hb2 := hb.trans hC.b
  clear hb hC HS
  go_wp2_with fail
  go_returns
  exact ⟨rfl, hb2⟩
end Go.Proofs.Ytaohahahhjkcdah.X
