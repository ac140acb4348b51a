/- What the document's long and Long come to at every list of sections. -/
import Derived.Test.YtaohahahhjkcdahX2
import Derived.Test.YtaohahahhjkcdahZ3
namespace Go.Proofs.Ytaohahahhjkcdah.X
open Go.RowKit Go.Maps
set_option linter.unusedVariables false
set_option linter.unusedSimpArgs false

/-- What the document's long answers. -/
def LgC (l : List M.Sc) : Prop := ∀ (lev m : Int) (w : World) (B : Nat) (ao : Option Addr) (c : Nat), LL w (· < B) ao l → B ≤ w.heap.size → l.length ≤ c → c ≤ 9223372036854775807 → 1 ≤ lev → lev ≤ 33 → 0 ≤ m → m ≤ 256 →
  Calls Try.prog 14 #[.slice ao l.length c, .int .i64 lev, .int .i64 m] w fun e w' => e = .returned (.tuple #[.int .i64 (M.cks l lev m 0).2.2, .int .i64 (M.cks l lev m 0).2.1, .int .i64 (M.cks l lev m 0).1]) ∧ Below w.heap.size w w'

set_option maxRecDepth 20000 in
set_option maxHeartbeats 8000000 in
theorem long_list (l : List M.Sc) (ih : ∀ s ∈ l, LgC s.kids) : LgC l := by
  intro lev m w B ao c hL hB hc hcm h1 h2 hm0 hm1
  have HV : Hid (M.cks l lev m 0 = M.cks (l.drop 0) lev m 0) := rfl
  generalize M.cks l lev m 0 = V at *
  obtain ⟨VE, VM, VL⟩ := V
  dsimp only
  have IH : Hid (∀ s ∈ l, LgC s.kids) := ih
  have HL : Hid (LL w (· < B) ao l) := hL
  clear ih hL
  by_cases cl : 32 < lev ∧ 0 < l.length
  · obtain ⟨cl1, cl2⟩ := cl
    obtain ⟨s, hs⟩ : ∃ s, l[0]? = some s := ⟨_, List.getElem?_eq_getElem cl2⟩
    have hE := M.cks_drop hs lev m 0
    rw [← HV.out, M.ck_lev s cl1, if_pos (by simp)] at hE
    obtain ⟨rfl, rfl, rfl⟩ : VE = 4 ∧ VM = m ∧ VL = 0 := by simpa using hE
    have cl2' : (0 : Int) < l.length := by omega
    clear HV hE hs IH HL
    go_enter Try.func14, Try.ntmps14
    go_wp2_with fail
    go_returns
    exact ⟨rfl, by go_grown⟩
  · have HLV : Hid (0 < l.length → lev ≤ 32) := fun h => by omega
    go_enter Try.func14, Try.ntmps14
    rcases (show ¬ 32 < lev ∨ (32 < lev ∧ ¬ (0 : Int) < (l.length : Int)) by omega) with a | ⟨a, a2⟩
    · clear cl
      go_wp2_with fail
      go_loopw [29, 9, 2] (fun i x q wr => ∃ (k : Nat) (A m' : Int), k ≤ l.length ∧ i = .int .i64 k ∧ x = .int .i64 A ∧ q = .int .i64 m' ∧ 0 ≤ A ∧ A ≤ 1125899906842624 ∧ 0 ≤ m' ∧ m' ≤ 256 ∧ Hid ((VE, VM, VL) = M.cks (l.drop k) lev m' A) ∧ Below w.heap.size w wr) (fun i _ _ _ => l.length - (intOf i).toNat)
      case atStart => exact ⟨0, 0, m, by omega, rfl, rfl, rfl, by omega, by omega, hm0, hm1, HV, Below.refl _ _⟩
      case round =>
        obtain ⟨k, A, m', hkn, rfl, rfl, rfl, hA0, hA1, hm0', hm1', hk, hbr⟩ := hrel
        clear HV
        have zr := hbr.size
        by_cases hlt : k < l.length
        · have hlt' : (k : Int) < l.length := by omega
          obtain ⟨s, hs⟩ : ∃ s, l[k]? = some s := ⟨_, List.getElem?_eq_getElem hlt⟩
          obtain ⟨b, off, rfl, hbB, q0⟩ := (HL.out.keep (Kp.below (hbr.mono hB))).at' (by omega)
          obtain ⟨ea, ec, ka, kc, q, hSV⟩ := q0 k s hs
          have r0 := q.c0
          have r1 := q.c1
          have r2 := q.c2
          have r3 := q.c3
          have bz : b < wr.heap.size := by omega
          have hmem : s ∈ l := List.mem_of_getElem? hs
          have hE := M.cks_drop hs lev m' A
          rw [← hk.out] at hE
          have w3 : IntKind.i64.wrap ((k : Int) + 1) = (k : Int) + 1 := wid (by omega) (by omega)
          have wm : IntKind.i64.wrap (m' + 1) = m' + 1 := wid (by omega) (by omega)
          have wl : IntKind.i64.wrap (lev + 1) = lev + 1 := wid (by omega) (by omega)
          have G2 := M.ck_many s (lev := lev) (m := m') (by omega)
          have G3 := M.ck_al s (lev := lev) (m := m') (by omega)
          have G4 := M.ck_kids s (lev := lev) (m := m') (by omega)
          clear hk q q0 hs
          by_cases c2 : 256 ≤ m'
          · rw [G2 c2, if_pos (by simp)] at hE
            obtain ⟨rfl, rfl, rfl⟩ : VE = 5 ∧ VM = m' + 1 ∧ VL = 0 := by simpa using hE
            have c2' : 256 < m' + 1 := by omega
            clear G2 G3 G4 hE IH HL hSV
            obtain ⟨t, L, ev, kids⟩ := s
            dsimp only at *
            go_wp2_with fail
            go_returns
            exact ⟨rfl, hbr.alloc zr _⟩
          have c2' : ¬ 256 < m' + 1 := by omega
          have HN := hSV.n
          have HW := fun (W : World) (hb : Below wr.heap.size wr W) => Z.refWrong_any s.ev ea ec W ((hSV.e.keep (Kp.below (hb.mono (by omega)))).le (fun j hj => by have := hb.size; omega)) HN.h1 HN.h2 HN.bd
          have HK := fun (W : World) (hb : Below wr.heap.size wr W) (hl : lev + 1 ≤ 33) (hm : m' + 1 ≤ 256) => IH.out s hmem (lev + 1) (m' + 1) W B ka kc ((LS.keep (Kp.below (hb.mono (by omega))) s ka hSV.k).ll) (by have := hb.size; omega) HN.h3 HN.h4 (by omega) hl (by omega) hm
          have HEl : Hid (∀ W, Below wr.heap.size wr W → EL W (· < B) ea s.ev) := fun W hb => hSV.e.keep (Kp.below (hb.mono (by omega)))
          have A1 : Hid (s.t < 0 ∨ 65536 < s.t ∨ s.l < 0 ∨ 65536 < s.l → M.al s.t s.l s.ev = 3) := M.al_range
          have A2 : Hid (¬ (s.t < 0 ∨ 65536 < s.t ∨ s.l < 0 ∨ 65536 < s.l) → Z.M.wr s.ev ≠ 0 → M.al s.t s.l s.ev = Z.M.wr s.ev) := M.al_wr
          have A3 : Hid (¬ (s.t < 0 ∨ 65536 < s.t ∨ s.l < 0 ∨ 65536 < s.l) → Z.M.wr s.ev = 0 → (∃ e ∈ s.ev, s.l ≤ e.t) → M.al s.t s.l s.ev = 8) := M.al_fit
          have A4 : Hid (¬ (s.t < 0 ∨ 65536 < s.t ∨ s.l < 0 ∨ 65536 < s.l) → Z.M.wr s.ev = 0 → (∀ e ∈ s.ev, e.t < s.l) → M.al s.t s.l s.ev = 0) := M.al_ok
          have HB : Hid (M.al s.t s.l s.ev ≠ 0 → VE = M.al s.t s.l s.ev ∧ VM = m' + 1 ∧ VL = 0) := fun h => by
            have := hE
            rw [G3 c2 h, if_pos h] at this
            simpa using this
          have HG : Hid (M.al s.t s.l s.ev = 0 → (VE, VM, VL) = if (M.cke s.t s.l m' (M.cks s.kids (lev + 1) (m' + 1) 0)).1 ≠ 0 then ((M.cke s.t s.l m' (M.cks s.kids (lev + 1) (m' + 1) 0)).1, (M.cke s.t s.l m' (M.cks s.kids (lev + 1) (m' + 1) 0)).2.1, 0) else if 1125899906842624 < A + (M.cke s.t s.l m' (M.cks s.kids (lev + 1) (m' + 1) 0)).2.2 then (4, (M.cke s.t s.l m' (M.cks s.kids (lev + 1) (m' + 1) 0)).2.1, 0) else M.cks (l.drop (k + 1)) lev (M.cke s.t s.l m' (M.cks s.kids (lev + 1) (m' + 1) 0)).2.1 (A + (M.cke s.t s.l m' (M.cks s.kids (lev + 1) (m' + 1) 0)).2.2)) := fun h => by
            have := hE
            rw [G4 c2 h] at this
            exact this
          have HKO : Hid ((M.cks s.kids (lev + 1) (m' + 1) 0).1 = 0 → 0 ≤ (M.cks s.kids (lev + 1) (m' + 1) 0).2.2 ∧ (M.cks s.kids (lev + 1) (m' + 1) 0).2.2 ≤ 1125899906842624 ∧ 0 ≤ (M.cks s.kids (lev + 1) (m' + 1) 0).2.1 ∧ (M.cks s.kids (lev + 1) (m' + 1) 0).2.1 ≤ 256) := fun h => by
            obtain ⟨g1, g2, g3, g4, g5, _⟩ := M.cks_right (by omega) (by omega) (by omega) h
            have e2 : (M.cks s.kids (lev + 1) (m' + 1) 0).2.2 = 0 + M.tots s.kids := congrArg (·.2.2) g1
            have : (0 : Int) ≤ s.kids.length := by omega
            omega
          clear G2 G3 G4 hE IH HL hSV hmem
          obtain ⟨t, L, ev, kids⟩ := s
          dsimp only at *
          generalize M.cks kids (lev + 1) (m' + 1) 0 = K at *
          obtain ⟨KE, KM, KL⟩ := K
          dsimp only at *
          generalize M.al t L ev = Y at *
          generalize Z.M.wr ev = WY at *
          by_cases c3 : t < 0 ∨ 65536 < t ∨ L < 0 ∨ 65536 < L
          · have hY := A1.out c3
            obtain ⟨e1, e2, e3⟩ := HB.out (by rw [hY]; decide)
            rw [hY] at e1
            subst e1 e2 e3 hY
            clear A1 A2 A3 A4 HB HG HKO HW HK HEl
            rcases (show t < 0 ∨ (¬ t < 0 ∧ 65536 < t) ∨ (¬ t < 0 ∧ ¬ 65536 < t ∧ L < 0) ∨ (¬ t < 0 ∧ ¬ 65536 < t ∧ ¬ L < 0 ∧ 65536 < L) by omega) with d | ⟨d, da⟩ | ⟨d, da, db⟩ | ⟨d, da, db, dc⟩
            all_goals
              clear c3
              go_wp2_with fail
              go_returns
              exact ⟨rfl, hbr.alloc zr _⟩
          have d1 : ¬ t < 0 := by omega
          have d2 : ¬ 65536 < t := by omega
          have d3 : ¬ L < 0 := by omega
          have d4 : ¬ 65536 < L := by omega
          by_cases c4 : WY = 0
          · subst c4
            go_wp2_with fail
            refine (HW _ (by go_grown)).mono ?_
            rintro e w4 ⟨rfl, hb4⟩
            have x0 : w4.cell? ⟨wr.heap.size, 0, none⟩ = some (.int .i64 t) := keepC hb4 (by simp) (by simp [go_sem])
            have x1 : w4.cell? ⟨wr.heap.size, 1, none⟩ = some (.int .i64 L) := keepC hb4 (by simp) (by simp [go_sem])
            have x2 : w4.cell? ⟨wr.heap.size, 2, none⟩ = some (.slice ea ev.length ec) := keepC hb4 (by simp) (by simp [go_sem])
            have x3 : w4.cell? ⟨wr.heap.size, 3, none⟩ = some (.slice ka kids.length kc) := keepC hb4 (by simp) (by simp [go_sem])
            have z4 : wr.heap.size < w4.heap.size := by have := hb4.size; simp at this; omega
            have hbr4 : Below wr.heap.size wr w4 := ((Below.refl _ wr).alloc (Nat.le_refl _) _).trans (hb4.mono (by simp))
            have hb04 := hbr.trans (hbr4.mono zr)
            obtain ⟨w0, hw0⟩ : ∃ x, x = wr := ⟨wr, rfl⟩
            subst hw0
            have hel := HEl.out w4 hbr4
            have n1 := HN.h1
            have n2 := HN.h2
            clear hb4 HW r0 r1 r2 r3 A1 A2 hbr HEl
            go_wp2_with fail
            go_loopw [67] (fun i wx => ∃ (j : Nat), j ≤ ev.length ∧ i = .int .i64 j ∧ Hid (∀ e ∈ ev.take j, e.t < L) ∧ Below w4.heap.size w4 wx) (fun i _ => ev.length - (intOf i).toNat)
            case atStart => exact ⟨0, by omega, rfl, (fun e he => by simp at he : ∀ e ∈ ev.take 0, e.t < L), Below.refl _ _⟩
            case round =>
              obtain ⟨j, hjn, rfl, hjl, hbx⟩ := hrel
              have zx := hbx.size
              have y1 := keepC hbx z4 x1
              have zw : w0.heap.size < wr.heap.size := by omega
              by_cases hlj : j < ev.length
              · have hlj' : (j : Int) < ev.length := by omega
                obtain ⟨e, he⟩ : ∃ e, ev[j]? = some e := ⟨_, List.getElem?_eq_getElem hlj⟩
                obtain ⟨eb, eo, rfl, heB, g0⟩ := hel.at' (by omega)
                have g5 := g0 j e he
                have hebz : eb < w4.heap.size := by omega
                have f0 := keepC hbx hebz g5.c0
                have f1 := keepC hbx hebz g5.c1
                have f2 := keepC hbx hebz g5.c2
                have f3 := keepC hbx hebz g5.c3
                have f4 := keepC hbx hebz g5.c4
                have ebz : eb < wr.heap.size := by omega
                have wj : IntKind.i64.wrap ((j : Int) + 1) = (j : Int) + 1 := wid (by omega) (by omega)
                by_cases ce : L ≤ e.t
                · have hY := A3.out c3 (by first | rfl | trivial) ⟨e, List.mem_of_getElem? he, ce⟩
                  obtain ⟨e1, e2, e3⟩ := HB.out (by rw [hY]; decide)
                  rw [hY] at e1
                  subst e1 e2 e3 hY
                  clear A3 A4 HB HG HKO HK he g0 g5 hjl c3
                  obtain ⟨et, ek, ec', ea', eb'⟩ := e
                  dsimp only at *
                  go_wp2_with fail
                  go_returns
                  exact ⟨rfl, hb04.trans ((hbx.mono hb04.size).trans ((Below.refl _ _).alloc (by have := hb04.size; omega) _))⟩
                · have hjl2 : Hid (∀ x ∈ ev.take (j + 1), x.t < L) := by
                    show ∀ x ∈ ev.take (j + 1), x.t < L
                    intro x hx
                    rw [M.take_one he] at hx
                    rcases List.mem_append.1 hx with hx | hx
                    · exact hjl.out x hx
                    · simp at hx; subst hx; omega
                  clear A3 A4 HB HG HKO HK he g0 g5 hjl c3
                  obtain ⟨et, ek, ec', ea', eb'⟩ := e
                  dsimp only at *
                  go_wp2_with fail
                  go_roundw
                  case rel => exact ⟨j + 1, by omega, by go_num, hjl2, hbx.alloc hbx.size _⟩
                  case measure => simp [intOf]; omega
              · obtain rfl : j = ev.length := by omega
                have hlj' : ¬ ((ev.length : Nat) : Int) < ev.length := by omega
                have hjo := hjl.out
                rw [List.take_length] at hjo
                have hY := A4.out c3 (by first | rfl | trivial) hjo
                have hGG := HG.out hY
                have y3 := keepC hbx z4 x3
                have y0 := keepC hbx z4 x0
                have hbr5 : Below w0.heap.size w0 wr := hbr4.trans (hbx.mono (by omega))
                have hb05 : Below w.heap.size w wr := hb04.trans (hbx.mono hb04.size)
                have HK5 := HK wr hbr5 (by omega) (by omega)
                have HGG : Hid ((VE, VM, VL) = if (M.cke t L m' (KE, KM, KL)).1 ≠ 0 then ((M.cke t L m' (KE, KM, KL)).1, (M.cke t L m' (KE, KM, KL)).2.1, 0) else if 1125899906842624 < A + (M.cke t L m' (KE, KM, KL)).2.2 then (4, (M.cke t L m' (KE, KM, KL)).2.1, 0) else M.cks (l.drop (k + 1)) lev (M.cke t L m' (KE, KM, KL)).2.1 (A + (M.cke t L m' (KE, KM, KL)).2.2)) := hGG
                obtain ⟨w5, hw5⟩ : ∃ x, x = wr := ⟨wr, rfl⟩
                subst hw5
                clear A3 A4 HB HG HK hjl hjo c3 hGG hel hbx hY x0 x1 x2 x3 hbr4
                go_wp2_with fail
                refine HK5.mono ?_
                rintro e w6 ⟨rfl, hb6⟩
                have v0 := keepC hb6 zw y0
                have v1 := keepC hb6 zw y1
                have z6 : w0.heap.size < w6.heap.size := by have := hb6.size; omega
                have hb06 := hb05.trans (hb6.mono hb05.size)
                clear hb6 y0 y1 y3 HK5
                by_cases cK : KE = 0
                · subst cK
                  obtain ⟨k0, k1, k2, k3⟩ := HKO.out rfl
                  have hG2 := HGG.out
                  unfold M.cke at hG2
                  rw [if_neg (show ¬ ((0 : Int), KM, KL).1 ≠ 0 from fun q => q rfl)] at hG2
                  dsimp only at hG2
                  clear HGG HKO
                  obtain ⟨T, rfl⟩ : ∃ T : Nat, t = T := ⟨t.toNat, by omega⟩
                  have HX1 : Hid (1125899906842624 < A + (T : Int) * (L + KL) → VE = 4 ∧ VM = KM ∧ VL = 0) := fun h => by
                    have hg := hG2
                    by_cases cc : 1125899906842624 < (T : Int) * (L + KL)
                    · rw [if_pos cc] at hg
                      dsimp only at hg
                      rw [if_pos (by decide)] at hg
                      simpa using hg
                    · rw [if_neg cc] at hg
                      dsimp only at hg
                      rw [if_neg (by simp), if_pos h] at hg
                      simpa using hg
                  have HX2 : Hid (¬ 1125899906842624 < A + (T : Int) * (L + KL) → (VE, VM, VL) = M.cks (l.drop (k + 1)) lev KM (A + (T : Int) * (L + KL))) := fun h => by
                    have hg := hG2
                    rw [if_neg (show ¬ 1125899906842624 < (T : Int) * (L + KL) by omega)] at hg
                    dsimp only at hg
                    rw [if_neg (by simp), if_neg h] at hg
                    exact hg
                  have HMono : Hid (∀ i : Nat, i ≤ T → (i : Int) * (L + KL) ≤ (T : Int) * (L + KL) ∧ 0 ≤ (i : Int) * (L + KL) ∧ ((i + 1 : Nat) : Int) * (L + KL) = (i : Int) * (L + KL) + (L + KL)) := fun i hi => by
                    have p1 : (i : Int) * (L + KL) ≤ (T : Int) * (L + KL) := Int.mul_le_mul_of_nonneg_right (by omega) (by omega)
                    have p2 : 0 ≤ (i : Int) * (L + KL) := Int.mul_nonneg (by omega) (by omega)
                    have p3 : ((i + 1 : Nat) : Int) * (L + KL) = (i : Int) * (L + KL) + (L + KL) := by rw [Int.natCast_add, Int.add_mul]; simp
                    exact ⟨p1, p2, p3⟩
                  have HA00 : Hid (A = A + ((0 : Nat) : Int) * (L + KL)) := by show A = _; simp
                  clear hG2
                  go_wp2_with fail
                  go_loopw [18, 9] (fun i x wx => ∃ (j : Nat) (X : Int), j ≤ T ∧ i = .int .i64 j ∧ x = .int .i64 X ∧ Hid (X = A + (j : Int) * (L + KL)) ∧ 0 ≤ X ∧ X ≤ 1125899906842624 ∧ Below w6.heap.size w6 wx) (fun i _ _ => T - (intOf i).toNat)
                  case atStart => exact ⟨0, A, by omega, rfl, rfl, HA00, hA0, hA1, Below.refl _ _⟩
                  case round =>
                    obtain ⟨j, X, hjT, rfl, rfl, hX, hX0, hX1, hbx⟩ := hrel
                    have u0 := keepC hbx z6 v0
                    have u1 := keepC hbx z6 v1
                    have z7 : w0.heap.size < wr.heap.size := by have := hbx.size; omega
                    have hb07 := hb06.trans (hbx.mono hb06.size)
                    by_cases hjl : j < T
                    · have hjl' : (j : Int) < (T : Int) := by omega
                      obtain ⟨m1, m2, m3⟩ := HMono.out j (by omega)
                      obtain ⟨m4, _, _⟩ := HMono.out (j + 1) (by omega)
                      have wa : IntKind.i64.wrap (X + L) = X + L := wid (by omega) (by omega)
                      have wb : IntKind.i64.wrap (X + L + KL) = X + L + KL := wid (by omega) (by omega)
                      have wj : IntKind.i64.wrap ((j : Int) + 1) = (j : Int) + 1 := wid (by omega) (by omega)
                      have hX2 : Hid (X + L + KL = A + ((j + 1 : Nat) : Int) * (L + KL)) := by
                        show X + L + KL = _
                        rw [m3, hX.out]; omega
                      by_cases cb : 1125899906842624 < X + L + KL
                      · obtain ⟨e1, e2, e3⟩ := HX1.out (by have := hX2.out; omega)
                        subst e1 e2 e3
                        clear HX1 HX2 HMono HA00 hX hX2 m1 m2 m3 m4
                        go_wp2_with fail
                        go_returns
                        exact ⟨rfl, hb07⟩
                      · clear HX1 HX2 HMono HA00 hX m1 m2 m3 m4
                        go_wp2_with fail
                        go_roundw
                        case rel => exact ⟨j + 1, X + L + KL, by omega, by go_num, rfl, hX2, by omega, by omega, hbx⟩
                        case measure => simp [intOf]; omega
                    · obtain rfl : j = T := by omega
                      have hjl' : ¬ (j : Int) < (j : Int) := by omega
                      have hE2 := HX2.out (by rw [← hX.out]; omega)
                      rw [← hX.out] at hE2
                      have HE2 : Hid ((VE, VM, VL) = M.cks (l.drop (k + 1)) lev KM X) := hE2
                      clear HX1 HX2 HMono HA00 hX hE2
                      go_wp2_with fail
                      go_roundw
                      case rel => exact ⟨k + 1, X, KM, by omega, by go_num, rfl, rfl, hX0, hX1, k2, k3, HE2, hb07⟩
                      case measure => simp [intOf]; omega
                · have cK' : (KE != 0) = true := by simp [cK]
                  have hG2 := HGG.out
                  unfold M.cke at hG2
                  rw [if_pos (show (KE, KM, KL).1 ≠ 0 from cK)] at hG2
                  dsimp only at hG2
                  rw [if_pos cK] at hG2
                  obtain ⟨e1, e2, e3⟩ : VE = KE ∧ VM = KM ∧ VL = 0 := by simpa using hG2
                  subst e1 e2 e3
                  clear hG2 HGG HKO cK
                  go_wp2_with fail
                  go_returns
                  exact ⟨rfl, hb06⟩
          · have c4' : (WY != 0) = true := by simp [c4]
            have hY := A2.out c3 c4
            obtain ⟨e1, e2, e3⟩ := HB.out (by rw [hY]; exact c4)
            rw [hY] at e1
            subst e1 e2 e3 hY
            clear A1 A2 A3 A4 HB HG HKO HK HEl c3 c4
            go_wp2_with fail
            refine (HW _ (by go_grown)).mono ?_
            rintro e w4 ⟨rfl, hb4⟩
            have hb5 := (hbr.alloc zr _).trans (hb4.mono (show w.heap.size ≤ _ by simp; omega))
            go_wp2_with fail
            go_returns
            exact ⟨rfl, hb5⟩
        · obtain rfl : k = l.length := by omega
          have hlt' : ¬ ((l.length : Nat) : Int) < l.length := by omega
          have hE := hk.out
          rw [List.drop_length, M.cks_nil] at hE
          obtain ⟨rfl, rfl, rfl⟩ : VE = 0 ∧ VM = m' ∧ VL = A := by simpa using hE
          clear hk hE
          go_wp2_with fail
          go_returns
          exact ⟨rfl, hbr⟩
    · have hl0 : l = [] := List.length_eq_zero_iff.1 (by omega)
      subst hl0
      have hE := HV.out
      rw [List.drop_nil, M.cks_nil] at hE
      obtain ⟨rfl, rfl, rfl⟩ : VE = 0 ∧ VM = m ∧ VL = 0 := by simpa using hE
      clear HV hE IH HL HLV cl
      simp only [List.length_nil] at *
      go_wp2_with fail
      refine wp_loop_rounds 1 ?_
      rw [rounds_succ]
      go_wp2_with fail
      go_returns
      exact ⟨rfl, by go_grown⟩
theorem long_any (l : List M.Sc) : LgC l := by
  suffices H : ∀ s : M.Sc, LgC s.kids from long_list l (fun s _ => H s)
  intro s
  induction s using M.Sc.ind with
  | h t L ev kids ih => exact long_list kids ih
/-- What the document's Long answers. -/
theorem refLong_any (l : List M.Sc) (w : World) (ao : Option Addr) (c : Nat) (hL : LL w (· < w.heap.size) ao l) (hc : l.length ≤ c) (hcm : c ≤ 9223372036854775807) :
    Calls Try.prog 8 #[.slice ao l.length c] w fun e w' => e = .returned (.tuple #[.int .i64 (M.cks l 1 0 0).2.2, .int .i64 (M.cks l 1 0 0).1]) ∧ Below w.heap.size w w' := by
  have H := long_any l 1 0 w w.heap.size ao c hL (Nat.le_refl _) hc hcm (by omega) (by omega) (by omega) (by omega)
  generalize M.cks l 1 0 0 = V at *
  obtain ⟨VE, VM, VL⟩ := V
  dsimp only at *
  go_enter Try.func8, Try.ntmps8
  go_wp2_with fail
  refine H.mono ?_
  rintro e w1 ⟨rfl, hb⟩
  go_wp2_with fail
  go_returns
  exact ⟨rfl, hb⟩
end Go.Proofs.Ytaohahahhjkcdah.X
