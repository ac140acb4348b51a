/- The law ScoreBars: its walk. -/
import Derived.Test.YtaohahahhjkcdaeGreatDoorSG39
import Derived.Test.YtaohahahhjkcdaeGreatDoorSG41
import Derived.Test.YtaohahahhjkcdaeGreatDoorSG40
import Derived.Deep.DeepCutAuto
namespace Go.Proofs.YtaohahahhjkcdaeGreatDoor.G
open Go.RowKit Go.Maps
set_option linter.unusedVariables false
set_option linter.unusedSimpArgs false

theorem Notes_one {W : World} {B g : Nat} {s : ByteArray} {ba : Option Addr} {n bc : Nat} {up dn : Nat → Int} {t : Nat → M.It} (c0 : W.cell? ⟨g, 0, none⟩ = some (.string s)) (c1 : W.cell? ⟨g, 1, none⟩ = some (.slice ba n bc)) (h1 : n ≤ bc) (h2 : bc ≤ 9223372036854775807) (hb : BL W B ba n up dn t) (hG : GT W B) (hB : B ≤ W.heap.size) (hg : g < W.heap.size) :
    Calls Tryz.prog 5 #[.slice (some ⟨g, 0, none⟩) 1 1] W fun e w' => NtQ (M.nts 1 (fun _ => s) (fun _ => n) (fun _ => up) (fun _ => dn) (fun _ => t)) W e w' :=
  Notes_any _ 1 1 W.heap.size _ _ _ _ _ W (VL.one c0 c1 h1 h2 (hb.mono hB) hg) (hG.mono hB) (Nat.le_refl _) (Nat.le_refl _) (by omega)
set_option maxRecDepth 20000 in
set_option maxHeartbeats 16000000 in
theorem bars_out (s : ByteArray) (ba : Option Addr) (n bc : Nat) (at_ : Int) (w : World) (hr : at_ < 0 ∨ (n : Int) < at_) :
    Calls Tryz.prog 3 #[.agg #[.string s, .slice ba n bc], .int .i64 at_] w fun e w' => e = .returned (.bool true) ∧ Below w.heap.size w w' := by
  go_enter Tryz.func3, Tryz.ntmps3
  go_wp2_with fail
  have hb0 : ∀ os, Below w.heap.size w (w.alloc os) := fun os => by go_grown
  refine (J.alive_any _).mono ?_
  rintro e w1 ⟨rfl, hb1⟩
  have k1 : Below w.heap.size w w1 := (hb0 _).trans (hb1.mono (by simp))
  have z1 := hb1.size
  simp at z1
  have p1 : w1.cell? ⟨w.heap.size, 1, none⟩ = some (.slice ba n bc) := F.keepC hb1 (by simp) (by simp [go_sem])
  clear hb1 hb0
  by_cases hneg : at_ < 0
  · clear hr
    go_wp2_with fail
    go_ret
    exact ⟨rfl, k1⟩
  · have hgt : (n : Int) < at_ := by omega
    clear hr
    go_wp2_with fail
    go_ret
    exact ⟨rfl, k1⟩
end Go.Proofs.YtaohahahhjkcdaeGreatDoor.G

/- The law ScoreBars: its walk where the place is one of the voice. -/
namespace Go.Proofs.YtaohahahhjkcdaeGreatDoor.G
open Go.RowKit Go.Maps
set_option linter.unusedVariables false
set_option linter.unusedSimpArgs false

theorem M.bk_before {up dn : Nat → Int} {j : Nat} : ∀ {k : Nat} {B : Int × Int}, M.bk up dn k = some B → j ≤ k → ∃ q, M.bk up dn j = some q
  | 0, B, h, hj => by
    obtain rfl : j = 0 := by omega
    exact ⟨_, h⟩
  | k + 1, B, h, hj => by
    by_cases e : j = k + 1
    · rw [e]; exact ⟨_, h⟩
    · rw [M.bk] at h
      obtain ⟨b, hb, _⟩ := Option.bind_eq_some_iff.1 h
      exact M.bk_before hb (by omega)
set_option maxRecDepth 20000 in
set_option maxHeartbeats 16000000 in
theorem bars_in (s : ByteArray) (ba : Option Addr) (n bc B k : Nat) (up dn : Nat → Int) (t : Nat → M.It) (w : World) (hBL : BL w B ba n up dn t) (hg : GT w B) (hBs : B ≤ w.heap.size) (hn : n ≤ bc) (hbc : bc ≤ 9223372036854775807) (hk : k ≤ n) :
    Calls Tryz.prog 3 #[.agg #[.string s, .slice ba n bc], .int .i64 (k : Int)] w fun e w' => e = .returned (.bool true) ∧ Below w.heap.size w w' := by
  have hk1 : ¬ (k : Int) < 0 := by omega
  have hk2 : ¬ (n : Int) < k := by omega
  have HNW := fun (W : World) g c0 c1 hb hG hB hg => Notes_one (W := W) (B := B) (g := g) (s := s) (ba := ba) (bc := bc) (n := n) (up := up) (dn := dn) (t := t) c0 c1 hn hbc hb hG hB hg
  have HNA := fun (W : World) g c0 c1 hb hG hB hg => Notes_one (W := W) (B := B) (g := g) (s := s) (ba := ba) (bc := k) (n := k) (up := up) (dn := dn) (t := t) c0 c1 (Nat.le_refl _) (by omega) hb hG hB hg
  have HNB := fun (W : World) g c0 c1 hb hG hB hg => Notes_one (W := W) (B := B) (g := g) (s := s) (ba := if bc = k then ba else ba.map (fun a => a.add (k * 3))) (bc := bc - k) (n := n - k) (up := fun m => up (k + m)) (dn := fun m => dn (k + m)) (t := fun m => t (k + m)) c0 c1 (by omega) (by omega) hb hG hB hg
  have HC : Hid (_ → _ → _) := fun h htd => M.cut_two (s := s) (n := n) (k := k) (up := up) (dn := dn) (t := t) h hk htd
  have HL : Hid (_ → _) := fun h => (M.one_st (s := s) (n := n) (up := up) (dn := dn) (t := t) h).2
  have HS : Hid (_ → _) := fun h => (M.one_st (s := s) (n := n - k) (up := fun m => up (k + m)) (dn := fun m => dn (k + m)) (t := fun m => t (k + m)) h).1
  have HF : Hid ((M.nts 1 (fun _ => s) (fun _ => n) (fun _ => up) (fun _ => dn) (fun _ => t)).2 = 0 → ∀ j, j < n → 1 ≤ up j ∧ up j ≤ 65536 ∧ 1 ≤ dn j ∧ dn j ≤ 65536) := fun h j hj => by
    obtain ⟨a, b, c, d, _⟩ := ((M.pw_ok (M.pw_of h)).2 0 (by omega)).2 j hj
    exact ⟨a, b, c, d⟩
  generalize M.nts 1 (fun _ => s) (fun _ => n) (fun _ => up) (fun _ => dn) (fun _ => t) = R at *
  generalize M.nts 1 (fun _ => s) (fun _ => k) (fun _ => up) (fun _ => dn) (fun _ => t) = RA at *
  generalize M.nts 1 (fun _ => s) (fun _ => n - k) (fun _ m => up (k + m)) (fun _ m => dn (k + m)) (fun _ m => t (k + m)) = RB at *
  obtain ⟨nw, ew⟩ := R
  obtain ⟨na, ea⟩ := RA
  obtain ⟨nb, eb⟩ := RB
  simp only at HC HL HS HF
  go_enter Tryz.func3, Tryz.ntmps3
  go_wp2_with fail
  have hb0 : ∀ os, Below w.heap.size w (w.alloc os) := fun os => by go_grown
  refine (J.alive_any _).mono ?_
  rintro e w1 ⟨rfl, hb1⟩
  have k1 : Below w.heap.size w w1 := (hb0 _).trans (hb1.mono (by simp))
  have z1 := hb1.size
  simp at z1
  have p0 : w1.cell? ⟨w.heap.size, 0, none⟩ = some (.string s) := F.keepC hb1 (by simp) (by simp [go_sem])
  have p1 : w1.cell? ⟨w.heap.size, 1, none⟩ = some (.slice ba n bc) := F.keepC hb1 (by simp) (by simp [go_sem])
  clear hb1 hb0
  have zw1 : w.heap.size < w1.heap.size := by omega
  clear z1
  go_wp2_with fail
  have hba : ∀ os, Below w1.heap.size w1 (w1.alloc os) := fun os => by go_grown
  refine (HNW _ w1.heap.size (by simp [go_sem]) (by simp [go_sem]) (hBL.step ((k1.mono hBs).trans ((hba _).mono (by omega)))) (hg.step ((k1.mono hBs).trans ((hba _).mono (by omega)))) (by simp; omega) (by simp)).mono ?_
  rintro e w2 ⟨v, rfl, hown, hb2⟩
  have z2 := hb2.size
  simp at z2
  have k12 : Below w1.heap.size w1 w2 := (hba _).trans (hb2.mono (by simp))
  have hown2 := hown
  simp only [World.size_alloc] at hown2
  have k2 : Below w.heap.size w w2 := k1.trans (k12.mono k1.size)
  have r0 : w2.cell? ⟨w.heap.size, 0, none⟩ = some (.string s) := F.keepC k12 zw1 p0
  have r1 : w2.cell? ⟨w.heap.size, 1, none⟩ = some (.slice ba n bc) := F.keepC k12 zw1 p1
  have zw2 : w.heap.size < w2.heap.size := by omega
  have hBL2 : BL w2 B ba n up dn t := hBL.step (k2.mono hBs)
  have hg2 : GT w2 B := hg.step (k2.mono hBs)
  have hB2 : B ≤ w2.heap.size := by omega
  clear hown hb2 hba HNW hBL hg p0 p1
  by_cases hew : ew = 0
  · subst hew
    obtain ⟨va, vcap, rfl, v1, v2⟩ := own_form hown2
    have HC1 : Hid _ := HC.out rfl
    have HF1 : Hid _ := HF.out rfl
    have HL1 := HL.out rfl
    clear HC HF HL
    go_upto_region 6 with fail
    go_cut [53] (fun u wx => u = .bool (decide (k < n) && M.td (t k)) ∧ wx = w2)
    case first =>
      by_cases hkn : k < n
      · have hkn' : (k : Int) < n := by omega
        obtain ⟨b, off, ia, ic, rfl, hbB, c0, c1, c2, c3, c4, hLL⟩ := hBL2.bar hkn
        have HT := fun W hL => tied_any (t k) ia ic B W hL c3 c4
        go_wp2_with fail
        refine (HT _ hLL).mono ?_
        rintro e w3 ⟨rfl, rfl⟩
        go_wp2_with fail
        go_meet
        case rel => exact ⟨by rw [decide_eq_true hkn]; rfl, rfl⟩
      · have hkn' : ¬ (k : Int) < n := by omega
        go_wp2_with fail
        go_meet
        case rel => exact ⟨by rw [decide_eq_false hkn]; rfl, rfl⟩
    case rest =>
      obtain ⟨rfl, rfl⟩ := hcut
      obtain ⟨W2, hW2⟩ : ∃ x, x = wc := ⟨wc, rfl⟩
      subst hW2
      by_cases htd : (decide (k < n) && M.td (t k)) = true
      · rw [htd]
        go_wp2_with fail
        go_ret
        exact ⟨rfl, k2⟩
      · have htd' : (decide (k < n) && M.td (t k)) = false := by simpa using htd
        have HCB : Hid _ := HC1.out (fun h => by rw [decide_eq_true h] at htd'; simpa using htd')
        rw [htd']
        clear htd htd' HC1
        go_upto_region 8 with fail
        have hkb : (k : Int) ≤ bc := by omega
        have hkn0 : (k : Int) ≤ n := by omega
        have hBLA : BL W2 B ba k up dn t := hBL2.take hk
        go_cut [7, 6] (fun a e wx => ∃ (aa : Option Addr) (acap C : Nat), a = .slice aa na.length acap ∧ e = .int .i64 ea ∧ na.length ≤ acap ∧ acap ≤ 9223372036854775807 ∧ W2.heap.size ≤ C ∧ C ≤ wx.heap.size ∧ wx.ownsRow C 43 9 (.slice aa na.length acap) na.length (ntL na) ∧ Below W2.heap.size W2 wx)
        case first =>
          go_region_law (first
            | (go_simp; go_at_call 5; refine (HNA _ W2.heap.size (by simp [go_sem]) (by simp [go_sem]) (hBLA.step ((show Below W2.heap.size W2 _ from by go_grown).mono hB2)) (hg2.step ((show Below W2.heap.size W2 _ from by go_grown).mono hB2)) (by simp; omega) (by simp)).mono ?_; rintro e w5 ⟨v5, rfl, hown5, hb5⟩; simp only [World.size_alloc] at hown5; have h5 : Below W2.heap.size W2 w5 := Below.trans (by go_grown) (hb5.mono (by simp)); have z5 : W2.heap.size + 1 ≤ w5.heap.size := (by have := hb5.size; simpa using this); obtain ⟨aa, acap, rfl, a1, a2⟩ := own_form hown5; clear hb5))
          all_goals
            go_wp2_with fail
            go_meet
            case rel => exact ⟨aa, acap, _, rfl, rfl, a1, a2, by simp, by simp; omega, hown5, h5⟩
        case rest =>
          obtain ⟨aa, acap, CA, rfl, rfl, a1, a2, hCA, hCA2, hownA, hbA⟩ := hcut
          obtain ⟨W3, hW3⟩ : ∃ x, x = wc := ⟨wc, rfl⟩
          subst hW3
          have z3 := hbA.size
          have k3 : Below w.heap.size w W3 := k2.trans (hbA.mono (by omega))
          have r03 := F.keepC hbA zw2 r0
          have r13 := F.keepC hbA zw2 r1
          have hBL3 : BL W3 B ba n up dn t := hBL2.step (hbA.mono hB2)
          have hg3 : GT W3 B := hg2.step (hbA.mono hB2)
          have hB3 : B ≤ W3.heap.size := by omega
          have hown3 := F.own_step hown2 hbA
          have hlt2 := own_lt hown2
          have hBLB := hBL3.drop hk bc hn
          have hlt3 := own_lt hownA
          have zw3 : w.heap.size < W3.heap.size := by omega
          clear hBLA HNA hBL2 hg2 hB2 hown2 r0 r1 k2
          go_upto_region 9 with fail
          go_cut [8, 9] (fun b e wx => ∃ (bb : Option Addr) (bcap C : Nat), b = .slice bb nb.length bcap ∧ e = .int .i64 eb ∧ nb.length ≤ bcap ∧ bcap ≤ 9223372036854775807 ∧ W3.heap.size ≤ C ∧ C ≤ wx.heap.size ∧ wx.ownsRow C 43 9 (.slice bb nb.length bcap) nb.length (ntL nb) ∧ Below W3.heap.size W3 wx)
          case first =>
            by_cases hbk : bc = k
            · subst hbk
              go_region_law (first
              | (go_simp; go_at_call 5; refine (HNB _ W3.heap.size (by simp [go_sem]) (by simp [go_sem] <;> omega) (hBLB.step ((show Below W3.heap.size W3 _ from by go_grown).mono hB3)) (hg3.step ((show Below W3.heap.size W3 _ from by go_grown).mono hB3)) (by simp; omega) (by simp)).mono ?_; rintro e w5 ⟨v5, rfl, hown5, hb5⟩; simp only [World.size_alloc] at hown5; have h5 : Below W3.heap.size W3 w5 := Below.trans (by go_grown) (hb5.mono (by simp)); have z5 : W3.heap.size + 1 ≤ w5.heap.size := (by have := hb5.size; simpa using this); obtain ⟨bb, bcap, rfl, b1, b2⟩ := own_form hown5; clear hb5))
              all_goals
                go_wp2_with fail
                go_meet
                case rel => exact ⟨bb, bcap, _, rfl, rfl, b1, b2, by simp, by simp; omega, hown5, h5⟩
            · go_region_law (first
              | (go_simp; go_at_call 5; refine (HNB _ W3.heap.size (by simp [go_sem]) (by simp [go_sem, hbk]) (hBLB.step ((show Below W3.heap.size W3 _ from by go_grown).mono hB3)) (hg3.step ((show Below W3.heap.size W3 _ from by go_grown).mono hB3)) (by simp; omega) (by simp)).mono ?_; rintro e w5 ⟨v5, rfl, hown5, hb5⟩; simp only [World.size_alloc] at hown5; have h5 : Below W3.heap.size W3 w5 := Below.trans (by go_grown) (hb5.mono (by simp)); have z5 : W3.heap.size + 1 ≤ w5.heap.size := (by have := hb5.size; simpa using this); obtain ⟨bb, bcap, rfl, b1, b2⟩ := own_form hown5; clear hb5))
              all_goals
                go_wp2_with fail
                go_meet
                case rel => exact ⟨bb, bcap, _, rfl, rfl, b1, b2, by simp, by simp; omega, hown5, h5⟩
          case rest =>
            obtain ⟨bb, bcap, CB, rfl, rfl, b1, b2, hCB, hCB2, hownB, hbB⟩ := hcut
            obtain ⟨W4, hW4⟩ : ∃ x, x = wc := ⟨wc, rfl⟩
            subst hW4
            have z4 := hbB.size
            have k4 : Below w.heap.size w W4 := k3.trans (hbB.mono (by omega))
            have r04 := F.keepC hbB zw3 r03
            have r14 := F.keepC hbB zw3 r13
            have hBL4 : BL W4 B ba n up dn t := hBL3.step (hbB.mono hB3)
            have hB4 : B ≤ W4.heap.size := by omega
            have hown4 := F.own_step hown3 hbB
            have hownA4 := F.own_step hownA hbB
            have hlt4 := own_lt hownB
            have zw4 : w.heap.size < W4.heap.size := by omega
            clear hBLB HNB hBL3 hg3 hB3 hown3 hownA r03 r13 k3
            obtain ⟨hea, Bq, hbk, hBok, hE⟩ := HCB.out
            by_cases heb : eb = 4
            · subst heb
              clear HCB hE
              go_wp2_with fail
              go_ret
              exact ⟨rfl, k4⟩
            · obtain ⟨heb0, hnw, hTol⟩ := hE.resolve_left heb
              subst hea heb0
              have hlen : (nw.length : Int) = (na.length : Int) + (nb.length : Int) := by rw [hnw, List.length_append, List.length_map]; omega
              have hlenN : nw.length = na.length + nb.length := by omega
              have wr1 : IntKind.i64.wrap ((na.length : Int) + (nb.length : Int)) = (na.length : Int) + (nb.length : Int) := F.wid (by omega) (by omega)
              have HNw : Hid (nw = na ++ nb.map (M.sft Bq)) := hnw
              have HTo : Hid (M.Tol Bq nb) := hTol
              have HSt : Hid (M.StN nb) := HS.out rfl
              have HBk : Hid (M.bk up dn k = some Bq) := hbk
              have HBo : Hid (F.M.Ok Bq) := hBok
              clear HCB hE hnw hTol HS hbk hBok heb
              rw [hlen] at *
              go_wp2_with fail
              go_loopw [103] (fun i wr => ∃ (j : Nat) (q : Int × Int), j ≤ k ∧ i = .int .i64 (j : Int) ∧ Hid (M.bk up dn j = some q) ∧ Hid (F.M.Ok q) ∧ wr.cell? ⟨W4.heap.size, 0, none⟩ = some (.int .i64 q.1) ∧ wr.cell? ⟨W4.heap.size, 1, none⟩ = some (.int .i64 q.2) ∧ wr.frozen? ⟨W4.heap.size, 0, none⟩ = false ∧ wr.frozen? ⟨W4.heap.size, 1, none⟩ = false ∧ Below W4.heap.size W4 wr ∧ W4.heap.size < wr.heap.size) (fun i _ => k - (intOf i).toNat)
              case atStart => exact ⟨0, (0, 1), by omega, rfl, rfl, (by show F.M.ok 0 1 = true; decide), by simp [go_sem], by simp [go_sem], by simp [go_sem], by simp [go_sem], by go_grown, by simp⟩
              case round =>
                obtain ⟨j, ⟨q1, q2⟩, hjk, rfl, HBj, HOq, d0, d1, f0, f1, hbr, zr⟩ := hrel
                dsimp only at d0 d1
                obtain ⟨WR, hWR⟩ : ∃ x, x = wr := ⟨wr, rfl⟩
                subst hWR
                by_cases hlt : j < k
                ·
                  have hlt' : (j : Int) < k := by omega
                  obtain ⟨b, off, ia, ic, rfl, hbB', c0, c1, c2, c3, c4, _⟩ := (hBL4.step (hbr.mono hB4)).bar (show j < n by omega)
                  obtain ⟨g1, g2, g3, g4⟩ := HF1.out j (by omega)
                  obtain ⟨hme, hOf⟩ := M.foot g1 g2 g3 g4
                  have HM := fun W => F.refMake_any (up j) (dn j) W (by omega) (by omega) (by omega)
                  rw [hme] at HM
                  have HPl := fun W => F.refPlus_o (q1, q2) (F.M.mu (up j) (dn j), F.M.md (up j) (dn j)) W HOq.out hOf
                  obtain ⟨⟨q1', q2'⟩, hq'⟩ := M.bk_before HBk.out (show j + 1 ≤ k by omega)
                  have hpl : F.M.pl (q1, q2) (F.M.mu (up j) (dn j), F.M.md (up j) (dn j)) = some (q1', q2') := by
                    rw [← hq', M.bk, HBj.out]; rfl
                  rw [hpl] at HPl
                  simp only [F.M.tU, F.M.tD, F.M.tE] at HPl
                  have HO' : Hid (F.M.Ok (q1', q2')) := F.M.tell_ok hpl (F.M.mul_pos' _ _ HOq.out.low.1.1 hOf.low.1.1)
                  have HB' : Hid (M.bk up dn (j + 1) = some (q1', q2')) := hq'
                  have w3 : IntKind.i64.wrap ((j : Int) + 1) = (j : Int) + 1 := F.wid (by omega) (by omega)
                  have hbW : b < WR.heap.size := by omega
                  have hba : ∀ os, Below WR.heap.size WR (WR.alloc os) := fun os => by go_grown
                  clear hq' hpl HBj HOq hme hOf hBL4
                  generalize F.M.mu (up j) (dn j) = mU at *
                  generalize F.M.md (up j) (dn j) = mD at *
                  generalize up j = uj at *
                  generalize dn j = dj at *
                  go_wp2_with fail
                  refine (HM _).mono ?_
                  rintro e w5 ⟨rfl, hb5⟩
                  have h5 : Below WR.heap.size WR w5 := (hba _).trans (hb5.mono (by simp))
                  have z5 := h5.size
                  have e0 := F.keepC h5 zr d0
                  have e1 := F.keepC h5 zr d1
                  have l5 : W4.heap.size < w5.heap.size := by omega
                  have hbc5 : ∀ os, Below w5.heap.size w5 (w5.alloc os) := fun os => by go_grown
                  clear hb5
                  go_wp2_with fail
                  refine (HPl _).mono ?_
                  rintro e w6 ⟨rfl, hb6⟩
                  have h6 : Below WR.heap.size WR w6 := h5.trans (((hbc5 _).trans (hb6.mono (by simp))).mono z5)
                  have z6 := h6.size
                  have x0 := F.keepC h6 zr d0
                  have x1 := F.keepC h6 zr d1
                  have y0 := F.keepF h6 zr f0
                  have y1 := F.keepF h6 zr f1
                  have l6 : W4.heap.size < w6.heap.size := by omega
                  have hbr6 : Below W4.heap.size W4 w6 := hbr.trans (h6.mono (by omega))
                  clear hb6 hbc5 hba e0 e1 HM HPl
                  go_wp2_with fail
                  go_roundw
                  case rel => exact ⟨j + 1, (q1', q2'), by omega, by go_num, HB', HO', by simp [go_sem, x0, x1], by simp [go_sem, x0, x1], by simp [go_sem, y0, y1], by simp [go_sem, y0, y1], (hbr6.setCell (by simp) _).setCell (by simp) _, by simp; omega⟩
                  case measure => simp [intOf]; omega
                · obtain rfl : j = k := by omega
                  have hlt' : ¬ (j : Int) < (j : Int) := by omega
                  obtain rfl : Bq = (q1, q2) := Option.some.inj (HBk.out.symm.trans HBj.out)
                  have hbrS := hbr.size
                  have k5 : Below w.heap.size w WR := k4.trans (hbr.mono (by omega))
                  have hown5 := F.own_step hown4 hbr
                  have hownA5 := F.own_step hownA4 hbr
                  have hownB5 := F.own_step hownB hbr
                  clear hown4 hownA4 hownB hbr HBj HOq hBL4 HF1
                  have vg : 0 < nb.length → ∃ g, bb = some ⟨g, 0, none⟩ ∧ CB ≤ g ∧ g < W4.heap.size := fun h0 => by
                    rcases hownB5.2 with ⟨_, h2⟩ | ⟨g, cap', cur, hsl, h2, h3, _⟩
                    · omega
                    · have e : bb = some ⟨g, 0, none⟩ := by injection hsl
                      exact ⟨g, e, h2, hlt4 g (by rw [e]; rfl)⟩
                  clear r04 r14 hkn0 hkb hlt4 HBk
                  go_wp2_with fail
                  go_loopw [128] (fun i wr => ∃ m : Nat, m ≤ nb.length ∧ i = .int .i64 (m : Int) ∧ Hid (wr.ownsRow CB 43 9 (.slice bb nb.length bcap) nb.length (ntL (sfL (q1, q2) nb m))) ∧ Hid (wr.ownsRow CA 43 9 (.slice aa na.length acap) na.length (ntL na)) ∧ Hid (wr.ownsRow (w1.heap.size + 1) 43 9 (.slice va nw.length vcap) nw.length (ntL nw)) ∧ wr.cell? ⟨W4.heap.size, 0, none⟩ = some (.int .i64 q1) ∧ wr.cell? ⟨W4.heap.size, 1, none⟩ = some (.int .i64 q2) ∧ Below w.heap.size w wr ∧ W4.heap.size < wr.heap.size) (fun i _ => nb.length - (intOf i).toNat)
                  case atStart => exact ⟨0, by omega, rfl, (by show WR.ownsRow _ _ _ _ _ _; rw [sfL_zero]; exact hownB5), hownA5, hown5, d0, d1, k5, zr⟩
                  case round =>
                    obtain ⟨m, hm, rfl, HB, HA, HW, d0, d1, hkw, zr⟩ := hrel
                    clear hown5 hownA5 hownB5 k5
                    by_cases hlm : m < nb.length
                    ·
                      have hlm' : (m : Int) < nb.length := by omega
                      obtain ⟨x, hx⟩ : ∃ e, nb[m]? = some e := ⟨_, List.getElem?_eq_getElem hlm⟩
                      obtain ⟨g, rfl, gb, gl⟩ := vg (by omega)
                      obtain ⟨c0, c1, c2, c3, c4, c5, c6, c7, c8⟩ := own_N9' (sfL_len _ nb m) HB.out (sfL_get hx)
                      obtain ⟨⟨y1, y2⟩, hy⟩ := HTo.out x (List.mem_of_getElem? hx)
                      have HPl := fun W => F.refPlus_o x.st (q1, q2) W (HSt.out x (List.mem_of_getElem? hx)) HBo.out
                      rw [hy] at HPl
                      simp only [F.M.tU, F.M.tD, F.M.tE] at HPl
                      have hsf : Hid ((M.sft (q1, q2) x).st = (y1, y2)) := by show (F.M.pl x.st (q1, q2)).getD _ = _; rw [hy]; rfl
                      have hPut := fun (W : World) ho => sfL_put (w := W) (base := CB) (g := g) (cap := bcap) (B := (q1, q2)) (k := m) rfl ho hx
                      have HPut : Hid (∀ W : World, W.ownsRow CB 43 9 (.slice (some ⟨g, 0, none⟩) nb.length bcap) nb.length (ntL (sfL (q1, q2) nb m)) → _) := hPut
                      have w9 : IntKind.i64.wrap ((m : Int) + 1) = (m : Int) + 1 := F.wid (by omega) (by omega)
                      have glr : g < wr.heap.size := by omega
                      have ne1 : ¬ g = wr.heap.size := by omega
                      have ne2 : ¬ wr.heap.size = g := by omega
                      have ne3 : ¬ g = W4.heap.size := by omega
                      have ne4 : ¬ W4.heap.size = wr.heap.size := by omega
                      have hba : ∀ os, Below wr.heap.size wr (wr.alloc os) := fun os => by go_grown
                      clear hy hx hPut vg
                      rw [hsf.out] at HPut
                      obtain ⟨vo, ⟨st1, st2⟩, ⟨lg1, lg2⟩, pl, pa, po, ly⟩ := x
                      simp only at HPut HPl c0 c1 c2 c3 c4 c5 c6 c7 c8
                      clear hsf
                      go_wp2_with fail
                      refine (HPl _).mono ?_
                      rintro e w5 ⟨rfl, hb5⟩
                      have h5 : Below wr.heap.size wr w5 := (hba _).trans (hb5.mono (by simp))
                      have z5 := hb5.size
                      simp at z5
                      have l5 : wr.heap.size < w5.heap.size := by omega
                      have t0 : w5.cell? ⟨wr.heap.size, 0, none⟩ = some (.int .i64 vo) := F.keepC hb5 (by simp) (by simp [go_sem])
                      have t1 : w5.cell? ⟨wr.heap.size, 1, none⟩ = some (.int .i64 st1) := F.keepC hb5 (by simp) (by simp [go_sem])
                      have t2 : w5.cell? ⟨wr.heap.size, 2, none⟩ = some (.int .i64 st2) := F.keepC hb5 (by simp) (by simp [go_sem])
                      have t3 : w5.cell? ⟨wr.heap.size, 3, none⟩ = some (.int .i64 lg1) := F.keepC hb5 (by simp) (by simp [go_sem])
                      have t4 : w5.cell? ⟨wr.heap.size, 4, none⟩ = some (.int .i64 lg2) := F.keepC hb5 (by simp) (by simp [go_sem])
                      have t5 : w5.cell? ⟨wr.heap.size, 5, none⟩ = some (.int .i64 pl) := F.keepC hb5 (by simp) (by simp [go_sem])
                      have t6 : w5.cell? ⟨wr.heap.size, 6, none⟩ = some (.int .i64 pa) := F.keepC hb5 (by simp) (by simp [go_sem])
                      have t7 : w5.cell? ⟨wr.heap.size, 7, none⟩ = some (.int .i64 po) := F.keepC hb5 (by simp) (by simp [go_sem])
                      have t8 : w5.cell? ⟨wr.heap.size, 8, none⟩ = some (.string ly) := F.keepC hb5 (by simp) (by simp [go_sem])
                      have f1 : w5.frozen? ⟨wr.heap.size, 1, none⟩ = false := F.keepF hb5 (by simp) (by simp [go_sem])
                      have f2 : w5.frozen? ⟨wr.heap.size, 2, none⟩ = false := F.keepF hb5 (by simp) (by simp [go_sem])
                      have HB5 : Hid (w5.ownsRow CB 43 9 (.slice (some ⟨g, 0, none⟩) nb.length bcap) nb.length (ntL (sfL (q1, q2) nb m))) := F.own_step HB.out h5
                      have HA5 : Hid (w5.ownsRow CA 43 9 (.slice aa na.length acap) na.length (ntL na)) := F.own_step HA.out h5
                      have HW5 : Hid (w5.ownsRow (w1.heap.size + 1) 43 9 (.slice va nw.length vcap) nw.length (ntL nw)) := F.own_step HW.out h5
                      have e0 := F.keepC h5 glr c0
                      have e1 := F.keepC h5 glr c1
                      have e2 := F.keepC h5 glr c2
                      have e3 := F.keepC h5 glr c3
                      have e4 := F.keepC h5 glr c4
                      have e5 := F.keepC h5 glr c5
                      have e6 := F.keepC h5 glr c6
                      have e7 := F.keepC h5 glr c7
                      have e8 := F.keepC h5 glr c8
                      have i0 := World.ownsRow.frozenAt HB5.out (m * 9)
                      have i1 := World.ownsRow.frozenAt HB5.out (m * 9 + 1)
                      have i2 := World.ownsRow.frozenAt HB5.out (m * 9 + 2)
                      have i3 := World.ownsRow.frozenAt HB5.out (m * 9 + 3)
                      have i4 := World.ownsRow.frozenAt HB5.out (m * 9 + 4)
                      have i5 := World.ownsRow.frozenAt HB5.out (m * 9 + 5)
                      have i6 := World.ownsRow.frozenAt HB5.out (m * 9 + 6)
                      have i7 := World.ownsRow.frozenAt HB5.out (m * 9 + 7)
                      have i8 := World.ownsRow.frozenAt HB5.out (m * 9 + 8)
                      have gl5 : g < w5.heap.size := by omega
                      have b0 := F.keepC h5 zr d0
                      have b1 := F.keepC h5 zr d1
                      have hk5 : Below w.heap.size w w5 := hkw.trans (h5.mono (by omega))
                      clear hb5 hba HPl c0 c1 c2 c3 c4 c5 c6 c7 c8 HB HA HW d0 d1 hkw h5
                      go_wp2_with fail
                      go_roundw
                      case rel =>
                        have KA : ∀ (W : World) b o u, W3.heap.size ≤ b → W.ownsRow CA 43 9 (.slice aa na.length acap) na.length (ntL na) → (W.setCell ⟨b, o, none⟩ u).ownsRow CA 43 9 (.slice aa na.length acap) na.length (ntL na) := fun W b o u hb h => own_keep h (fun c hc => heap_setCell_other _ _ _ _ (by show c ≠ b; have := hlt3 c hc; omega))
                        have KW : ∀ (W : World) b o u, W3.heap.size ≤ b → W.ownsRow (w1.heap.size + 1) 43 9 (.slice va nw.length vcap) nw.length (ntL nw) → (W.setCell ⟨b, o, none⟩ u).ownsRow (w1.heap.size + 1) 43 9 (.slice va nw.length vcap) nw.length (ntL nw) := fun W b o u hb h => own_keep h (fun c hc => heap_setCell_other _ _ _ _ (by show c ≠ b; have := hlt2 c hc; omega))
                        have KB : ∀ (W : World) o u, W.ownsRow CB 43 9 (.slice (some ⟨g, 0, none⟩) nb.length bcap) nb.length (ntL (sfL (q1, q2) nb m)) → (W.setCell ⟨wr.heap.size, o, none⟩ u).ownsRow CB 43 9 (.slice (some ⟨g, 0, none⟩) nb.length bcap) nb.length (ntL (sfL (q1, q2) nb m)) := fun W o u h => own_keep h (fun c hc => heap_setCell_other _ _ _ _ (by show c ≠ wr.heap.size; have : g = c := (by simpa [Value.ownBlock] using hc); omega))
                        have KC : ∀ (W : World) b o u i z, ¬ b = W4.heap.size → W.cell? ⟨W4.heap.size, i, none⟩ = some z → (W.setCell ⟨b, o, none⟩ u).cell? ⟨W4.heap.size, i, none⟩ = some z := fun W b o u i z hb h => (World.cell?_setCell_other _ _ _ _ (by intro e; injection e with e1 e2; omega)).trans h
                        have g3 : W3.heap.size ≤ g := by omega
                        have g4 : W3.heap.size ≤ wr.heap.size := by omega
                        have ne5 : ¬ wr.heap.size = W4.heap.size := by omega
                        have hP := HPut.out _ (KB _ 2 (.int .i64 y2) (KB _ 1 (.int .i64 y1) HB5.out))
                        have hbV : ∀ (V : World) os, Below V.heap.size V (V.alloc os) := fun V os => by go_grown
                        refine ⟨m + 1, by omega, by go_num, F.own_step hP (hbV _ _), F.own_step ?_ (hbV _ _), F.own_step ?_ (hbV _ _), F.keepC (hbV _ _) (by simp; omega) ?_, F.keepC (hbV _ _) (by simp; omega) ?_, ?_, by simp; omega⟩
                        · exact KA _ _ _ _ g3 (KA _ _ _ _ g3 (KA _ _ _ _ g3 (KA _ _ _ _ g3 (KA _ _ _ _ g3 (KA _ _ _ _ g3 (KA _ _ _ _ g3 (KA _ _ _ _ g3 (KA _ _ _ _ g3 (KA _ _ _ _ g4 (KA _ _ _ _ g4 HA5.out))))))))))
                        · exact KW _ _ _ _ g3 (KW _ _ _ _ g3 (KW _ _ _ _ g3 (KW _ _ _ _ g3 (KW _ _ _ _ g3 (KW _ _ _ _ g3 (KW _ _ _ _ g3 (KW _ _ _ _ g3 (KW _ _ _ _ g3 (KW _ _ _ _ g4 (KW _ _ _ _ g4 HW5.out))))))))))
                        · exact KC _ _ _ _ _ _ ne3 (KC _ _ _ _ _ _ ne3 (KC _ _ _ _ _ _ ne3 (KC _ _ _ _ _ _ ne3 (KC _ _ _ _ _ _ ne3 (KC _ _ _ _ _ _ ne3 (KC _ _ _ _ _ _ ne3 (KC _ _ _ _ _ _ ne3 (KC _ _ _ _ _ _ ne3 (KC _ _ _ _ _ _ ne5 (KC _ _ _ _ _ _ ne5 b0))))))))))
                        · exact KC _ _ _ _ _ _ ne3 (KC _ _ _ _ _ _ ne3 (KC _ _ _ _ _ _ ne3 (KC _ _ _ _ _ _ ne3 (KC _ _ _ _ _ _ ne3 (KC _ _ _ _ _ _ ne3 (KC _ _ _ _ _ _ ne3 (KC _ _ _ _ _ _ ne3 (KC _ _ _ _ _ _ ne3 (KC _ _ _ _ _ _ ne5 (KC _ _ _ _ _ _ ne5 b1))))))))))
                        · have q3 : w.heap.size ≤ g := by omega
                          have q4 : w.heap.size ≤ wr.heap.size := by omega
                          have hb11 := ((((((((((hk5.setCell (p := ⟨wr.heap.size, 1, none⟩) q4 (.int .i64 y1)).setCell (p := ⟨wr.heap.size, 2, none⟩) q4 (.int .i64 y2)).setCell (p := ⟨g, m * 9, none⟩) q3 (.int .i64 vo)).setCell (p := ⟨g, m * 9 + 1, none⟩) q3 (.int .i64 y1)).setCell (p := ⟨g, m * 9 + 2, none⟩) q3 (.int .i64 y2)).setCell (p := ⟨g, m * 9 + 3, none⟩) q3 (.int .i64 lg1)).setCell (p := ⟨g, m * 9 + 4, none⟩) q3 (.int .i64 lg2)).setCell (p := ⟨g, m * 9 + 5, none⟩) q3 (.int .i64 pl)).setCell (p := ⟨g, m * 9 + 6, none⟩) q3 (.int .i64 pa)).setCell (p := ⟨g, m * 9 + 7, none⟩) q3 (.int .i64 po)).setCell (p := ⟨g, m * 9 + 8, none⟩) q3 (.string ly)
                          exact hb11.alloc hb11.size _
                      case measure => simp [intOf]; omega
                    ·
                      obtain rfl : m = nb.length := by omega
                      have hlm' : ¬ ((nb.length : Nat) : Int) < (nb.length : Int) := by omega
                      have hBe : wr.ownsRow CB 43 9 (.slice bb nb.length bcap) (nb.map (M.sft (q1, q2))).length (ntL (nb.map (M.sft (q1, q2)))) := by
                        have := HB.out
                        rw [sfL_end] at this
                        rw [List.length_map]; exact this
                      have HWe : wr.ownsRow (w1.heap.size + 1) 43 9 (.slice va (na.length + nb.length) vcap) (na ++ nb.map (M.sft (q1, q2))).length (ntL (na ++ nb.map (M.sft (q1, q2)))) := by
                        rw [← HNw.out, ← hlenN]; exact HW.out
                      have HBe : Hid _ := hBe
                      have HWf : Hid _ := HWe
                      clear hBe HWe vg HB HTo HSt HBo d0 d1
                      go_wp2_with (at_builtin; refine wpList_append_notes rfl (.tmp 149) (.tmp 150) rfl CA CB na (nb.map (M.sft (q1, q2))) _ _ rfl HA.out rfl HBe.out ?c1 ?c2 ?_)
                      case c1 => first | omega | (rw [List.length_map]; omega)
                      case c2 => omega
                      intro v2 w7 ho7 hg7
                      have hWk : w7.ownsRow (w1.heap.size + 1) 43 9 (.slice va (na.length + nb.length) vcap) (na ++ nb.map (M.sft (q1, q2))).length (ntL (na ++ nb.map (M.sft (q1, q2)))) := own_keep HWf.out (fun b hb => hg7.block b (by have := hlt2 b (by rw [hlenN]; exact hb); omega) (fun q => by have h1 := F.own_block HA.out _ q.symm; have h2 := hlt2 b (by rw [hlenN]; exact hb); omega))
                      have ho8 : w7.ownsRow CA 43 9 v2 (na ++ nb.map (M.sft (q1, q2))).length (ntL (na ++ nb.map (M.sft (q1, q2)))) := by rw [List.length_append, List.length_map]; exact ho7
                      have HSm := SameNotes_own _ v2 _ CA _ w7 ho8 hWk
                      have k7 : Below w.heap.size w w7 := hkw.trans ⟨hg7.os, hg7.tape, hg7.output, hg7.size, fun b hb => hg7.block b (by have := hkw.size; omega) (fun q => by have := F.own_block HA.out _ q.symm; omega)⟩
                      clear hWk ho7 ho8 hg7 HWf HBe HA HW hkw
                      go_wp2_with fail
                      refine HSm.mono ?_
                      rintro e w9 ⟨rfl, hb9⟩
                      go_wp2_with fail
                      go_ret
                      exact ⟨rfl, k7.trans (hb9.mono k7.size)⟩
  · have her' : (ew != 0) = true := by simp [hew]
    clear HC HF HL HS HNA HNB hew
    obtain ⟨va, vcap, rfl, _, _⟩ := own_form hown2
    go_wp2_with fail
    go_ret
    exact ⟨rfl, k2⟩
end Go.Proofs.YtaohahahhjkcdaeGreatDoor.G

/- The law ScoreBars at every voice and every place; a voice among a law's arguments. -/
namespace Go.Proofs.YtaohahahhjkcdaeGreatDoor.G
open Go.RowKit Go.Maps
set_option linter.unusedVariables false

theorem bars_walk (s : ByteArray) (ba : Option Addr) (n bc B : Nat) (up dn : Nat → Int) (t : Nat → M.It) (k : Int) (w : World) (hBL : BL w B ba n up dn t) (hg : GT w B) (hBs : B ≤ w.heap.size) (hn : n ≤ bc) (hbc : bc ≤ 9223372036854775807) :
    Calls Tryz.prog 3 #[.agg #[.string s, .slice ba n bc], .int .i64 k] w fun e w' => e = .returned (.bool true) ∧ Below w.heap.size w w' := by
  by_cases h : k < 0 ∨ (n : Int) < k
  · exact bars_out s ba n bc k w h
  · obtain ⟨m, rfl⟩ : ∃ m : Nat, k = m := ⟨k.toNat, by omega⟩
    exact bars_in s ba n bc B m up dn t w hBL hg hBs hn hbc (by omega)
end Go.Proofs.YtaohahahhjkcdaeGreatDoor.G
