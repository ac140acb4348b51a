/- What the document's Leaves comes to, at every beat that has nothing wrong. -/
import Derived.Test.YtgcnmmjgdpdmbacB12
namespace Go.Proofs.Ytgcnmmjgdpdmbac.F
open Go.RowKit
set_option linter.unusedVariables false
set_option linter.unusedSimpArgs false

theorem infoLv : (Try.prog.info? 69).map (fun i => (i.zero, i.size, i.bytes)) = some (some (.agg #[.int .i64 0, .int .i64 0, .int .i64 0]), 3, 24) := by kernel_rfl
def lvCl (x : Int × M.Fr) : List Value := [.int .i64 x.1, .int .i64 x.2.1, .int .i64 x.2.2]
def lvL : List (Int × M.Fr) → List Value
  | [] => []
  | x :: r => lvCl x ++ lvL r
theorem lvL_app (l r : List (Int × M.Fr)) : lvL (l ++ r) = lvL l ++ lvL r := by
  induction l with
  | nil => rfl
  | cons x l ih => simp [lvL, ih]
theorem lvL_len (l : List (Int × M.Fr)) : (lvL l).length = l.length * 3 := by
  induction l with
  | nil => rfl
  | cons x l ih => simp [lvL, ih, lvCl, Nat.succ_mul]
theorem lvL_one (l : List (Int × M.Fr)) : ∀ u ∈ lvL l, u.oneCell' = true := by
  induction l with
  | nil => intro u hu; simp [lvL] at hu
  | cons x l ih =>
    intro u hu
    rcases List.mem_append.1 hu with h | h
    · simp [lvCl] at h; rcases h with rfl | rfl | rfl <;> rfl
    · exact ih u h
theorem lvL_get (l : List (Int × M.Fr)) (i j : Nat) (x : Int × M.Fr) (h : l[i]? = some x) (hj : j < 3) : (lvL l)[i * 3 + j]? = (lvCl x)[j]? := by
  induction l generalizing i with
  | nil => simp at h
  | cons y l ih =>
    show (lvCl y ++ lvL l)[i * 3 + j]? = _
    cases i with
    | zero =>
      simp at h; subst h
      rw [List.getElem?_append_left (by simp [lvCl]; omega)]
      simp
    | succ i =>
      simp at h
      rw [List.getElem?_append_right (by simp [lvCl]; omega), show (i + 1) * 3 + j - (lvCl y).length = i * 3 + j by simp [lvCl]; omega]
      exact ih i h

def LvQ (R : Option (List (Int × M.Fr))) (w : World) (e : Ending) (w' : World) : Prop := (R = none → e = .returned (.tuple #[.slice none 0 0, .bool false])) ∧ (∀ l, R = some l → ∃ v, e = .returned (.tuple #[v, .bool true]) ∧ w'.ownsRow w.heap.size 69 3 v l.length (lvL l)) ∧ Below w.heap.size w w'
theorem LvQ.none {w w' : World} {R : Option (List (Int × M.Fr))} (hR : R = none) (hb : Below w.heap.size w w') : LvQ R w (.returned (.tuple #[.slice none 0 0, .bool false])) w' := by
  subst hR; exact ⟨fun _ => rfl, fun l h => by simp at h, hb⟩
theorem LvQ.some {w w' : World} {R : Option (List (Int × M.Fr))} {l : List (Int × M.Fr)} {v : Value} (hR : R = some l) (hO : w'.ownsRow w.heap.size 69 3 v l.length (lvL l)) (hb : Below w.heap.size w w') : LvQ R w (.returned (.tuple #[v, .bool true])) w' := by
  subst hR; exact ⟨fun h => by simp at h, fun l' h => by simp at h; subst h; exact ⟨v, rfl, hO⟩, hb⟩
def LvC (b : M.Bt) : Prop := M.Fine b → ∀ (L : M.Fr) (w : World) (B : Nat) (v : Value), Lies w B b v → B ≤ w.heap.size → M.cnt b ≤ 4096 → M.Ok L →
  Calls Try.prog 33 #[v, .agg #[.int .i64 L.1, .int .i64 L.2]] w fun e w' => LvQ (M.lvs b L) w e w'

/-- A slice that is made of its elements is a row of one's own. -/
theorem own_new (w : World) (cs : Array Value) (e : TypeId) (n size base : Nat) (hsz : cs.size = n * size) (hm : n ≤ maxLen) (hb : base ≤ w.heap.size) : (w.alloc (Obj.cells cs e)).ownsRow base e size (.slice (some ⟨w.heap.size, 0, none⟩) n n) n cs.toList := by
  refine ⟨by simpa using hsz, .inr ⟨w.heap.size, n, cs, rfl, hb, ?_, Nat.le_refl _, hm, hsz, ?_⟩⟩
  · show (w.heap.push _)[w.heap.size]? = _
    simp
  · rw [← hsz]; exact List.take_of_length_le (by simp)
theorem leaves_leaf (k s : Int) (ao : Option Addr) (n cap : Nat) (L : M.Fr) (w : World) (hk : k ≠ 4) :
    Calls Try.prog 33 #[.agg #[.int .i64 k, .int .i64 s, .slice ao n cap], .agg #[.int .i64 L.1, .int .i64 L.2]] w fun e w' => LvQ (some [(k, L)]) w e w' := by
  have hkb : (k == 4) = false := by simpa using hk
  go_enter Try.func33, Try.ntmps33
  go_wp2_with fail
  go_returns
  have ho : (((w.alloc (Obj.cells #[.int .i64 k, .int .i64 s, .slice ao n cap] 36)).alloc (Obj.cells #[.int .i64 L.1, .int .i64 L.2] 26)).alloc (Obj.cells #[.int .i64 k, .int .i64 L.1, .int .i64 L.2] 69)).ownsRow w.heap.size 69 3 (.slice (some ⟨w.heap.size + 1 + 1, 0, none⟩) 1 1) 1 [.int .i64 k, .int .i64 L.1, .int .i64 L.2] := by
    have h := own_new ((w.alloc (Obj.cells #[.int .i64 k, .int .i64 s, .slice ao n cap] 36)).alloc (Obj.cells #[.int .i64 L.1, .int .i64 L.2] 26)) #[.int .i64 k, .int .i64 L.1, .int .i64 L.2] 69 1 3 w.heap.size rfl (by decide) (by simp; omega)
    rw [show ((w.alloc (Obj.cells #[.int .i64 k, .int .i64 s, .slice ao n cap] 36)).alloc (Obj.cells #[.int .i64 L.1, .int .i64 L.2] 26)).heap.size = w.heap.size + 1 + 1 by simp] at h
    exact h
  exact LvQ.some rfl ho (by go_grown)

/-- Leaves' own variables while it goes through the kids. -/
structure LvJ (w : World) (L : M.Fr) (sl : Value) (wr : World) : Prop where
  b : Below w.heap.size w wr
  c2 : wr.cell? ⟨w.heap.size, 2, none⟩ = some sl
  t0 : wr.cell? ⟨w.heap.size + 1, 0, none⟩ = some (.int .i64 L.1)
  t1 : wr.cell? ⟨w.heap.size + 1, 1, none⟩ = some (.int .i64 L.2)
  lz : w.heap.size + 1 < wr.heap.size
theorem LvJ.below {w wr W : World} {L : M.Fr} {sl : Value} (h : LvJ w L sl wr) (hb : Below (w.heap.size + 2) wr W) : LvJ w L sl W := by
  have l1 := h.lz; have l2 := hb.size
  exact ⟨h.b.trans (hb.mono (by omega)), keepC hb (by omega) h.c2, keepC hb (by omega) h.t0, keepC hb (by omega) h.t1, by omega⟩

theorem refpart (L : M.Fr) (s all : Int) (hL : M.Ok L) (h1 : 1 ≤ s) (h2 : s ≤ all) (h3 : all ≤ 268435456) : ∃ x y : Int, (∀ w, Calls Try.prog 43 #[.int .i64 s, .int .i64 all] w fun e w' => e = .returned (.tuple #[.agg #[.int .i64 x, .int .i64 y], .int .i64 0]) ∧ Below w.heap.size w w') ∧
    (∀ w, Calls Try.prog 44 #[.agg #[.int .i64 x, .int .i64 y], .agg #[.int .i64 L.1, .int .i64 L.2]] w fun e w' => e = .returned (.tuple #[.agg #[.int .i64 (M.tU (M.pr L s all)), .int .i64 (M.tD (M.pr L s all))], .int .i64 (M.tE (M.pr L s all))]) ∧ Below w.heap.size w w') := by
  obtain ⟨r1, r2, r3, r4, r5⟩ := M.ratio s all h1 h2 h3
  obtain ⟨k1, k2, k3, k4, _⟩ := M.ok_yes _ _ hL
  obtain ⟨g1, g2, g3, g4, _⟩ := M.ok_yes _ _ r4
  have hM := fun w => refMake_any s all w (by omega) (by omega) (by omega)
  rw [r1, r2, r3] at hM
  have hT := fun w => Times_refyes (M.lu s all) (M.ld s all) L.1 L.2 w (by simp only at g1; omega) (by simp only at g2; omega) (by simp only at g3; omega) (by simp only at g4; omega) (by omega) (by omega) (by omega) (by omega) r4 hL
  obtain ⟨e1, e2, e3⟩ := M.tell_o (M.lu s all * L.1) (M.ld s all * L.2)
  rw [e1, e2, e3, Int.mul_comm (M.lu s all) L.1, Int.mul_comm (M.ld s all) L.2, r5 L k3] at hT
  exact ⟨_, _, hM, hT⟩

set_option maxRecDepth 20000 in
set_option maxHeartbeats 4000000 in
theorem leaves_group (s : Int) (n : Nat) (kid : Nat → M.Bt) (ih : ∀ j, LvC (kid j)) (hF : ∀ j, j < n → M.Fine (kid j)) (hn : 0 < n) (hn2 : n ≤ 4096) (L : M.Fr) (w : World) (B b off cap : Nat) (hbB : b < B) (hBw : B ≤ w.heap.size)
    (hk : ∀ j, j < n → ∃ ao' cap', w.cell? ⟨b, off + j * 3, none⟩ = some (.int .i64 (kid j).k) ∧ w.cell? ⟨b, off + j * 3 + 1, none⟩ = some (.int .i64 (kid j).s) ∧ w.cell? ⟨b, off + j * 3 + 2, none⟩ = some (.slice ao' (kid j).n cap') ∧ Lies w B (kid j) (.agg #[.int .i64 (kid j).k, .int .i64 (kid j).s, .slice ao' (kid j).n cap']))
    (hlen : M.ckids (fun j => M.cnt (kid j)) n ≤ 4096) (hL : M.Ok L) :
    Calls Try.prog 33 #[.agg #[.int .i64 4, .int .i64 s, .slice (some ⟨b, off, none⟩) n cap], .agg #[.int .i64 L.1, .int .i64 L.2]] w fun e w' => LvQ (M.lkids (fun j l => M.lvs (kid j) l) (fun j => (kid j).s) (M.sums kid n) L n 0) w e w' := by
  have HS : Hid (M.LK kid (M.sums kid n) L n 0 (M.lkids (fun j l => M.lvs (kid j) l) (fun j => (kid j).s) (M.sums kid n) L n 0) []) := M.lk_start kid (M.sums kid n) L n
  generalize M.lkids (fun j l => M.lvs (kid j) l) (fun j => (kid j).s) (M.sums kid n) L n 0 = R at *
  obtain ⟨i0, hi, hz0, hz1, hz2⟩ := info_parts infoLv
  have Hk : Hid (∀ j, j < n → ∃ ao' cap', w.cell? ⟨b, off + j * 3, none⟩ = some (.int .i64 (kid j).k) ∧ w.cell? ⟨b, off + j * 3 + 1, none⟩ = some (.int .i64 (kid j).s) ∧ w.cell? ⟨b, off + j * 3 + 2, none⟩ = some (.slice ao' (kid j).n cap') ∧ Lies w B (kid j) (.agg #[.int .i64 (kid j).k, .int .i64 (kid j).s, .slice ao' (kid j).n cap'])) := hk
  have HF : Hid (∀ j, j < n → M.Fine (kid j)) := hF
  have hall := M.sums_bd kid n hF
  have Hlen : Hid (∀ j, j ≤ n → M.ckids (fun j => M.cnt (kid j)) j ≤ 4096) := fun j hj => by
    have := M.ckids_mono (fun j => M.cnt (kid j)) j n hj; omega
  have hbw : b < w.heap.size := by omega
  clear hk hF hlen
  have J0 : ∀ v0 v1 : Value, LvJ w L (.slice (some ⟨b, off, none⟩) n cap) ((w.alloc (Obj.cells #[v0, v1, .slice (some ⟨b, off, none⟩) n cap] 36)).alloc (Obj.cells #[.int .i64 L.1, .int .i64 L.2] 26)) := fun v0 v1 =>
    ⟨by go_grown, by simp [go_sem], by simp [go_sem], by simp [go_sem], by simp⟩
  have e4 : ((4 : Int) != 4) = false := rfl
  go_enter Try.func33, Try.ntmps33
  go_wp2_with fail
  go_loopw [6, 28] (fun x i wr => ∃ j : Nat, x = .int .i64 (M.sums kid j) ∧ i = .int .i64 j ∧ j ≤ n ∧ LvJ w L (.slice (some ⟨b, off, none⟩) n cap) wr) (fun _ i _ => n - (intOf i).toNat)
  case atStart => exact ⟨0, rfl, rfl, by omega, J0 _ _⟩
  case round =>
    obtain ⟨j, rfl, rfl, hj, hJ⟩ := hrel
    have lz := hJ.lz
    have bz : b < wr.heap.size := by omega
    have lz0 : w.heap.size < wr.heap.size := by omega
    by_cases hlt : j < n
    · obtain ⟨ao', cap', q0, q1, q2, hLj⟩ := Hk.out j hlt
      replace q0 := keepC hJ.b hbw q0
      replace q1 := keepC hJ.b hbw q1
      replace q2 := keepC hJ.b hbw q2
      have sj := M.sums_bd kid j (fun i hi => HF.out i (by omega))
      have ks := (HF.out j hlt).share
      have hE : Hid (M.sums kid (j + 1) = M.sums kid j + (kid j).s) := rfl
      clear hLj
      generalize M.sums kid j = S at *
      generalize (kid j).k = kk at *
      generalize (kid j).s = ss at *
      generalize (kid j).n = nn at *
      go_wp2_with fail
      go_roundw
      case rel => exact ⟨j + 1, by rw [hE.out], by go_num, by omega, hJ.below ((Below.refl _ _).alloc (by omega) _)⟩
      case measure => simp [intOf]; omega
    · obtain rfl : j = n := by omega
      obtain ⟨w1, hw1⟩ : ∃ x, x = wr := ⟨wr, rfl⟩
      subst hw1
      have c2 := hJ.c2
      generalize hALL : M.sums kid j = ALL at *
      go_wp2_with fail
      go_loopw [9, 40] (fun x i wr => ∃ (i' : Nat) (o : List (Int × M.Fr)) (xa : Option Addr) (xc : Nat), x = .slice xa o.length xc ∧ i = .int .i64 i' ∧ i' ≤ j ∧ LvJ w L (.slice (some ⟨b, off, none⟩) j cap) wr ∧ Hid (M.LK kid ALL L j i' R o) ∧ wr.ownsRow (w.heap.size + 2) 69 3 (.slice xa o.length xc) o.length (lvL o) ∧ Hid (o.length ≤ M.ckids (fun j => M.cnt (kid j)) i')) (fun _ i _ => j - (intOf i).toNat)
      case atStart => exact ⟨0, [], none, 0, rfl, rfl, by omega, hJ, HS, ⟨by simp [lvL], .inl ⟨rfl, rfl⟩⟩, by show _ ≤ _; simp⟩
      case round =>
        obtain ⟨i, o, xa, xc, rfl, rfl, hi', hI, hSK, hown, hln⟩ := hrel
        have lW := hI.lz
        have bzW : b < wr.heap.size := by omega
        have lW0 : w.heap.size < wr.heap.size := by omega
        by_cases hlt2 : i < j
        · obtain ⟨ao', cap', q0, q1, q2, hLj⟩ := Hk.out i hlt2
          replace q0 := keepC hI.b hbw q0
          replace q1 := keepC hI.b hbw q1
          replace q2 := keepC hI.b hbw q2
          have hFi := HF.out i hlt2
          have ks := hFi.share
          have ksA : (kid i).s ≤ ALL := by
            rw [← hALL]; exact M.sums_le kid j HF.out i hlt2
          obtain ⟨px, py, hM, hT⟩ := refpart L (kid i).s ALL hL ks.1 ksA (by omega)
          have t0 := hI.t0
          have t1 := hI.t1
          obtain ⟨st1, st2⟩ := M.lk_step kid ALL L j i R o hSK.out hlt2
          cases hp : M.pr L (kid i).s ALL with
          | none =>
            have hR : Hid (R = none) := st1 hp
            rw [hp] at hT
            replace hT : ∀ w, Calls Try.prog 44 #[.agg #[.int .i64 px, .int .i64 py], .agg #[.int .i64 L.1, .int .i64 L.2]] w fun e w' => e = .returned (.tuple #[.agg #[.int .i64 0, .int .i64 0], .int .i64 4]) ∧ Below w.heap.size w w' := hT
            clear st1 st2 hp hLj hSK HS
            generalize (kid i).k = kk at *
            generalize (kid i).s = ss at *
            generalize (kid i).n = nn at *
            go_wp2_with fail
            refine (hM _).mono ?_
            rintro e w4 ⟨rfl, hb4⟩
            have h04 : Below wr.heap.size wr w4 := Below.trans (by go_grown) (hb4.mono (by simp))
            have z4 := hb4.size
            simp at z4
            replace t0 := keepC h04 lW t0
            replace t1 := keepC h04 lW t1
            have l4 : w.heap.size + 1 < w4.heap.size := by omega
            clear hb4
            go_wp2_with fail
            refine (hT _).mono ?_
            rintro e w5 ⟨rfl, hb5⟩
            have h05 : Below wr.heap.size wr w5 := (h04.alloc (by omega) _).trans (hb5.mono (by simp; omega))
            have z5 := h05.size
            clear hb5
            go_wp2_with fail
            go_returns
            exact LvQ.none hR.out ((hI.b.trans (h05.mono (by omega))).alloc (by omega) _)
          | some lg =>
            have hlg : M.Ok lg := M.tell_ok hp (M.mul_pos' _ _ hL.low.1.1 (by omega))
            obtain ⟨st3, st4⟩ := st2 lg hp
            rw [hp] at hT
            replace hT : ∀ w, Calls Try.prog 44 #[.agg #[.int .i64 px, .int .i64 py], .agg #[.int .i64 L.1, .int .i64 L.2]] w fun e w' => e = .returned (.tuple #[.agg #[.int .i64 lg.1, .int .i64 lg.2], .int .i64 0]) ∧ Below w.heap.size w w' := hT
            have hcn : M.cnt (kid i) ≤ 4096 := by
              have x1 := Hlen.out (i + 1) (by omega)
              have x2 : M.ckids (fun j => M.cnt (kid j)) (i + 1) = M.ckids (fun j => M.cnt (kid j)) i + M.cnt (kid i) := rfl
              omega
            have hLw := Lies.step (kid i) _ hLj (hI.b.mono hBw)
            have hC := fun (X : World) (hb : Below wr.heap.size wr X) => ih i hFi lg X B _ (Lies.step (kid i) _ hLw (hb.mono (by omega))) (by have := hb.size; omega) hcn hlg
            have Hlv : Hid (∀ l, M.lvs (kid i) lg = some l → 1 ≤ l.length ∧ (o ++ l).length ≤ M.ckids (fun j => M.cnt (kid j)) (i + 1) ∧ (o ++ l).length ≤ 4096) := fun l h => by
              have x0 := M.lvs_ok (kid i) hFi lg l hlg h
              have x1 := Hlen.out (i + 1) (by omega)
              have x2 : M.ckids (fun j => M.cnt (kid j)) (i + 1) = M.ckids (fun j => M.cnt (kid j)) i + M.cnt (kid i) := rfl
              have x3 := hln.out
              simp only [List.length_append]
              omega
            clear st1 st2 hp hLj hSK HS hLw
            generalize hsv : M.lvs (kid i) lg = SV at *
            generalize (kid i).k = kk at *
            generalize (kid i).s = ss at *
            generalize (kid i).n = nn at *
            go_wp2_with fail
            refine (hM _).mono ?_
            rintro e w4 ⟨rfl, hb4⟩
            have h04 : Below wr.heap.size wr w4 := Below.trans (by go_grown) (hb4.mono (by simp))
            have K0 : w4.cell? ⟨wr.heap.size, 0, none⟩ = some (.int .i64 kk) := keepC hb4 (by simp) (by simp [go_sem])
            have K1 : w4.cell? ⟨wr.heap.size, 1, none⟩ = some (.int .i64 ss) := keepC hb4 (by simp) (by simp [go_sem])
            have K2 : w4.cell? ⟨wr.heap.size, 2, none⟩ = some (.slice ao' nn cap') := keepC hb4 (by simp) (by simp [go_sem])
            have z4 := hb4.size
            simp at z4
            replace t0 := keepC h04 lW t0
            replace t1 := keepC h04 lW t1
            have l4 : w.heap.size + 1 < w4.heap.size := by omega
            have l4' : wr.heap.size < w4.heap.size := by omega
            clear hb4
            go_wp2_with fail
            refine (hT _).mono ?_
            rintro e w5 ⟨rfl, hb5⟩
            have h05 : Below wr.heap.size wr w5 := (h04.alloc (by omega) _).trans (hb5.mono (by simp; omega))
            have h45 : Below w4.heap.size w4 w5 := Below.trans (by go_grown) (hb5.mono (by simp))
            replace K0 := keepC h45 l4' K0
            replace K1 := keepC h45 l4' K1
            replace K2 := keepC h45 l4' K2
            have z5 := h45.size
            have l5 : wr.heap.size < w5.heap.size := by omega
            have h06 : Below wr.heap.size wr (w5.alloc (Obj.cells #[.int .i64 lg.1, .int .i64 lg.2] 26)) := h05.alloc (by omega) _
            clear hb5 h45
            go_wp2_with fail
            refine (hC _ h06).mono ?_
            rintro e w6 ⟨g1, g2, g3⟩
            have h07 : Below wr.heap.size wr w6 := h06.trans (g3.mono h06.size)
            cases SV with
            | none =>
              have hR : Hid (R = none) := st3 rfl
              obtain rfl := g1 rfl
              clear st3 st4 Hlv g1 g2 hC
              go_wp2_with fail
              go_returns
              exact LvQ.none hR.out (hI.b.trans (h07.mono (by omega)))
            | some l =>
              obtain ⟨v, rfl, hownl⟩ := g2 l rfl
              obtain ⟨y0, y1, y2⟩ := Hlv.out l rfl
              obtain ⟨gl, cl, rfl, d1, d2, d3, d4⟩ := own_cells hownl (by omega)
              have hS2 : Hid (M.LK kid ALL L j (i + 1) R (o ++ l)) := st4 l rfl
              have hown6 := own_step hown h07
              have HL1 : Hid (lvL o ++ lvL l = lvL (o ++ l)) := (lvL_app o l).symm
              have HL2 : Hid ((o ++ l).length = o.length + l.length) := by show _ = _; simp
              have z6 := h07.size
              rw [List.length_append] at y2
              have y1' : Hid ((o ++ l).length ≤ M.ckids (fun j => M.cnt (kid j)) (i + 1)) := y1
              clear st3 st4 Hlv g1 g2 hC hown y1
              go_wp2_with (at_builtin; refine wpList_append_keep _ rfl (.tmp 69) (.tmp 70) 65 rfl (w.heap.size + 2) 69 i0 (.agg #[.int .i64 0, .int .i64 0, .int .i64 0]) 3 24 Try.underlying65 hi hz0 hz1 hz2 rfl (by decide) _ o.length (lvL o) rfl hown6 ⟨gl, 0, none⟩ l.length cl (lvL l) rfl (lvL_len l) ?c1 (lvL_one l) ?c3 ?c4 ?c5 ?c6 ?_)
              case c1 =>
                intro i u hi
                have hlt : i < l.length * 3 := by
                  have := (List.getElem?_eq_some_iff.1 hi).1
                  rw [lvL_len] at this; exact this
                have e1 : (⟨gl, 0, none⟩ : Addr).add i = ⟨gl, i, none⟩ := by
                  unfold Addr.add; by_cases hj0 : i = 0 <;> simp [hj0]
                rw [e1, d4 i hlt, hi]
              case c3 => unfold maxLen; omega
              case c4 => omega
              case c5 => omega
              case c6 => omega
              intro v' w7 hown' hgrow hkp
              rw [HL1.out, ← HL2.out] at hown'
              obtain ⟨a2, c2', rfl⟩ := own_form hown'
              have hb7 : Below (w.heap.size + 2) wr w7 := (h07.mono (by omega)).grown hgrow (by omega) (own_block hown6)
              clear hgrow hkp hown6
              go_wp2_with fail
              go_roundw
              case rel => exact ⟨i + 1, o ++ l, a2, c2', rfl, by go_num, by omega, hI.below hb7, hS2, hown', y1'⟩
              case measure => simp [intOf]; omega
        · obtain rfl : i = j := by omega
          have hz := M.lk_end kid ALL L i R o hSK.out
          have Hz : Hid (R = some o) := hz
          clear hz hSK
          go_wp2_with fail
          go_returns
          exact LvQ.some Hz.out (own_base hown (by omega)) hI.b

theorem leaves_any (b : M.Bt) : LvC b := by
  induction b using M.Bt.ind with
  | nil => intro h; exact False.elim h
  | mk k s n kid ih =>
    intro hF L w B v hL hB hlen hl
    obtain ⟨ao, cap, rfl, hn, hk⟩ := hL
    obtain ⟨f1, f2, f3, f4, f5, f6, f7, f8⟩ := hF
    have hc : M.cnt (.mk k s n kid) = 1 + M.ckids (fun j => M.cnt (kid j)) n := rfl
    by_cases k4 : k = 4
    · subst k4
      have hn0 := f4 rfl
      obtain ⟨b, off, rfl, hbB, hk⟩ := hk hn0
      rw [M.lvs, if_pos rfl]
      exact leaves_group s n kid ih f8 hn0 f3 L w B b off cap hbB hB hk (by omega) hl
    · rw [M.lvs, if_neg k4]
      exact leaves_leaf k s ao n cap L w k4
end Go.Proofs.Ytgcnmmjgdpdmbac.F
