/- What the program's share comes to at a group, and so at every beat. -/
import Derived.Test.YtgcnmmjgdpdmbadB11
namespace Go.Proofs.Ytgcnmmjgdpdmbad.F
open Go.RowKit
set_option linter.unusedVariables false
set_option linter.unusedSimpArgs false

theorem own_lt {w : World} {base : Nat} {e : TypeId} {size : Nat} {v : Value} {n : Nat} {xs : List Value} (h : w.ownsRow base e size v n xs) : ∀ k, v.ownBlock = some k → k < w.heap.size := by
  intro k hk
  rcases h.2 with ⟨rfl, _⟩ | ⟨g, cap, cur, rfl, h1, h2, rest⟩
  · simp [Value.ownBlock] at hk
  · simp [Value.ownBlock] at hk; subst hk; exact (Array.getElem?_eq_some_iff.1 h2).1
theorem M.ckids_mono (f : Nat → Nat) (i n : Nat) (h : i ≤ n) : M.ckids f i ≤ M.ckids f n := by
  induction n with
  | zero => obtain rfl : i = 0 := by omega
            exact Nat.le_refl _
  | succ n ih =>
    by_cases e : i = n + 1
    · rw [e]; exact Nat.le_refl _
    · have := ih (by omega)
      show M.ckids f i ≤ M.ckids f n + f n
      omega

theorem M.sums_le (kid : Nat → M.Bt) (n : Nat) (h : ∀ j, j < n → M.Fine (kid j)) (i : Nat) (hi : i < n) : (kid i).s ≤ M.sums kid n := by
  induction n with
  | zero => omega
  | succ n ih =>
    have b1 := M.sums_bd kid n (fun j hj => h j (by omega))
    have s1 := (h n (by omega)).share
    show (kid i).s ≤ M.sums kid n + (kid n).s
    by_cases e : i = n
    · rw [e]; omega
    · have := ih (fun j hj => h j (by omega)) (by omega)
      omega

/-- Share's own variables while it adds up shares. -/
structure ShJ (w : World) (a L : M.Fr) (sl : Value) (wr : World) : Prop where
  b : Below w.heap.size w wr
  c2 : wr.cell? ⟨w.heap.size, 2, none⟩ = some sl
  t0 : wr.cell? ⟨w.heap.size + 1, 0, none⟩ = some (.int .i64 a.1)
  t1 : wr.cell? ⟨w.heap.size + 1, 1, none⟩ = some (.int .i64 a.2)
  t2 : wr.cell? ⟨w.heap.size + 1, 2, none⟩ = some (.int .i64 L.1)
  t3 : wr.cell? ⟨w.heap.size + 1, 3, none⟩ = some (.int .i64 L.2)
  lz : w.heap.size + 1 < wr.heap.size
theorem ShJ.below {w wr W : World} {a L : M.Fr} {sl : Value} (h : ShJ w a L sl wr) (hb : Below wr.heap.size wr W) : ShJ w a L sl W := by
  have l1 := h.lz; have l2 := hb.size
  exact ⟨h.b.trans (hb.mono (by omega)), keepC hb (by omega) h.c2, keepC hb l1 h.t0, keepC hb l1 h.t1, keepC hb l1 h.t2, keepC hb l1 h.t3, by omega⟩
theorem ShJ.start {w wr : World} {po B : Nat} {a L : M.Fr} {sl : Value} {out : List M.Sp} (h : ShJ w a L sl wr) (hO : OutAt w po out) (hB : B ≤ po) : ShI w po B wr.heap.size a L out (wr.alloc (Obj.cells #[.int .i64 a.1, .int .i64 a.2] 26)) := by
  have l1 := h.lz; have l3 := hO.lt
  have hb : Below w.heap.size w (wr.alloc (Obj.cells #[.int .i64 a.1, .int .i64 a.2] 26)) := h.b.alloc (by omega) _
  have hb' : Below wr.heap.size wr (wr.alloc (Obj.cells #[.int .i64 a.1, .int .i64 a.2] 26)) := (Below.refl _ _).alloc (Nat.le_refl _) _
  obtain ⟨v, hv, hown⟩ := hO.v
  refine ⟨hb.mono (by omega), hO.step hb, Keeps.below hb l3, keepC hb' l1 h.t2, keepC hb' l1 h.t3, by simp [go_sem], by simp [go_sem], by simp [go_sem], by simp [go_sem], by simp, l1, l3, hB, fun v' k hc hk => .inl ?_⟩
  have := keepC hb l3 hv
  rw [this] at hc; simp only [Option.some.injEq] at hc; subst hc
  exact own_lt hown k hk

/-- What share answers at a group, by what its loop comes to. -/
def ShQ (R : Option (M.Fr × List M.Sp)) (w : World) (po B : Nat) (e : Ending) (w' : World) : Prop := e = .returned (.int .i64 (M.aE (R.map (·.2)))) ∧ (∀ o, R.map (·.2) = some o → OutAt w' po o ∧ Keeps w po w') ∧ Below B w w'
theorem ShQ.none {w w' : World} {po B : Nat} {R : Option (M.Fr × List M.Sp)} (hR : R = none) (hb : Below B w w') : ShQ R w po B (.returned (.int .i64 4)) w' := by
  subst hR; exact ⟨rfl, fun o h => by simp at h, hb⟩
theorem ShQ.some {w w' : World} {po B : Nat} {R : Option (M.Fr × List M.Sp)} {a : M.Fr} {o : List M.Sp} (hR : R = some (a, o)) (hO : OutAt w' po o) (hK : Keeps w po w') (hb : Below B w w') : ShQ R w po B (.returned (.int .i64 0)) w' := by
  subst hR; exact ⟨rfl, fun o' h => by simp at h; subst h; exact ⟨hO, hK⟩, hb⟩

set_option maxHeartbeats 4000000 in
theorem share_group (s : Int) (n : Nat) (kid : Nat → M.Bt) (ih : ∀ j, ShC (kid j)) (hF : ∀ j, j < n → M.Fine (kid j)) (hn : 0 < n) (hn2 : n ≤ 4096) (a L : M.Fr) (sb : Bool) (out : List M.Sp) (w : World) (po B b off cap : Nat) (hbB : b < B)
    (hk : ∀ j, j < n → ∃ ao' cap', w.cell? ⟨b, off + j * 3, none⟩ = some (.int .i64 (kid j).k) ∧ w.cell? ⟨b, off + j * 3 + 1, none⟩ = some (.int .i64 (kid j).s) ∧ w.cell? ⟨b, off + j * 3 + 2, none⟩ = some (.slice ao' (kid j).n cap') ∧ Lies w B (kid j) (.agg #[.int .i64 (kid j).k, .int .i64 (kid j).s, .slice ao' (kid j).n cap']))
    (hB : B ≤ po) (hO : OutAt w po out) (hlen : out.length + M.ckids (fun j => M.cnt (kid j)) n ≤ 4096) (ho : M.OutOk out) (ha : M.Ok a) (hL : M.Ok L) :
    Calls Try.prog 17 #[.agg #[.int .i64 4, .int .i64 s, .slice (some ⟨b, off, none⟩) n cap], .agg #[.int .i64 a.1, .int .i64 a.2, .int .i64 L.1, .int .i64 L.2, .bool sb], .func (.func 15) #[] #[.pointer (some ⟨po, 0, none⟩)]] w fun e w' => ShQ (M.skids (fun j a l o => M.sh (kid j) a l o) (fun j => (kid j).s) (M.sums kid n) L n 0 a out) w po B e w' := by
  have HS : Hid (M.SK kid (M.sums kid n) L n 0 (M.skids (fun j a l o => M.sh (kid j) a l o) (fun j => (kid j).s) (M.sums kid n) L n 0 a out) a out) := M.sk_start kid (M.sums kid n) L n a out
  generalize M.skids (fun j a l o => M.sh (kid j) a l o) (fun j => (kid j).s) (M.sums kid n) L n 0 a out = R at *
  have Hk : Hid (∀ j, j < n → ∃ ao' cap', w.cell? ⟨b, off + j * 3, none⟩ = some (.int .i64 (kid j).k) ∧ w.cell? ⟨b, off + j * 3 + 1, none⟩ = some (.int .i64 (kid j).s) ∧ w.cell? ⟨b, off + j * 3 + 2, none⟩ = some (.slice ao' (kid j).n cap') ∧ Lies w B (kid j) (.agg #[.int .i64 (kid j).k, .int .i64 (kid j).s, .slice ao' (kid j).n cap'])) := hk
  have HF : Hid (∀ j, j < n → M.Fine (kid j)) := hF
  have hall := M.sums_bd kid n hF
  have Hlen : Hid (∀ j, j ≤ n → M.ckids (fun j => M.cnt (kid j)) j ≤ 4096 - out.length ∧ out.length ≤ 4096) := fun j hj => by
    have := M.ckids_mono (fun j => M.cnt (kid j)) j n hj; omega
  have lpo := hO.lt
  have Hout : Hid (OutAt w po out) := hO
  have hbw : b < w.heap.size := by omega
  clear hk hF hO hlen
  have J0 : ∀ v0 v1 v2 : Value, ShJ w a L (.slice (some ⟨b, off, none⟩) n cap) ((w.alloc (Obj.cells #[v0, v1, .slice (some ⟨b, off, none⟩) n cap] 24)).alloc (Obj.cells #[.int .i64 a.1, .int .i64 a.2, .int .i64 L.1, .int .i64 L.2, v2] 33)) := fun v0 v1 v2 =>
    ⟨by go_grown, by simp [go_sem], by simp [go_sem], by simp [go_sem], by simp [go_sem], by simp [go_sem], by simp⟩
  have e4 : ((4 : Int) != 4) = false := rfl
  go_enter Try.func17, Try.ntmps17
  go_wp2_with fail
  go_loopw [7, 27] (fun x i wr => ∃ j : Nat, x = .int .i64 (M.sums kid j) ∧ i = .int .i64 j ∧ j ≤ n ∧ ShJ w a L (.slice (some ⟨b, off, none⟩) n cap) wr) (fun _ i _ => n - (intOf i).toNat)
  case atStart => exact ⟨0, rfl, rfl, by omega, J0 _ _ _⟩
  case round =>
    obtain ⟨j, rfl, rfl, hj, hJ⟩ := hrel
    have lz := hJ.lz
    have bz : b < wr.heap.size := by omega
    have lz0 : w.heap.size < wr.heap.size := by omega
    by_cases hlt : j < n
    · obtain ⟨ao', cap', q0, q1, q2, hLj⟩ := Hk.out j hlt
      replace q0 := keepC hJ.b hbw q0
      replace q1 := keepC hJ.b hbw q1
      replace q2 := keepC hJ.b hbw q2
      have sj := M.sums_bd kid j (fun i hi => HF.out i (by omega))
      have ks := (HF.out j hlt).share
      have hE : Hid (M.sums kid (j + 1) = M.sums kid j + (kid j).s) := rfl
      clear hLj
      generalize M.sums kid j = S at *
      generalize (kid j).k = kk at *
      generalize (kid j).s = ss at *
      generalize (kid j).n = nn at *
      go_wp2_with fail
      go_roundw
      case rel => exact ⟨j + 1, by rw [hE.out], by go_num, by omega, hJ.below (by go_grown)⟩
      case measure => simp [intOf]; omega
    · obtain rfl : j = n := by omega
      obtain ⟨w1, hw1⟩ : ∃ x, x = wr := ⟨wr, rfl⟩
      subst hw1
      have t0 := hJ.t0
      have t1 := hJ.t1
      have c2 := hJ.c2
      have I0 : ShI w po B w1.heap.size a L out (w1.alloc (Obj.cells #[.int .i64 a.1, .int .i64 a.2] 26)) := hJ.start Hout.out hB
      have hb0 : Below w1.heap.size w1 (w1.alloc (Obj.cells #[.int .i64 a.1, .int .i64 a.2] 26)) := (Below.refl _ _).alloc (Nat.le_refl _) _
      have e0 : M.ckids (fun j => M.cnt (kid j)) 0 = 0 := rfl
      generalize hALL : M.sums kid j = ALL at *
      go_wp2_with fail
      go_loopw [41] (fun i wr => ∃ (i' : Nat) (a' : M.Fr) (o : List M.Sp), i = .int .i64 i' ∧ i' ≤ j ∧ ShI w po B w1.heap.size a' L o wr ∧ Hid (M.SK kid ALL L j i' R a' o) ∧ M.Ok a' ∧ M.OutOk o ∧ Hid (o.length ≤ out.length + M.ckids (fun j => M.cnt (kid j)) i')) (fun i _ => j - (intOf i).toNat)
      case atStart => exact ⟨0, a, out, rfl, by omega, I0, HS, ha, ho, by show _ ≤ _; omega⟩
      case round =>
        obtain ⟨i, a', o, rfl, hi, hI, hSK, ha', ho', hln⟩ := hrel
        have lW := hI.lz
        have lpW := hI.o.lt
        have lsW : w.heap.size + 1 < wr.heap.size := by omega
        have bzW : b < wr.heap.size := by omega
        by_cases hlt2 : i < j
        · obtain ⟨ao', cap', q0, q1, q2, hLj⟩ := Hk.out i hlt2
          replace q0 := keepC hI.b hbB q0
          replace q1 := keepC hI.b hbB q1
          replace q2 := keepC hI.b hbB q2
          have hFi := HF.out i hlt2
          have ks := hFi.share
          have ksA : (kid i).s ≤ ALL := by
            rw [← hALL]; exact M.sums_le kid j HF.out i hlt2
          have hP := fun w => portion_o L (kid i).s ALL w hL ks.1 ksA (by omega)
          have s2 := hI.s2
          have s3 := hI.s3
          have a0 := hI.a0
          have a1 := hI.a1
          obtain ⟨st1, st2⟩ := M.sk_step kid ALL L j i R a' o hSK.out hlt2
          have iW : ShI w po B w1.heap.size a' L o wr := hI
          cases hp : M.pr L (kid i).s ALL with
          | none =>
            have hR : Hid (R = none) := st1 hp
            rw [hp] at hP
            replace hP : ∀ w, Calls Try.prog 26 #[.agg #[.int .i64 L.1, .int .i64 L.2], .int .i64 (kid i).s, .int .i64 ALL] w fun e w' => e = .returned (.tuple #[.agg #[.int .i64 0, .int .i64 0], .int .i64 4]) ∧ Below w.heap.size w w' := hP
            clear st1 st2 hp hLj hSK HS
            generalize (kid i).k = kk at *
            generalize (kid i).s = ss at *
            generalize (kid i).n = nn at *
            go_wp2_with fail
            refine (hP _).mono ?_
            rintro e w4 ⟨rfl, hb4⟩
            have h04 : Below wr.heap.size wr w4 := Below.trans (by go_grown) (hb4.mono (by simp))
            have z4 := h04.size
            clear hb4
            go_wp2_with fail
            go_ret
            exact ShQ.none hR.out ((hI.b.trans (h04.mono (by omega))).alloc (by omega) _)
          | some lg =>
            have hlg : M.Ok lg := M.tell_ok hp (M.mul_pos' _ _ hL.low.1.1 (by omega))
            obtain ⟨st3, st4⟩ := st2 lg hp
            rw [hp] at hP
            replace hP : ∀ w, Calls Try.prog 26 #[.agg #[.int .i64 L.1, .int .i64 L.2], .int .i64 (kid i).s, .int .i64 ALL] w fun e w' => e = .returned (.tuple #[.agg #[.int .i64 lg.1, .int .i64 lg.2], .int .i64 0]) ∧ Below w.heap.size w w' := hP
            have hlen2 : o.length + M.cnt (kid i) ≤ 4097 := by
              have x1 := Hlen.out (i + 1) (by omega)
              have x2 : M.ckids (fun j => M.cnt (kid j)) (i + 1) = M.ckids (fun j => M.cnt (kid j)) i + M.cnt (kid i) := rfl
              have x3 := hln.out
              omega
            have hLw := Lies.step (kid i) _ hLj hI.b
            have hC := fun (X : World) (hb : Below wr.heap.size wr X) => ih i hFi a' lg false o X po B _ (Lies.step (kid i) _ hLw (hb.mono (by omega))) hB (hI.below hb).o hlen2 ho' ha' hlg
            have hQ := fun X => Plus_o a' lg X ha' hlg
            have hsh := fun o2 (h : M.sh (kid i) a' lg o = some o2) => M.sh_ok (kid i) hFi a' lg o o2 ha' hlg ho' h
            have Hsh : Hid (∀ o2, M.sh (kid i) a' lg o = some o2 → M.OutOk o2 ∧ o2.length ≤ o.length + M.cnt (kid i)) := hsh
            clear st1 st2 hp hLj hSK HS hLw hsh
            generalize hcn : M.cnt (kid i) = CN at *
            generalize hsv : M.sh (kid i) a' lg o = SV at *
            generalize (kid i).k = kk at *
            generalize (kid i).s = ss at *
            generalize (kid i).n = nn at *
            go_wp2_with fail
            refine (hP _).mono ?_
            rintro e w4 ⟨rfl, hb4⟩
            have h04 : Below wr.heap.size wr w4 := Below.trans (by go_grown) (hb4.mono (by simp))
            have z4' := hb4.size
            simp at z4'
            have K0 : w4.cell? ⟨wr.heap.size, 0, none⟩ = some (.int .i64 kk) := keepC hb4 (by simp) (by simp [go_sem])
            have K1 : w4.cell? ⟨wr.heap.size, 1, none⟩ = some (.int .i64 ss) := keepC hb4 (by simp) (by simp [go_sem])
            have K2 : w4.cell? ⟨wr.heap.size, 2, none⟩ = some (.slice ao' nn cap') := keepC hb4 (by simp) (by simp [go_sem])
            replace a0 := keepC h04 lW a0
            replace a1 := keepC h04 lW a1
            have z4 : wr.heap.size < w4.heap.size := by omega
            have l4 : w1.heap.size < w4.heap.size := by omega
            have h05 : Below wr.heap.size wr (w4.alloc (Obj.cells #[.int .i64 lg.1, .int .i64 lg.2] 26)) := h04.alloc (by omega) _
            clear hb4
            go_wp2_with fail
            refine (hC _ h05).mono ?_
            rintro e w5 ⟨rfl, g1, g2⟩
            have hb5 : Below B w w5 := (hI.b.trans (h05.mono (by omega))).trans g2
            cases SV with
            | none =>
              have hR : Hid (R = none) := st3 rfl
              clear st3 st4 Hsh g1 hC
              rw [show M.aE none = 4 from rfl]
              go_wp2_with fail
              go_ret
              exact ShQ.none hR.out hb5
            | some o2 =>
              obtain ⟨g3, g4⟩ := g1 o2 rfl
              have hI5 := (hI.below h05).share g3 g4 g2
              obtain ⟨v, hv, hown⟩ := hI.o.v
              have z5 := g4.size
              simp at z5
              have bl : w5.heap[w4.heap.size]? = (w4.alloc (Obj.cells #[.int .i64 lg.1, .int .i64 lg.2] 26)).heap[w4.heap.size]? := g4.blk v _ (keepC h05 lpW hv) (by simp) (by omega) (fun e => by have := own_lt hown _ e; omega)
              have L0 : w5.cell? ⟨w4.heap.size, 0, none⟩ = some (.int .i64 lg.1) := (World.cell?_of_block (w := w4.alloc (Obj.cells #[.int .i64 lg.1, .int .i64 lg.2] 26)) bl).trans (by simp [go_sem])
              have L1 : w5.cell? ⟨w4.heap.size, 1, none⟩ = some (.int .i64 lg.2) := (World.cell?_of_block (w := w4.alloc (Obj.cells #[.int .i64 lg.1, .int .i64 lg.2] 26)) bl).trans (by simp [go_sem])
              replace a0 := hI5.a0
              replace a1 := hI5.a1
              have f0 := hI5.f0
              have f1 := hI5.f1
              have l5 := hI5.lz
              have l6 : w4.heap.size < w5.heap.size := by omega
              obtain ⟨st5, st6⟩ := st4 o2 rfl
              obtain ⟨y1, y2⟩ := Hsh.out o2 rfl
              have x3 : Hid (o2.length ≤ out.length + M.ckids (fun j => M.cnt (kid j)) (i + 1)) := by
                have x2 : M.ckids (fun j => M.cnt (kid j)) (i + 1) = M.ckids (fun j => M.cnt (kid j)) i + M.cnt (kid i) := rfl
                have x3 := hln.out
                show _ ≤ _
                omega
              clear st3 st4 Hsh g1 hC hown hcn hln hlen2 Hlen K0 K1 K2
              rw [show M.aE (some o2) = 0 from rfl]
              cases hq : M.pl a' lg with
              | none =>
                have hR : Hid (R = none) := st5 hq
                rw [hq] at hQ
                replace hQ : ∀ w, Calls Try.prog 16 #[.agg #[.int .i64 a'.1, .int .i64 a'.2], .agg #[.int .i64 lg.1, .int .i64 lg.2]] w fun e w' => e = .returned (.tuple #[.agg #[.int .i64 0, .int .i64 0], .int .i64 4]) ∧ Below w.heap.size w w' := hQ
                clear st5 st6 hq
                go_wp2_with fail
                refine (hQ _).mono ?_
                rintro e w6 ⟨rfl, hb6⟩
                replace f0 := keepF hb6 l5 f0
                replace f1 := keepF hb6 l5 f1
                replace a0 := keepC hb6 l5 a0
                replace a1 := keepC hb6 l5 a1
                have z6 := hb6.size
                go_wp2_with fail
                go_ret
                exact ShQ.none hR.out (((hI5.below hb6).b.setCell (p := ⟨w1.heap.size, 0, none⟩) (by show B ≤ w1.heap.size; omega) _).setCell (p := ⟨w1.heap.size, 1, none⟩) (by show B ≤ w1.heap.size; omega) _)
              | some e2 =>
                have hS2 : Hid (M.SK kid ALL L j (i + 1) R e2 o2) := st6 e2 hq
                have he2 : M.Ok e2 := M.tell_ok hq (M.mul_pos' _ _ ha'.low.1.1 hlg.low.1.1)
                rw [hq] at hQ
                replace hQ : ∀ w, Calls Try.prog 16 #[.agg #[.int .i64 a'.1, .int .i64 a'.2], .agg #[.int .i64 lg.1, .int .i64 lg.2]] w fun e w' => e = .returned (.tuple #[.agg #[.int .i64 e2.1, .int .i64 e2.2], .int .i64 0]) ∧ Below w.heap.size w w' := hQ
                clear st5 st6 hq
                go_wp2_with fail
                refine (hQ _).mono ?_
                rintro e w6 ⟨rfl, hb6⟩
                replace f0 := keepF hb6 l5 f0
                replace f1 := keepF hb6 l5 f1
                replace a0 := keepC hb6 l5 a0
                replace a1 := keepC hb6 l5 a1
                have z6 := hb6.size
                go_wp2_with fail
                go_roundw
                case rel => exact ⟨i + 1, e2, o2, by go_num, by omega, (hI5.below hb6).put, hS2, he2, y1, x3⟩
                case measure => simp [intOf]; omega
        · obtain rfl : i = j := by omega
          have hz := M.sk_end kid ALL L i R a' o hSK.out
          have Hz : Hid (R = some (a', o)) := hz
          clear hz hSK
          go_wp2_with fail
          go_ret
          exact ShQ.some Hz.out hI.o hI.kp hI.b

theorem share_any (b : M.Bt) : ShC b := by
  induction b using M.Bt.ind with
  | nil => intro h; exact False.elim h
  | mk k s n kid ih =>
    intro hF a L sb out w po B v hL hB hO hlen ho ha hl
    obtain ⟨ao, cap, rfl, hn, hk⟩ := hL
    obtain ⟨f1, f2, f3, f4, f5, f6, f7, f8⟩ := hF
    have hc : M.cnt (.mk k s n kid) = 1 + M.ckids (fun j => M.cnt (kid j)) n := rfl
    by_cases k4 : k = 4
    · subst k4
      have hn0 := f4 rfl
      obtain ⟨b, off, rfl, hbB, hk⟩ := hk hn0
      rw [M.sh, if_pos rfl]
      exact share_group s n kid ih f8 hn0 f3 a L sb out w po B b off cap hbB hk hB hO (by omega) ho ha hl
    · rw [M.sh, if_neg k4]
      exact share_leaf k s ao n cap a L sb out w po B k4 hB hO (by omega) ho hl
end Go.Proofs.Ytgcnmmjgdpdmbad.F
