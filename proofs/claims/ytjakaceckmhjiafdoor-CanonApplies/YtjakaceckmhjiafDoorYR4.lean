/- What the document's Apply comes to. -/
import Derived.Test.YtjakaceckmhjiafDoorYR3
import Derived.Test.YtjakaceckmhjiafDoorQR5
import Derived.Test.YtjakaceckmhjiafDoorYMath2
import Derived.Test.YtjakaceckmhjiafDoorY4
namespace Go.Proofs.YtjakaceckmhjiafDoor.Y
open Go.RowKit Go.Sort
set_option linter.unusedVariables false
set_option linter.unusedSimpArgs false

/-- What comes of the document's Apply. -/
def RpQ (c : Ch) (T : Nat → Tn) (n : Nat) (w : World) (e : Ending) (w' : World) : Prop :=
  Go.RowKit.Below w.heap.size w w' ∧ ((ae c T n ≠ 0 ∧ e = .returned (.tuple #[.slice none 0 0, .int .i64 (ae c T n)])) ∨
    (∃ ao cp Z, e = .returned (.tuple #[.slice ao n cp, .int .i64 0]) ∧ TL w' ao n Z ∧ n ≤ cp ∧ cp ≤ 9223372036854775807 ∧ App c T n Z))
/-- What the pitch is before it is moved. -/
def RM (c : Ch) (x : Tn) (A B C : Int) : Prop := M.rt A B C = true ∧ pe c x.l x.a x.o = M.me A B C c.s c.h ∧ px c x.l x.a x.o = M.ml A B C c.s c.h ∧ py c x.l x.a x.o = M.ma A B C c.s c.h ∧ pz c x.l x.a x.o = M.mo A B C c.s c.h
theorem rm_plain {c : Ch} {x : Tn} (h : c.mir = false) (hr : M.rt x.l x.a x.o = true) : RM c x x.l x.a x.o := ⟨hr, pe_plain h⟩
theorem rm_mir {c : Ch} {x : Tn} (h : c.mir = true) (h2 : M.re x.l x.a x.o c.xl c.xa c.xo = 0) : RM c x (M.rl x.l x.a x.o c.xl c.xa c.xo) (M.ra x.l x.a x.o c.xl c.xa c.xo) (M.ro x.l x.a x.o c.xl c.xa c.xo) :=
  ⟨(M.mirror_ok h2).2.2.1, pe_mir h h2, px_mir h⟩
theorem sl_bd' (s t : Int) (h1 : 1 ≤ s) (h2 : s ≤ 16) (h3 : 0 ≤ t) (h4 : t ≤ 2097152) : 0 ≤ t * s ∧ t * s ≤ 33554432 := by
  rw [Int.mul_comm]; exact sl_bd s t h1 h2 h3 h4
theorem ce_pe' {c : Ch} {E : Int} {x : Tn} (h : pe c x.l x.a x.o ≠ 0) : ce c E x = pe c x.l x.a x.o := by unfold ce; rw [if_pos h]
theorem ce_far' {c : Ch} {E : Int} {x : Tn} (h : pe c x.l x.a x.o = 0) (h2 : far c E x = true) : ce c E x = 4 := by unfold ce; rw [if_neg (by simp [h]), if_pos h2]

/-- The tone in its variable, with its place in time. -/
structure Tv (w2 : World) (b : Nat) (A1 : Int) (x : Tn) : Prop where
  lt : b < w2.heap.size
  c0 : w2.cell? ⟨b, 0, none⟩ = some (.int .i64 A1)
  c1 : w2.cell? ⟨b, 1, none⟩ = some (.int .i64 x.g)
  c2 : w2.cell? ⟨b, 2, none⟩ = some (.int .i64 x.l)
  c3 : w2.cell? ⟨b, 3, none⟩ = some (.int .i64 x.a)
  c4 : w2.cell? ⟨b, 4, none⟩ = some (.int .i64 x.o)
theorem Tv.keep {w w' : World} {b : Nat} {A1 : Int} {x : Tn} (h : Tv w b A1 x) (hb : Go.RowKit.Below w.heap.size w w') : Tv w' b A1 x :=
  ⟨by have := hb.size; have := h.lt; omega, keepC hb h.lt h.c0, keepC hb h.lt h.c1, keepC hb h.lt h.c2, keepC hb h.lt h.c3, keepC hb h.lt h.c4⟩
/-- A pitch's variable. -/
structure Pv (w : World) (b : Nat) (A B C : Int) : Prop where
  lt : b < w.heap.size
  c0 : w.cell? ⟨b, 0, none⟩ = some (.int .i64 A)
  c1 : w.cell? ⟨b, 1, none⟩ = some (.int .i64 B)
  c2 : w.cell? ⟨b, 2, none⟩ = some (.int .i64 C)
  f0 : w.frozen? ⟨b, 0, none⟩ = false
  f1 : w.frozen? ⟨b, 1, none⟩ = false
  f2 : w.frozen? ⟨b, 2, none⟩ = false
theorem Pv.keep {w w' : World} {b : Nat} {A B C : Int} (h : Pv w b A B C) (hb : Go.RowKit.Below w.heap.size w w') : Pv w' b A B C :=
  ⟨by have := hb.size; have := h.lt; omega, keepC hb h.lt h.c0, keepC hb h.lt h.c1, keepC hb h.lt h.c2, keepF hb h.lt h.f0, keepF hb h.lt h.f1, keepF hb h.lt h.f2⟩

theorem pv_put {w : World} {b : Nat} {A B C : Int} (h : Pv w b A B C) (U0 U1 U2 : Int) :
    Pv (((w.setCell ⟨b, 0, none⟩ (.int .i64 U0)).setCell ⟨b, 1, none⟩ (.int .i64 U1)).setCell ⟨b, 2, none⟩ (.int .i64 U2)) b U0 U1 U2 ∧ Go.RowKit.Below b w (((w.setCell ⟨b, 0, none⟩ (.int .i64 U0)).setCell ⟨b, 1, none⟩ (.int .i64 U1)).setCell ⟨b, 2, none⟩ (.int .i64 U2)) := by
  obtain ⟨vl, v0, v1, v2, k0, k1, k2⟩ := h
  have oth : ∀ (W : World) (a d : Nat) (v : Value), a ≠ d → (W.setCell ⟨b, a, none⟩ v).cell? ⟨b, d, none⟩ = W.cell? ⟨b, d, none⟩ := fun W a d v hab => World.cell?_setCell_other W _ _ v (fun e => hab (congrArg Addr.off e))
  have sam : ∀ (W : World) (a : Nat) (v : Value), (∃ u, W.cell? ⟨b, a, none⟩ = some u) → (W.setCell ⟨b, a, none⟩ v).cell? ⟨b, a, none⟩ = some v := fun W a v ⟨u, hu⟩ => World.cell?_setCell_same W _ v hu
  refine ⟨⟨by simpa [World.setCell] using vl, ?_, ?_, ?_, ?_, ?_, ?_⟩, ?_⟩
  · rw [oth _ _ _ _ (by omega), oth _ _ _ _ (by omega), sam _ _ _ ⟨_, v0⟩]
  · rw [oth _ _ _ _ (by omega), sam _ _ _ ⟨_, by rw [oth _ _ _ _ (by omega)]; exact v1⟩]
  · rw [sam _ _ _ ⟨_, by rw [oth _ _ _ _ (by omega), oth _ _ _ _ (by omega)]; exact v2⟩]
  · simp only [World.frozen?_setCell]; exact k0
  · simp only [World.frozen?_setCell]; exact k1
  · simp only [World.frozen?_setCell]; exact k2
  · exact (((Below.refl b w).setCell (p := ⟨b, 0, none⟩) (Nat.le_refl _) (.int .i64 U0)).setCell (p := ⟨b, 1, none⟩) (Nat.le_refl _) (.int .i64 U1)).setCell (p := ⟨b, 2, none⟩) (Nat.le_refl _) (.int .i64 U2)

set_option maxRecDepth 20000 in
set_option maxHeartbeats 8000000 in
theorem refApply_any (c : Ch) (ao : Option Addr) (n cap : Nat) (T : Nat → Tn) (w : World) (hp : TL w ao n T) (hc : n ≤ cap) (hA : ∀ j, j < n → -9223372036854775808 ≤ (T j).a ∧ (T j).a ≤ 9223372036854775807) (x1 : -9223372036854775808 ≤ c.xa) (x2 : c.xa ≤ 9223372036854775807) :
    Calls Tryd.prog 12 #[.agg #[.bool c.back, .int .i64 c.slow, .bool c.mir, .int .i64 c.xl, .int .i64 c.xa, .int .i64 c.xo, .int .i64 c.s, .int .i64 c.h, .int .i64 c.d], .slice ao n cap] w (RpQ c T n w) := by
  have HWr : Hid (wr T n ≠ 0 → ae c T n = wr T n) := ae_wr
  have HRn : Hid (wr T n = 0 → rng c = false → ae c T n = 3) := fun h1 h2 => ae_rng h1 h2
  have HFs : Hid (wr T n = 0 → rng c = true → ae c T n = fst (fun j => ce c (en T n) (T j)) n) := fun h1 h2 => ae_fst h1 h2
  obtain ⟨i0, hi, hz0, hz1, hz2'⟩ := info_of infoT
  go_enter Tryd.func12, Tryd.ntmps12
  go_wp2_with fail
  refine (refWrong_any ao n cap T _ (hp.keep (by go_grown)) hc hA).mono ?_
  rintro e w1 ⟨rfl, hb1⟩
  have z1 := hb1.size
  simp at z1
  have h01 : Go.RowKit.Below w.heap.size w w1 := Below.trans (by go_grown) (hb1.mono (by simp))
  by_cases hw0 : wr T n = 0
  · have hok := wr_zero hw0
    have hne : (wr T n != 0) = false := by simp [hw0]
    have HRn2 : Hid _ := HRn.out hw0
    have HFs2 : Hid _ := HFs.out hw0
    clear HWr HRn HFs
    generalize wr T n = WR at *
    have hcb : CB w1 w.heap.size c := ⟨by omega, keepC hb1 (by simp) (by simp [go_sem]), keepC hb1 (by simp) (by simp [go_sem]), keepC hb1 (by simp) (by simp [go_sem]), keepC hb1 (by simp) (by simp [go_sem]), keepC hb1 (by simp) (by simp [go_sem]), keepC hb1 (by simp) (by simp [go_sem]), keepC hb1 (by simp) (by simp [go_sem]), keepC hb1 (by simp) (by simp [go_sem]), keepC hb1 (by simp) (by simp [go_sem])⟩
    have b1 := hcb.c1
    have b8 := hcb.c8
    have s1 := hcb.lt
    cases hr : rng c
    · have HA : Hid (ae c T n = 3) := HRn2.out hr
      have hno := rng_no hr
      have fin : RpQ c T n w (.returned (.tuple #[.slice none 0 0, .int .i64 3])) w1 := ⟨h01, .inl ⟨by rw [HA.out]; decide, by rw [HA.out]⟩⟩
      clear HRn2 HFs2 hcb
      generalize c.slow = SL at *
      generalize c.d = D at *
      by_cases g1 : SL < 1
      · clear hno
        go_wp2_with fail
        go_returns
        exact fin
      · by_cases g2 : 16 < SL
        · clear hno
          go_wp2_with fail
          go_returns
          exact fin
        · by_cases g3 : D < 0
          · clear hno
            go_wp2_with fail
            go_returns
            exact fin
          · have g4 : 1048576 < D := by omega
            clear hno
            go_wp2_with fail
            go_returns
            exact fin
    · have HA0 : Hid (ae c T n = fst (fun j => ce c (en T n) (T j)) n) := HFs2.out hr
      obtain ⟨r1, r2, r3, r4⟩ := rng_yes hr
      have g1 : ¬ c.slow < 1 := by omega
      have g2 : ¬ 16 < c.slow := by omega
      have g3 : ¬ c.d < 0 := by omega
      have g4 : ¬ 1048576 < c.d := by omega
      have hlen := hok.len
      have hEn := en_bd hok
      have hEd := fun (W : World) (hg : Go.RowKit.Below w.heap.size w W) => refEnd_any ao n cap T W (hp.keep hg) hc hok
      have hAnn := fun j hj => a1_nn (c := c) hok (j := j) hj
      have hEg := fun j hj => en_ge T n j hj
      clear HRn2 HFs2
      go_wp2_with fail
      obtain ⟨E, HE⟩ : ∃ E, Hid (en T n = E) := ⟨_, rfl⟩
      rw [HE.out] at hEn hAnn hEg HA0
      have hEd' : ∀ (W : World), Go.RowKit.Below w.heap.size w W → Calls Tryd.prog 10 #[.slice ao n cap] W fun e w' => e = .returned (.int .i64 E) ∧ Go.RowKit.Below W.heap.size W w' := fun W hg => by have := hEd W hg; rw [HE.out] at this; exact this
      clear hEd
      go_loopw [7, 38] (fun v i wr => ∃ k : Nat, k ≤ n ∧ i = .int .i64 k ∧ wr.ownsRow w1.heap.size 44 5 v k (rows (tc fun j => cx c E (T j)) k) ∧ Hid (∀ j, j < k → ce c E (T j) = 0) ∧ Go.RowKit.Below w1.heap.size w1 wr) (fun _ i _ => n - (intOf i).toNat)
      case atStart => exact ⟨0, by omega, rfl, World.ownsRow_nil _ _ _ _, fun j hj => by omega, Below.refl _ _⟩
      case round =>
        obtain ⟨k, hkn, rfl, hown, hz, hbr⟩ := hrel
        have h0r := h01.trans (hbr.mono h01.size)
        have zr := hbr.size
        by_cases hlt : k < n
        · obtain ⟨b, off, rfl, hbl, q0, q1, q2, q3, q4⟩ := (hp.keep h0r).at' (by omega)
          have p0 := q0 k hlt
          have p1 := q1 k hlt
          have p2 := q2 k hlt
          have p3 := q3 k hlt
          have p4 := q4 k hlt
          have HS : Hid (ce c E (T k) ≠ 0 → ae c T n = ce c E (T k)) := fun hne => by rw [HA0.out]; exact fst_stop (f := fun j => ce c E (T j)) hlt hz.out hne
          have HN : Hid (ce c E (T k) = 0 → ∀ j, j < k + 1 → ce c E (T j) = 0) := fun e j hj => by
            by_cases ej : j = k
            · rw [ej]; exact e
            · exact hz.out j (by omega)
          have hAk := hA k hlt
          have ok4 := okT_yes (hok.ok k hlt)
          have hrk := hok.rt k hlt
          have ann := hAnn k hlt
          have egk := hEg k hlt
          have hCBr := hcb.keep hbr
          have HR : Hid (rows (tc fun j => cx c E (T j)) (k + 1) = rows (tc fun j => cx c E (T j)) k ++ rows (tc fun _ => cx c E (T k)) 1) := rfl
          clear q0 q1 q2 q3 q4 hz HA0 hAnn
          generalize T k = x at *
          have HF0 : Hid (c.back = false → a1 c E x = x.t) := fun h => by unfold a1; rw [h]; rfl
          have HF1 : Hid (c.back = true → a1 c E x = E - x.t - x.g) := fun h => by unfold a1; rw [h]; rfl
          have hb0 := hCBr.c0
          have hbz := hCBr.lt
          obtain ⟨BK, HBK⟩ : ∃ B, Hid (c.back = B) := ⟨_, rfl⟩
          rw [HBK.out] at hb0 HF0 HF1
          go_upto_if 43 with fail
          go_cut [] (fun wx => Go.RowKit.Below wr.heap.size wr wx ∧ Tv wx wr.heap.size (a1 c E x) x)
          case first =>
            cases BK
            · have e1 : Hid _ := HF0.out rfl
              clear HBK HF0 HF1
              go_wp2_with fail
              go_meet
              case rel => exact ⟨by go_grown, ⟨by simp, by rw [e1.out]; simp [go_sem], by simp [go_sem], by simp [go_sem], by simp [go_sem], by simp [go_sem]⟩⟩
            · have e1 : Hid _ := HF1.out rfl
              clear HBK HF0 HF1
              have y0 : (wr.alloc (Obj.cells #[.int .i64 x.t, .int .i64 x.g, .int .i64 x.l, .int .i64 x.a, .int .i64 x.o] 44)).cell? ⟨wr.heap.size, 0, none⟩ = some (.int .i64 x.t) := by simp [go_sem]
              have y1 : (wr.alloc (Obj.cells #[.int .i64 x.t, .int .i64 x.g, .int .i64 x.l, .int .i64 x.a, .int .i64 x.o] 44)).cell? ⟨wr.heap.size, 1, none⟩ = some (.int .i64 x.g) := by simp [go_sem]
              have y2 : (wr.alloc (Obj.cells #[.int .i64 x.t, .int .i64 x.g, .int .i64 x.l, .int .i64 x.a, .int .i64 x.o] 44)).cell? ⟨wr.heap.size, 2, none⟩ = some (.int .i64 x.l) := by simp [go_sem]
              have y3 : (wr.alloc (Obj.cells #[.int .i64 x.t, .int .i64 x.g, .int .i64 x.l, .int .i64 x.a, .int .i64 x.o] 44)).cell? ⟨wr.heap.size, 3, none⟩ = some (.int .i64 x.a) := by simp [go_sem]
              have y4 : (wr.alloc (Obj.cells #[.int .i64 x.t, .int .i64 x.g, .int .i64 x.l, .int .i64 x.a, .int .i64 x.o] 44)).cell? ⟨wr.heap.size, 4, none⟩ = some (.int .i64 x.o) := by simp [go_sem]
              have yf : (wr.alloc (Obj.cells #[.int .i64 x.t, .int .i64 x.g, .int .i64 x.l, .int .i64 x.a, .int .i64 x.o] 44)).frozen? ⟨wr.heap.size, 0, none⟩ = false := by simp [go_sem]
              have ha : Go.RowKit.Below wr.heap.size wr (wr.alloc (Obj.cells #[.int .i64 x.t, .int .i64 x.g, .int .i64 x.l, .int .i64 x.a, .int .i64 x.o] 44)) := by go_grown
              have hsz : wr.heap.size < (wr.alloc (Obj.cells #[.int .i64 x.t, .int .i64 x.g, .int .i64 x.l, .int .i64 x.a, .int .i64 x.o] 44)).heap.size := by simp
              generalize (wr.alloc (Obj.cells #[.int .i64 x.t, .int .i64 x.g, .int .i64 x.l, .int .i64 x.a, .int .i64 x.o] 44)) = wa at *
              have h0a : Go.RowKit.Below w.heap.size w wa := h0r.trans (ha.mono h0r.size)
              have cE : ∀ d os, Calls Tryd.prog 10 #[.slice (some ⟨b, off, none⟩) n cap] (grow (redrawn wa d) os) fun e w'' => e = .returned (.int .i64 E) ∧ ∃ p : Regrown, w'' = grow (redrawn wa p.d) p.os := fun d os => Calls.regrown_of (hEd' _ (h0a.trans ((below_regrown wa d os).mono h0a.size)))
              have u0 := cell_regrown y0
              have u1 := cell_regrown y1
              go_wp2_with fail
              refine U2.wp_region_tail_below 9 (by decide) (by kernel_rfl) (by kernel_rfl) (by kernel_rfl) (by kernel_rfl) ?_
              dsimp only [List.take, List.drop]
              repeat (go_big_quiet_step (exact cE _ _))
              refine wpQuiet_nil ?_
              rintro w2 ⟨⟨dq, osq⟩, hw2⟩
              have hb2 : Go.RowKit.Below wa.heap.size wa w2 := by rw [hw2]; exact below_regrown wa dq osq
              have hc1 := keepC hb2 hsz y1
              have hc2 := keepC hb2 hsz y2
              have hc3 := keepC hb2 hsz y3
              have hc4 := keepC hb2 hsz y4
              have hc0 := keepC hb2 hsz y0
              have hfz := keepF hb2 hsz yf
              have z2 := hb2.size
              have hs2 : wr.heap.size < w2.heap.size := by omega
              have hwb : Go.RowKit.Below wr.heap.size wr w2 := ha.trans (hb2.mono ha.size)
              clear hw2 u0 u1 cE y0 y1 y2 y3 y4 yf hb2
              have hid : IntKind.i64.wrap (IntKind.i64.wrap (E - x.t) - x.g) = E - x.t - x.g := by rw [show IntKind.i64.wrap (E - x.t) = E - x.t from wid (by omega) (by omega)]; exact wid (by omega) (by omega)
              go_wp2_with fail
              go_meet
              case rel => exact ⟨hwb.setCell (by simp) _, ⟨by simpa [World.setCell] using hs2, by rw [e1.out]; simp [go_sem, hc0, hid], by simp [go_sem, hc1], by simp [go_sem, hc2], by simp [go_sem, hc3], by simp [go_sem, hc4]⟩⟩
          case rest =>
            obtain ⟨hb2, hTv⟩ := hcut
            rename World => w2
            have h12 : Go.RowKit.Below w1.heap.size w1 w2 := hbr.trans (hb2.mono zr)
            have h02 : Go.RowKit.Below w.heap.size w w2 := h0r.trans (hb2.mono h0r.size)
            have hCB2 := hCBr.keep hb2
            have own2 := own_keep hown hb2
            have hz2 := h12.size
            have hb2z : wr.heap.size < w2.heap.size := hTv.lt
            obtain ⟨A1, HA1⟩ : ∃ A, Hid (a1 c E x = A) := ⟨_, rfl⟩
            rw [HA1.out] at hTv ann
            have hA1 : A1 ≤ 2097152 := by
              rw [← HA1.out]; unfold a1; split <;> omega
            clear HF0 HF1 HBK hb0 hbz p0 p1 p2 p3 p4 hown hCBr
            have hTv' := hTv
            obtain ⟨tl, t0, t1, t2, t3, t4⟩ := hTv'
            have hCB2' := hCB2
            obtain ⟨cl, d0, d1, d2, d3, d4, d5, d6, d7, d8⟩ := hCB2'
            obtain ⟨BM, HBM⟩ : ∃ B, Hid (c.mir = B) := ⟨_, rfl⟩
            rw [HBM.out] at d2
            have hMi := refMirror_any x.l x.a x.o c.xl c.xa c.xo
            have HP : Hid (∀ W : World, Go.RowKit.Below w.heap.size w W → pe c x.l x.a x.o ≠ 0 → RpQ c T n w (.returned (.tuple #[.slice none 0 0, .int .i64 (pe c x.l x.a x.o)])) W) := fun W hW hpe => ⟨hW, .inl ⟨by rw [HS.out (by rw [ce_pe' hpe]; exact hpe), ce_pe' hpe]; exact hpe, by rw [HS.out (by rw [ce_pe' hpe]; exact hpe), ce_pe' hpe]⟩⟩
            have HM : Hid (c.mir = true → M.re x.l x.a x.o c.xl c.xa c.xo ≠ 0 → pe c x.l x.a x.o = M.re x.l x.a x.o c.xl c.xa c.xo) := fun h h2 => pe_err h h2
            have HM0 : Hid (c.mir = true → M.re x.l x.a x.o c.xl c.xa c.xo = 0 → RM c x (M.rl x.l x.a x.o c.xl c.xa c.xo) (M.ra x.l x.a x.o c.xl c.xa c.xo) (M.ro x.l x.a x.o c.xl c.xa c.xo)) := fun h h2 => rm_mir h h2
            have HM1 : Hid (c.mir = false → RM c x x.l x.a x.o) := fun h => rm_plain h hrk
            go_upto_if 56 with fail
            go_cut [11] (fun e wx => e = .int .i64 0 ∧ ∃ A B C, Hid (RM c x A B C) ∧ Go.RowKit.Below w2.heap.size w2 wx ∧ Pv wx w2.heap.size A B C)
            case first =>
              cases BM
              · have e1 : Hid _ := HM1.out HBM.out
                clear HM HM0 HM1 HBM hMi HP
                go_wp2_with fail
                go_meet
                case rel => exact ⟨rfl, x.l, x.a, x.o, e1, by go_grown, ⟨by simp, by simp [go_sem], by simp [go_sem], by simp [go_sem], by simp [go_sem], by simp [go_sem], by simp [go_sem]⟩⟩
              · have e1 : Hid _ := HM.out HBM.out
                have e0 : Hid _ := HM0.out HBM.out
                clear HM HM0 HM1 HBM
                generalize M.re x.l x.a x.o c.xl c.xa c.xo = RE at *
                generalize M.rl x.l x.a x.o c.xl c.xa c.xo = RL at *
                generalize M.ra x.l x.a x.o c.xl c.xa c.xo = RA at *
                generalize M.ro x.l x.a x.o c.xl c.xa c.xo = RO at *
                go_wp2_with fail
                refine (hMi _ hAk.1 hAk.2 x1 x2).mono ?_
                rintro e w3 ⟨rfl, hb3⟩
                have z3 := hb3.size
                simp at z3
                have h23 : Go.RowKit.Below w2.heap.size w2 w3 := Below.trans (by go_grown) (hb3.mono (by simp))
                have hP3 : Pv w3 w2.heap.size x.l x.a x.o := ⟨by omega, keepC hb3 (by simp) (by simp [go_sem]), keepC hb3 (by simp) (by simp [go_sem]), keepC hb3 (by simp) (by simp [go_sem]), keepF hb3 (by simp) (by simp [go_sem]), keepF hb3 (by simp) (by simp [go_sem]), keepF hb3 (by simp) (by simp [go_sem])⟩
                obtain ⟨vl, v0, v1, v2, k0, k1, k2⟩ := hP3
                by_cases hre : RE = 0
                · have hre2 : (RE != 0) = false := by simp [hre]
                  have e2 : Hid _ := e0.out hre
                  subst hre
                  clear e0 e1 hMi HP
                  go_wp2_with fail
                  go_meet
                  case rel => exact ⟨rfl, RL, RA, RO, e2, ((h23.setCell (by simp) _).setCell (by simp) _).setCell (by simp) _, ⟨by simpa [World.setCell] using vl, by simp [go_sem, v0], by simp [go_sem, v1], by simp [go_sem, v2], by simp [go_sem, k0], by simp [go_sem, k1], by simp [go_sem, k2]⟩⟩
                · have hre2 : (RE != 0) = true := by simp [hre]
                  have e2 := e1.out hre
                  have fin : Hid (∀ W : World, Go.RowKit.Below w.heap.size w W → RpQ c T n w (.returned (.tuple #[.slice none 0 0, .int .i64 RE])) W) := fun W hW => by have := HP.out W hW (by rw [e2]; exact hre); rw [e2] at this; exact this
                  have h03 : Go.RowKit.Below w.heap.size w w3 := h02.trans (h23.mono h02.size)
                  clear e0 e1 e2 hMi HP
                  go_wp2_with fail
                  go_returns
                  refine fin.out _ ?_
                  all_goals (repeat' (first | exact h03 | refine Below.setCell ?_ ?_ _ | refine Below.alloc ?_ ?_ _))
                  all_goals first | (simp; done) | (simp; omega) | omega
            case rest =>
              obtain ⟨rfl, A, B, C, hRM, hb3, hPv⟩ := hcut
              rename World => w3
              obtain ⟨hrt, ePe, ePx, ePy, ePz⟩ := hRM.out
              have hrb := M.rt_yes hrt
              have h13 : Go.RowKit.Below w1.heap.size w1 w3 := h12.trans (hb3.mono hz2)
              have h03 : Go.RowKit.Below w.heap.size w w3 := h02.trans (hb3.mono h02.size)
              have hCB3 := hCB2.keep hb3
              have hTv3 := hTv.keep hb3
              have own3 := own_keep own2 hb3
              have hz3 := h13.size
              clear tl t0 t1 t2 t3 t4 cl d0 d1 d2 d3 d4 d5 d6 d7 d8 HM HM0 HM1 HBM hMi hRM hb2
              have hCB3' := hCB3
              obtain ⟨cl, d0, d1, d2, d3, d4, d5, d6, d7, d8⟩ := hCB3'
              have hPv' := hPv
              obtain ⟨vl, v0, v1, v2, k0, k1, k2⟩ := hPv'
              have hMo := fun W => refMove_any A B C c.s c.h W (by omega) (by omega)
              have HCX : Hid (M.me A B C c.s c.h = 0 → far c E x = false → ce c E x = 0 ∧ cx c E x = ⟨A1 * c.slow + c.d, x.g * c.slow, M.ml A B C c.s c.h, M.ma A B C c.s c.h, M.mo A B C c.s c.h⟩) := fun h1 h2 => ⟨ce_mk (by rw [ePe]; exact h1) h2, by unfold cx; rw [ePx, ePy, ePz, HA1.out, Int.mul_comm c.slow A1, Int.mul_comm c.slow x.g]⟩
              have HC4 : Hid (M.me A B C c.s c.h = 0 → far c E x = true → ae c T n = 4) := fun h1 h2 => by rw [HS.out (by rw [ce_far' (by rw [ePe]; exact h1) h2]; decide)]; exact ce_far' (by rw [ePe]; exact h1) h2
              have HFR : Hid (far c E x = (decide (1048576 < A1 * c.slow + c.d) || decide (1048576 < x.g * c.slow))) := by rw [Int.mul_comm A1, Int.mul_comm x.g, ← HA1.out]; rfl
              obtain ⟨m1, m2⟩ := sl_bd' c.slow A1 r1 r2 (by omega) hA1
              obtain ⟨m3, m4⟩ := sl_bd' c.slow x.g r1 r2 (by omega) (by omega)
              rw [ePe] at HP
              clear ePe ePx ePy ePz HS
              generalize M.ml A B C c.s c.h = U0 at *
              generalize M.ma A B C c.s c.h = U1 at *
              generalize M.mo A B C c.s c.h = U2 at *
              generalize M.me A B C c.s c.h = ME at *
              go_wp2_with fail
              refine (hMo _).mono ?_
              rintro e w4 ⟨rfl, hb4⟩
              have z4 := hb4.size
              have hP4 := hPv.keep hb4
              obtain ⟨hP5, hb5⟩ := pv_put hP4 U0 U1 U2
              have hw23 := hb3.size
              have h24 : Go.RowKit.Below w2.heap.size w2 w4 := hb3.trans (hb4.mono hw23)
              have h25 := h24.trans hb5
              have h04 : Go.RowKit.Below w.heap.size w w4 := h03.trans (hb4.mono h03.size)
              clear cl d0 d1 d2 d3 d4 d5 d6 d7 d8 vl v0 v1 v2 k0 k1 k2 hMo hCB3 hTv3 own3 hPv hb5
              obtain ⟨vl, v0, v1, v2, k0, k1, k2⟩ := hP4
              by_cases hme : ME = 0
              · have hme2 : (ME != 0) = false := by simp [hme]
                have HC4' : Hid _ := HC4.out hme
                have HCX' : Hid _ := HCX.out hme
                clear HC4 HCX HP hme
                go_upto_region 21 with fail
                generalize ((w4.setCell ⟨w2.heap.size, 0, none⟩ (.int .i64 U0)).setCell ⟨w2.heap.size, 1, none⟩ (.int .i64 U1)).setCell ⟨w2.heap.size, 2, none⟩ (.int .i64 U2) = w5 at *
                have hTv5 := hTv.keep h25
                have hCB5 := hCB2.keep h25
                have own5 := own_keep own2 h25
                have h15 : Go.RowKit.Below w1.heap.size w1 w5 := h12.trans (h25.mono hz2)
                have h05 : Go.RowKit.Below w.heap.size w w5 := h02.trans (h25.mono h02.size)
                have hz5 := h15.size
                clear vl v0 v1 v2 k0 k1 k2 h24 h25 hb3 hb4 h13 h03 h04 hTv hCB2 own2 h12 h02
                obtain ⟨vl, v0, v1, v2, k0, k1, k2⟩ := hP5
                obtain ⟨tl, t0, t1, t2, t3, t4⟩ := hTv5
                obtain ⟨cl, d0, d1, d2, d3, d4, d5, d6, d7, d8⟩ := hCB5
                clear d0 d2 d3 d4 d5 d6 d7 t2 t3 t4 k0 k1 k2
                cases hf : far c E x
                · obtain ⟨hce, hcx⟩ := HCX'.out hf
                  have hfr := HFR.out
                  rw [hf] at hfr
                  simp at hfr
                  obtain ⟨f1, f2⟩ := hfr
                  have HR2 : Hid (rows (tc fun j => cx c E (T j)) (k + 1) = rows (tc fun j => cx c E (T j)) k ++ [.int .i64 (A1 * c.slow + c.d), .int .i64 (x.g * c.slow), .int .i64 U0, .int .i64 U1, .int .i64 U2]) := by rw [HR.out]; congr 1; simp only [rows, tc, hcx]; rfl
                  have HN2 := HN.out hce
                  have f1' : ¬ 1048576 < A1 * c.slow + c.d := by omega
                  have f2' : ¬ 1048576 < x.g * c.slow := by omega
                  clear HC4' HCX' HFR HR HN hf hcx hce f1 f2
                  go_wp2_with (at_builtin; refine wpList_append_own _ rfl (.tmp 100) (.tmp 102) 22 rfl w1.heap.size 44 i0 (.agg #[.int .i64 0, .int .i64 0, .int .i64 0, .int .i64 0, .int .i64 0]) 5 40 Tryd.underlying22 hi hz0 hz1 hz2' rfl (by decide) _ k (rows (tc fun j => cx c E (T j)) k) rfl ((own5.alloc _).alloc _) ⟨w5.heap.size + 1, 0, none⟩ 1 1 [.int .i64 (A1 * c.slow + c.d), .int .i64 (x.g * c.slow), .int .i64 U0, .int .i64 U1, .int .i64 U2] rfl rfl ?c1 ?c2 ?c3 ?c4 ?c5 ?_)
                  case c2 => exact ⟨rfl, rfl, rfl, rfl, rfl⟩
                  case c3 => unfold maxLen; omega
                  case c4 => omega
                  case c5 => first | omega | (simp; omega)
                  · intro v' w6 hown' hgrow _
                    rw [← HR2.out] at hown'
                    have hb6 : Go.RowKit.Below w1.heap.size w1 w6 := ((h15.alloc hz5 _).alloc (by simp; omega) _).grown hgrow (by simp; omega) (fun j hj => (own5.lt j hj).1)
                    clear hgrow own5
                    go_wp2_with fail
                    go_roundw
                    case rel => exact ⟨k + 1, by omega, by go_num, hown', HN2, hb6⟩
                    case measure => simp [intOf]; omega
                · have HA4 : Hid (ae c T n = 4) := HC4'.out hf
                  have fin : Hid (∀ W : World, Go.RowKit.Below w.heap.size w W → RpQ c T n w (.returned (.tuple #[.slice none 0 0, .int .i64 4])) W) := fun W hW => ⟨hW, .inl ⟨by rw [HA4.out]; decide, by rw [HA4.out]⟩⟩
                  have hfr := HFR.out
                  rw [hf] at hfr
                  simp at hfr
                  clear HC4' HCX' HFR HR HN hf HA4
                  by_cases f1 : 1048576 < A1 * c.slow + c.d
                  · clear hfr
                    go_wp2_with fail
                    go_returns
                    exact fin.out _ (h05.alloc h05.size _)
                  · have f2 : 1048576 < x.g * c.slow := by omega
                    clear hfr
                    go_wp2_with fail
                    go_returns
                    exact fin.out _ (h05.alloc h05.size _)
              · have hme2 : (ME != 0) = true := by simp [hme]
                have fin : Hid (∀ W : World, Go.RowKit.Below w.heap.size w W → RpQ c T n w (.returned (.tuple #[.slice none 0 0, .int .i64 ME])) W) := fun W hW => HP.out W hW hme
                clear HC4 HCX HP HFR m1 m2 m3 m4
                go_wp2_with fail
                go_returns
                refine fin.out _ ?_
                all_goals (repeat' (first | exact h04 | refine Below.setCell ?_ ?_ _ | refine Below.alloc ?_ ?_ _))
                all_goals first | (simp; done) | (simp; omega) | omega
        · obtain rfl : k = n := by omega
          have HA2 : Hid (ae c T k = 0) := by rw [HA0.out]; exact fst_all hz.out
          obtain ⟨bo, bc, rfl, hqc, hbc, hTL, hform⟩ := own_TL hown
          have hOr := Order_any bo k bc (fun j => cx c E (T j)) wr hTL hlen hqc
          clear hown hform HA0 hz hp hok
          go_wp2_with fail
          refine hOr.mono ?_
          rintro e w5 ⟨⟨v, Z, rfl, hown5, hperm, hord⟩, hb5⟩
          obtain ⟨ro, rc, rfl, h1, h2, h3, _⟩ := own_TL hown5
          have fin : RpQ c T k w (.returned (.tuple #[.slice ro k rc, .int .i64 0])) w5 := ⟨h0r.trans (hb5.mono h0r.size), .inr ⟨ro, rc, Z, rfl, h3, h1, h2, HA2.out, by rw [HE.out]; exact hperm, hord⟩⟩
          clear hOr hperm hord hown5
          go_wp2_with fail
          go_returns
          exact fin
  · have hne : (wr T n != 0) = true := by simp [hw0]
    have HA : Hid (ae c T n = wr T n) := HWr.out hw0
    have fin : RpQ c T n w (.returned (.tuple #[.slice none 0 0, .int .i64 (wr T n)])) w1 := ⟨h01, .inl ⟨by rw [HA.out]; exact hw0, by rw [HA.out]⟩⟩
    clear HWr HRn HFs
    generalize wr T n = WR at *
    go_wp2_with fail
    go_returns
    exact fin
end Go.Proofs.YtjakaceckmhjiafDoor.Y
