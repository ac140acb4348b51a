/- What plain.Ring comes to. -/
import Derived.Test.YtggbbekgmjkplaaRg4
namespace Go.Proofs.Ytggbbekgmjkplaa.Rg
open Go.RowKit Go.Maps Go.Sort
set_option linter.unusedVariables false
set_option linter.unusedSimpArgs false

/-- What plain.Ring leaves. -/
structure RiQ (w : World) (n : Int) (l : List Int) (e : Ending) (w' : World) : Prop where
  b : Below w.heap.size w w'
  o : ((n < 1 ∨ 65536 < n) ∧ e = .returned (.tuple #[.slice none 0 0, .int .i64 3])) ∨ ∃ (N : Nat) (v : Value) (base : Nat), n = N ∧ 1 ≤ N ∧ N ≤ 65536 ∧ e = .returned (.tuple #[v, .int .i64 0]) ∧ w.heap.size ≤ base ∧ OT w' base v (tus N [] l)
theorem OT.step {w w' : World} {base : Nat} {v : Value} {R : List Tu} (h : OT w base v R) (hk : ∀ j, base ≤ j → j < w.heap.size → w'.heap[j]? = w.heap[j]?) : OT w' base v R := own_step h (fun k e => hk k (own_block h k e) (own_lt h k e))
theorem OT.at' {w : World} {base : Nat} {v : Value} {R : List Tu} (h : OT w base v R) : ∃ ao c, v = .slice ao R.length c ∧ R.length ≤ c ∧ c ≤ 9223372036854775807 := own_form h
theorem tur_row (w : World) (a c : Int) (o : Bool) : (w.alloc (.cells #[.int .i64 a, .bool o, .int .i64 c] 31)).rowIs w.heap.size 31 3 (fun i => if i = 0 then .int .i64 a else if i = 1 then .bool o else .int .i64 c) :=
  World.rowIs_alloc w #[.int .i64 a, .bool o, .int .i64 c] 31 _ (fun i hi => by
    match i, hi with
    | 0, _ => rfl
    | 1, _ => rfl
    | 2, _ => rfl
    | i + 3, hi => exact absurd hi (by show ¬ (i + 3 < 3); omega))
set_option maxRecDepth 20000 in
set_option maxHeartbeats 8000000 in
theorem Ring_any (n : Int) (l : List Int) (ao : Option Addr) (m cp : Nat) (w : World) (hL : IL w (fun k => k < w.heap.size) ao l) (hm : l.length = m) (hc : m ≤ cp) (hcm : cp ≤ 9223372036854775807) (hl : m ≤ 1048576) :
    Calls Try.prog 6 #[.int .i64 n, .slice ao m cp] w fun e w' => RiQ w n l e w' := by
  have HN := New_any n w
  have HL : Hid (IL w (fun k => k < w.heap.size) ao l) := hL
  clear hL
  go_enter Try.func6, Try.ntmps6
  go_wp2_with fail
  refine HN.mono ?_
  rintro e w1 ⟨hb1, ⟨hbad, rfl, hww⟩ | ⟨N, rfl, rfl, hE⟩⟩
  · have HQ : Hid (RiQ w n l (.returned (.tuple #[.slice none 0 0, .int .i64 3])) w1) := ⟨hb1, .inl ⟨hbad, rfl⟩⟩
    clear HN HL hbad hww hb1
    go_wp2_with fail
    go_returns
    exact HQ.out
  · have hN0 := hE.n0
    have hN1 := hE.n1
    obtain ⟨b, hb⟩ : ∃ b, b = w.heap.size + 1 := ⟨_, rfl⟩
    obtain ⟨sb, hsb⟩ : ∃ sb, sb = w.heap.size := ⟨_, rfl⟩
    rw [← hb, ← hsb] at hE
    rw [← hb]
    have HE : Hid (RL w1 b sb N [] 0 0 (fun _ => 0)) := hE
    have zb : b < w1.heap.size := hE.lb
    have zs : sb < w1.heap.size := hE.ls
    have HB : Hid (b = w.heap.size + 1 ∧ sb = w.heap.size) := ⟨hb, hsb⟩
    clear HN hE hb hsb
    go_wp2_with fail
    go_loopw [22, 8] (fun i v ww => ∃ k : Nat, k ≤ m ∧ i = .int .i64 k ∧ Hid (OT ww w1.heap.size v (tus N [] (l.take k))) ∧ Hid (∃ nx fs g, RL ww b sb N (qs N [] (l.take k)) nx fs g) ∧ Hid (Below w.heap.size w ww) ∧ w1.heap.size ≤ ww.heap.size) (fun i _ _ => m - (intOf i).toNat)
    case atStart => exact ⟨0, Nat.zero_le _, rfl, World.ownsRow_nil _ _ _ _, ⟨0, 0, _, HE.out⟩, hb1, Nat.le_refl _⟩
    case round =>
      obtain ⟨k, hk, rfl, hO, hR, hbr, hzr⟩ := hrel
      clear HE
      by_cases hlt : k < m
      · obtain ⟨x, hx⟩ : ∃ x, l[k]? = some x := ⟨_, List.getElem?_eq_getElem (by omega)⟩
        obtain ⟨nb, of, rfl, hnb, hnb2, q0⟩ := (HL.out.keep (fun j hj _ => hbr.out.block j hj) hbr.out.size (fun b hb _ => hb)).at' (by omega)
        have cx := q0 k x hx
        have hlt' : (k : Int) < (m : Int) := by omega
        have w3 : IntKind.i64.wrap ((k : Int) + 1) = (k : Int) + 1 := wid (by omega) (by omega)
        have HT1 : Hid (tus N [] (l.take (k + 1)) = tus N [] (l.take k) ++ [tu N (qs N [] (l.take k)) x]) := by show _ = _; rw [take_one hx, tus_app]
        have HT2 : Hid (qs N [] (l.take (k + 1)) = nq N (qs N [] (l.take k)) x) := by show _ = _; rw [take_one hx, qs_app]
        have hrl : (tus N [] (l.take k)).length = k := by rw [tus_len, List.length_take]; omega
        have hql : (qs N [] (l.take k)).length ≤ N := qs_le (Nat.zero_le _) _
        generalize qs N [] (l.take k) = q at *
        generalize tus N [] (l.take k) = R at *
        obtain ⟨nx, fs, g, hRL⟩ := hR.out
        have HRL : Hid (RL wr b sb N q nx fs g) := hRL
        clear hR hx q0
        obtain ⟨tb, htb⟩ : ∃ tb, tb = wr.heap.size := ⟨_, rfl⟩
        obtain ⟨W1, hW1⟩ : ∃ W1, W1 = wr.alloc (.cells #[.int .i64 0, .bool false, .int .i64 0] 31) := ⟨_, rfl⟩
        have t0 : W1.rowIs tb 31 3 (fun i => if i = 0 then .int .i64 0 else if i = 1 then .bool false else .int .i64 0) := by rw [hW1, htb]; exact tur_row wr 0 0 false
        have bA : Below wr.heap.size wr W1 := by rw [hW1]; exact (Below.refl _ _).alloc (Nat.le_refl _) _
        have z1 : W1.heap.size = tb + 1 := by rw [hW1, htb]; simp
        have hR1 : RL W1 b sb N q nx fs g := hRL.bel bA
        have zbr : b < wr.heap.size := hRL.lb
        have zsr : sb < wr.heap.size := hRL.ls
        have HB1 : Hid (Below w.heap.size w W1) := hbr.out.trans (bA.mono (by have := hbr.out.size; omega))
        have HO1 : Hid (OT W1 w1.heap.size u8 R) := hO.out.step (fun j _ h => bA.block j h)
        have HOn : Hid (∀ j, u8.ownBlock = some j → j ≠ tb) := fun j e h => by have := own_lt hO.out j e; omega
        clear hO HRL hRL bA hk hlt
        by_cases hx0 : 0 ≤ x
        · have hd : decide (0 ≤ x) = true := by simp [hx0]
          have hcall := Push_any b sb N nx fs q g x W1 hR1
          have HNq : nq N q x = if q.length < N then q ++ [x] else q := by unfold nq; rw [if_pos hx0]
          have HK : Hid (tu N q x = ⟨0, decide (q.length < N), (nq N q x).length⟩) := by show _ = _; unfold tu; rw [if_pos hx0, if_pos hx0]
          have hwt : w.heap.size ≤ tb := by have := hbr.out.size; omega
          have hnl : (nq N q x).length ≤ N := nq_le hql x
          go_wp2_with fail
          rw [← hW1, ← htb]
          rw [← htb] at zbr zsr hnb hzr
          clear htb hW1
          refine hcall.mono ?_
          rintro e w2 ⟨rfl, ⟨nx2, fs2, g2, hr2⟩, hk2⟩
          rw [← HNq] at hr2
          have t2 := World.rowIs.of_block t0 (hk2.k tb (by omega) (by omega) (by omega))
          have HB2 : Hid (Below w.heap.size w w2) := HB1.out.trans (hk2.b w.heap.size (by rw [HB.out.1]; omega) (by rw [HB.out.2]; exact Nat.le_refl _))
          have HO2 : Hid (OT w2 w1.heap.size u8 R) := HO1.out.step (fun j h1 h2 => hk2.k j h2 (by omega) (by omega))
          have HOb : Hid (∀ j, u8.ownBlock = some j → j < w2.heap.size ∧ w1.heap.size ≤ j ∧ j ≠ tb) := fun j e => ⟨own_lt HO2.out j e, own_block HO2.out j e, HOn.out j e⟩
          have z2 := hk2.z
          obtain ⟨L, hL⟩ : ∃ L, L = (nq N q x).length := ⟨_, rfl⟩
          rw [← hL] at HK hnl
          have HL' : Hid (L = (nq N q x).length) := hL
          generalize decide (q.length < N) = OK at *
          obtain ⟨WS, hWS⟩ : ∃ WS, WS = w2.setCell ⟨tb, 1, none⟩ (.bool OK) := ⟨_, rfl⟩
          have t4 := World.rowIs.set t2 1 (.bool OK)
          rw [← hWS] at t4
          have zS : WS.heap.size = w2.heap.size := by rw [hWS]; simp [World.setCell]
          have hkS : ∀ j, j ≠ tb → WS.heap[j]? = w2.heap[j]? := fun j hj => by rw [hWS]; exact Below.heap_setCell _ _ _ _ hj
          have hBS : ∀ B, B ≤ tb → Below B w2 WS := fun B hB => by rw [hWS]; exact (Below.refl _ _).setCell (p := ⟨tb, 1, none⟩) hB _
          have hrS : RL WS b sb N (nq N q x) nx2 fs2 g2 := hr2.keep (hkS b (by omega)) (hkS sb (by omega))
          have HrS : Hid (RL WS b sb N (nq N q x) nx2 fs2 g2) := hrS
          have hlen := Len_any b (L : Int) WS (by rw [hL]; exact hrS.c3)
          have HBS : Hid (Below w.heap.size w WS) := HB2.out.trans (hBS _ hwt)
          have HOS : Hid (OT WS w1.heap.size u8 R) := own_step HO2.out (fun j e => hkS j (HOb.out j e).2.2)
          have y0 : w2.cell? ⟨tb, 0, none⟩ = some (.int .i64 0) := World.rowIs.cell t2 (by decide)
          have y1 : w2.cell? ⟨tb, 1, none⟩ = some (.bool false) := World.rowIs.cell t2 (by decide)
          have yf : ∀ i, w2.frozen? ⟨tb, i, none⟩ = false := fun i => World.rowIs.frozen t2 i
          have s0 : WS.cell? ⟨tb, 0, none⟩ = some (.int .i64 (0 : Int)) := (World.rowIs.cell t4 (i := 0) (by decide)).trans rfl
          have s1 : WS.cell? ⟨tb, 1, none⟩ = some (.bool OK) := (World.rowIs.cell t4 (i := 1) (by decide)).trans rfl
          have s2 : WS.cell? ⟨tb, 2, none⟩ = some (.int .i64 0) := (World.rowIs.cell t4 (i := 2) (by decide)).trans rfl
          have sf : ∀ i, WS.frozen? ⟨tb, i, none⟩ = false := fun i => World.rowIs.frozen t4 i
          have zt : tb < WS.heap.size := by omega
          have hbF : ∀ j, j ≠ tb → (WS.setCell ⟨tb, 2, none⟩ (.int .i64 L)).heap[j]? = WS.heap[j]? := fun j hj => Below.heap_setCell _ _ _ _ hj
          have zF : (WS.setCell ⟨tb, 2, none⟩ (.int .i64 L)).heap.size = WS.heap.size := by simp [World.setCell]
          obtain ⟨WA, hWA⟩ : ∃ WA, WA = (WS.setCell ⟨tb, 2, none⟩ (.int .i64 L)).alloc (.cells #[.int .i64 (0 : Int), .bool OK, .int .i64 L] 31) := ⟨_, rfl⟩
          have zF2 : w2.heap.size = (WS.setCell ⟨tb, 2, none⟩ (.int .i64 L)).heap.size := by rw [zF, zS]
          have zA : WA.heap.size = WS.heap.size + 1 := by rw [hWA]; simp [World.setCell]
          have hbA : ∀ j, j < WS.heap.size → j ≠ tb → WA.heap[j]? = WS.heap[j]? := fun j hj hn => by rw [hWA]; exact (((Below.refl _ _).alloc (Nat.le_refl _) _).block j (by rw [zF]; exact hj)).trans (hbF j hn)
          have hBA : ∀ B, B ≤ tb → Below B WS WA := fun B hB => by rw [hWA]; exact ((Below.refl _ _).setCell (p := ⟨tb, 2, none⟩) hB _).alloc (by rw [zF]; omega) _
          have hO5 : OT WA w1.heap.size u8 R := own_step HOS.out (fun j e => hbA j (by have := (HOb.out j e).1; omega) (HOb.out j e).2.2)
          have HBA : Hid (Below w.heap.size w WA) := HBS.out.trans (hBA _ hwt)
          have HRA : Hid (RL WA b sb N (nq N q x) nx2 fs2 g2) := hrS.keep (hbA b (by omega) (by omega)) (hbA sb (by omega) (by omega))
          have x0 : WA.cell? ⟨w2.heap.size, 0, none⟩ = some (.int .i64 (0 : Int)) := by rw [hWA]; exact (World.cell?_alloc_at _ _ _ _ zF2).trans rfl
          have x1 : WA.cell? ⟨w2.heap.size, 1, none⟩ = some (.bool OK) := by rw [hWA]; exact (World.cell?_alloc_at _ _ _ _ zF2).trans rfl
          have x2 : WA.cell? ⟨w2.heap.size, 2, none⟩ = some (.int .i64 L) := by rw [hWA]; exact (World.cell?_alloc_at _ _ _ _ zF2).trans rfl
          clear hr2 hk2 t2 t0 t4 HB2 HO2 HO1 HB1 hcall hR1 hrS HNq hL hkS hBS hbF hbA hBA
          go_wp2_with fail
          rw [← hWS]
          clear hWS
          refine hlen.mono ?_
          rintro e w3 ⟨rfl, hw⟩
          rw [hw]
          clear hw hlen y0 y1 yf hwt hbr
          have HS : Hid (WA.heap.size = w2.heap.size + 1) := by show _ = _; omega
          clear zA zF zF2
          have HWA : Hid (WA = (WS.setCell ⟨tb, 2, none⟩ (.int .i64 L)).alloc (.cells #[.int .i64 (0 : Int), .bool OK, .int .i64 L] 31)) := hWA
          have HO5 : Hid (OT WA w1.heap.size u8 R) := hO5
          have X0 : Hid (WA.cell? ⟨w2.heap.size, 0, none⟩ = some (.int .i64 (0 : Int))) := x0
          have X1 : Hid (WA.cell? ⟨w2.heap.size, 1, none⟩ = some (.bool OK)) := x1
          have X2 : Hid (WA.cell? ⟨w2.heap.size, 2, none⟩ = some (.int .i64 L)) := x2
          clear hWA hO5 x0 x1 x2
          go_wp2_with (at_builtin; rw [← HWA.out]; refine wpList_append_tu rfl (.tmp 42) (.tmp 44) rfl w1.heap.size _ R rfl HO5.out w2.heap.size ⟨(0 : Int), OK, L⟩ rfl X0.out X1.out X2.out (by omega) (by have := HS.out; omega) ?_)
          intro v' w4 o5 g5
          have z5 := g5.gr.size
          have zz := HS.out
          have hgb : ∀ j, j < w1.heap.size → w4.heap[j]? = WA.heap[j]? := fun j hj => g5.gr.block j (by omega) (fun q => by have := (HOb.out j q.symm).2.1; omega)
          have HO6 : Hid (OT w4 w1.heap.size v' (R ++ [⟨(0 : Int), OK, L⟩])) := o5
          have HR6 : Hid (RL w4 b sb N (nq N q x) nx2 fs2 g2) := HRA.out.keep (hgb b zb) (hgb sb zs)
          have HB6 : Hid (Below w.heap.size w w4) := HBA.out.trans (g5.bel (by have := hb1.size; omega) (fun j hj => by have := (HOb.out j hj).2.1; have := hb1.size; omega))
          clear o5 g5 hgb
          go_wp2_with fail
          exact ⟨⟨k + 1, by omega, by go_num, by rw [HT1.out, HK.out]; exact HO6, ⟨nx2, fs2, g2, by rw [HT2.out]; exact HR6⟩, HB6, by omega⟩, by simp [intOf]; omega⟩
        · have hd : decide (0 ≤ x) = false := by simp; omega
          have hcall := Pop_any b sb N nx fs q g W1 hR1
          have HNq : nq N q x = q.tail := by unfold nq; rw [if_neg hx0]
          have HK : Hid (tu N q x = ⟨q.headD 0, decide (0 < q.length), (nq N q x).length⟩) := by show _ = _; unfold tu; rw [if_neg hx0, if_neg hx0]
          have hwt : w.heap.size ≤ tb := by have := hbr.out.size; omega
          have hnl : (nq N q x).length ≤ N := nq_le hql x
          go_wp2_with fail
          rw [← hW1, ← htb]
          rw [← htb] at zbr zsr hnb hzr
          clear htb hW1
          refine hcall.mono ?_
          rintro e w2 ⟨rfl, ⟨nx2, fs2, g2, hr2⟩, hk2⟩
          rw [← HNq] at hr2
          have t2 := World.rowIs.of_block t0 (hk2.k tb (by omega) (by omega) (by omega))
          have HB2 : Hid (Below w.heap.size w w2) := HB1.out.trans (hk2.b w.heap.size (by rw [HB.out.1]; omega) (by rw [HB.out.2]; exact Nat.le_refl _))
          have HO2 : Hid (OT w2 w1.heap.size u8 R) := HO1.out.step (fun j h1 h2 => hk2.k j h2 (by omega) (by omega))
          have HOb : Hid (∀ j, u8.ownBlock = some j → j < w2.heap.size ∧ w1.heap.size ≤ j ∧ j ≠ tb) := fun j e => ⟨own_lt HO2.out j e, own_block HO2.out j e, HOn.out j e⟩
          have z2 := hk2.z
          obtain ⟨L, hL⟩ : ∃ L, L = (nq N q x).length := ⟨_, rfl⟩
          rw [← hL] at HK hnl
          have HL' : Hid (L = (nq N q x).length) := hL
          generalize decide (0 < q.length) = OK at *
          generalize q.headD 0 = KK at *
          obtain ⟨WS, hWS⟩ : ∃ WS, WS = (w2.setCell ⟨tb, 0, none⟩ (.int .i64 KK)).setCell ⟨tb, 1, none⟩ (.bool OK) := ⟨_, rfl⟩
          have t4 := World.rowIs.set (World.rowIs.set t2 0 (.int .i64 KK)) 1 (.bool OK)
          rw [← hWS] at t4
          have zS : WS.heap.size = w2.heap.size := by rw [hWS]; simp [World.setCell]
          have hkS : ∀ j, j ≠ tb → WS.heap[j]? = w2.heap[j]? := fun j hj => by rw [hWS]; exact (Below.heap_setCell _ _ _ _ hj).trans (Below.heap_setCell _ _ _ _ hj)
          have hBS : ∀ B, B ≤ tb → Below B w2 WS := fun B hB => by rw [hWS]; exact ((Below.refl _ _).setCell (p := ⟨tb, 0, none⟩) hB _).setCell (p := ⟨tb, 1, none⟩) hB _
          have hrS : RL WS b sb N (nq N q x) nx2 fs2 g2 := hr2.keep (hkS b (by omega)) (hkS sb (by omega))
          have HrS : Hid (RL WS b sb N (nq N q x) nx2 fs2 g2) := hrS
          have hlen := Len_any b (L : Int) WS (by rw [hL]; exact hrS.c3)
          have HBS : Hid (Below w.heap.size w WS) := HB2.out.trans (hBS _ hwt)
          have HOS : Hid (OT WS w1.heap.size u8 R) := own_step HO2.out (fun j e => hkS j (HOb.out j e).2.2)
          have y0 : w2.cell? ⟨tb, 0, none⟩ = some (.int .i64 0) := World.rowIs.cell t2 (by decide)
          have y1 : w2.cell? ⟨tb, 1, none⟩ = some (.bool false) := World.rowIs.cell t2 (by decide)
          have yf : ∀ i, w2.frozen? ⟨tb, i, none⟩ = false := fun i => World.rowIs.frozen t2 i
          have s0 : WS.cell? ⟨tb, 0, none⟩ = some (.int .i64 KK) := (World.rowIs.cell t4 (i := 0) (by decide)).trans rfl
          have s1 : WS.cell? ⟨tb, 1, none⟩ = some (.bool OK) := (World.rowIs.cell t4 (i := 1) (by decide)).trans rfl
          have s2 : WS.cell? ⟨tb, 2, none⟩ = some (.int .i64 0) := (World.rowIs.cell t4 (i := 2) (by decide)).trans rfl
          have sf : ∀ i, WS.frozen? ⟨tb, i, none⟩ = false := fun i => World.rowIs.frozen t4 i
          have zt : tb < WS.heap.size := by omega
          have hbF : ∀ j, j ≠ tb → (WS.setCell ⟨tb, 2, none⟩ (.int .i64 L)).heap[j]? = WS.heap[j]? := fun j hj => Below.heap_setCell _ _ _ _ hj
          have zF : (WS.setCell ⟨tb, 2, none⟩ (.int .i64 L)).heap.size = WS.heap.size := by simp [World.setCell]
          obtain ⟨WA, hWA⟩ : ∃ WA, WA = (WS.setCell ⟨tb, 2, none⟩ (.int .i64 L)).alloc (.cells #[.int .i64 KK, .bool OK, .int .i64 L] 31) := ⟨_, rfl⟩
          have zF2 : w2.heap.size = (WS.setCell ⟨tb, 2, none⟩ (.int .i64 L)).heap.size := by rw [zF, zS]
          have zA : WA.heap.size = WS.heap.size + 1 := by rw [hWA]; simp [World.setCell]
          have hbA : ∀ j, j < WS.heap.size → j ≠ tb → WA.heap[j]? = WS.heap[j]? := fun j hj hn => by rw [hWA]; exact (((Below.refl _ _).alloc (Nat.le_refl _) _).block j (by rw [zF]; exact hj)).trans (hbF j hn)
          have hBA : ∀ B, B ≤ tb → Below B WS WA := fun B hB => by rw [hWA]; exact ((Below.refl _ _).setCell (p := ⟨tb, 2, none⟩) hB _).alloc (by rw [zF]; omega) _
          have hO5 : OT WA w1.heap.size u8 R := own_step HOS.out (fun j e => hbA j (by have := (HOb.out j e).1; omega) (HOb.out j e).2.2)
          have HBA : Hid (Below w.heap.size w WA) := HBS.out.trans (hBA _ hwt)
          have HRA : Hid (RL WA b sb N (nq N q x) nx2 fs2 g2) := hrS.keep (hbA b (by omega) (by omega)) (hbA sb (by omega) (by omega))
          have x0 : WA.cell? ⟨w2.heap.size, 0, none⟩ = some (.int .i64 KK) := by rw [hWA]; exact (World.cell?_alloc_at _ _ _ _ zF2).trans rfl
          have x1 : WA.cell? ⟨w2.heap.size, 1, none⟩ = some (.bool OK) := by rw [hWA]; exact (World.cell?_alloc_at _ _ _ _ zF2).trans rfl
          have x2 : WA.cell? ⟨w2.heap.size, 2, none⟩ = some (.int .i64 L) := by rw [hWA]; exact (World.cell?_alloc_at _ _ _ _ zF2).trans rfl
          clear hr2 hk2 t2 t0 t4 HB2 HO2 HO1 HB1 hcall hR1 hrS HNq hL hkS hBS hbF hbA hBA
          go_wp2_with fail
          rw [← hWS]
          clear hWS
          refine hlen.mono ?_
          rintro e w3 ⟨rfl, hw⟩
          rw [hw]
          clear hw hlen y0 y1 yf hwt hbr
          have HS : Hid (WA.heap.size = w2.heap.size + 1) := by show _ = _; omega
          clear zA zF zF2
          have HWA : Hid (WA = (WS.setCell ⟨tb, 2, none⟩ (.int .i64 L)).alloc (.cells #[.int .i64 KK, .bool OK, .int .i64 L] 31)) := hWA
          have HO5 : Hid (OT WA w1.heap.size u8 R) := hO5
          have X0 : Hid (WA.cell? ⟨w2.heap.size, 0, none⟩ = some (.int .i64 KK)) := x0
          have X1 : Hid (WA.cell? ⟨w2.heap.size, 1, none⟩ = some (.bool OK)) := x1
          have X2 : Hid (WA.cell? ⟨w2.heap.size, 2, none⟩ = some (.int .i64 L)) := x2
          clear hWA hO5 x0 x1 x2
          go_wp2_with (at_builtin; rw [← HWA.out]; refine wpList_append_tu rfl (.tmp 42) (.tmp 44) rfl w1.heap.size _ R rfl HO5.out w2.heap.size ⟨KK, OK, L⟩ rfl X0.out X1.out X2.out (by omega) (by have := HS.out; omega) ?_)
          intro v' w4 o5 g5
          have z5 := g5.gr.size
          have zz := HS.out
          have hgb : ∀ j, j < w1.heap.size → w4.heap[j]? = WA.heap[j]? := fun j hj => g5.gr.block j (by omega) (fun q => by have := (HOb.out j q.symm).2.1; omega)
          have HO6 : Hid (OT w4 w1.heap.size v' (R ++ [⟨KK, OK, L⟩])) := o5
          have HR6 : Hid (RL w4 b sb N (nq N q x) nx2 fs2 g2) := HRA.out.keep (hgb b zb) (hgb sb zs)
          have HB6 : Hid (Below w.heap.size w w4) := HBA.out.trans (g5.bel (by have := hb1.size; omega) (fun j hj => by have := (HOb.out j hj).2.1; have := hb1.size; omega))
          clear o5 g5 hgb
          go_wp2_with fail
          exact ⟨⟨k + 1, by omega, by go_num, by rw [HT1.out, HK.out]; exact HO6, ⟨nx2, fs2, g2, by rw [HT2.out]; exact HR6⟩, HB6, by omega⟩, by simp [intOf]; omega⟩
      · obtain rfl : k = m := by omega
        have hf := hO.out
        rw [List.take_of_length_le (by omega)] at hf
        have hd : decide ((k : Int) < (k : Int)) = false := by simp
        have HQ : Hid (RiQ w N l (.returned (.tuple #[u8, .int .i64 0])) wr) := ⟨hbr.out, .inr ⟨N, u8, w1.heap.size, rfl, hN0, hN1, rfl, hb1.size, hf⟩⟩
        clear hf hO hR hbr
        go_wp2_with fail
        go_returns
        exact HQ.out
end Go.Proofs.Ytggbbekgmjkplaa.Rg
