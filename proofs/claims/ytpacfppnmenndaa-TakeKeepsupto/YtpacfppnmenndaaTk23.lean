/- plain.Take. -/
import Derived.Test.YtpacfppnmenndaaTk22
import Derived.Deep.DeepCutAuto
import Derived.BigQuiet
namespace Go.Proofs.Ytpacfppnmenndaa.Tk
open Go.RowKit Go.Maps Go.Sort Go.Proofs.Ytpacfppnmenndaa.Rg
open Go.Proofs.Ytpacfppnmenndaa.Y (Tn lt okT wr fst cod bfr OkL TL tab tc rows)
set_option linter.unusedVariables false
set_option linter.unusedSimpArgs false

set_option maxRecDepth 20000 in
set_option maxHeartbeats 8000000 in
theorem zset (W : World) (a : Addr) (v : Value) : (W.setCell a v).heap.size = W.heap.size := by simp [World.setCell]
theorem wrap_64 (z : Int) : wrap64 z = IntKind.i64.wrap z := by rw [IntKind.wrap_i64]; unfold wrap64; omega
theorem wp_pi {pi : Nat} (h : pi ≤ 1048576) : wrap64 ((pi : Int) + 1 - 1) = pi ∧ wrap64 (pi : Int) = pi ∧ IntKind.i64.wrap ((pi : Int) + 1 - 1) = pi ∧ IntKind.i64.wrap (pi : Int) = pi := by
  have h1 : IntKind.i64.wrap (pi : Int) = pi := wid (by omega) (by omega)
  rw [wrap_64, wrap_64, show (pi : Int) + 1 - 1 = pi by omega]
  exact ⟨h1, h1, h1, h1⟩
theorem RX.newS {w0 ww : World} {base tb db wb cap sb xb : Nat} {wo : Option Addr} {v : Value} {x : Sp} {f : Nat → Value} {s : Ta} {k : Dk} {R : List Tk} (h : RX w0 ww base tb db wb wo cap v sb xb x f s k R) : ∀ b, ww.heap.size ≤ b → Sx tb db wb v xb b := fun b hb => by
  have h1 := h.t.lt
  have h2 := h.d.ld
  have h3 := h.n2.2.2.1
  have h4 := h.xl
  refine ⟨by omega, by omega, by omega, fun he => ?_, by omega⟩
  have := (h.o.lt b he.symm).2
  omega
theorem OR.form {w : World} {S : Nat → Prop} {base : Nat} {v : Value} {R : List Tk} (h : OR w S base v R) : ∃ ao c, v = .slice ao R.length c := by
  obtain ⟨Vs, h1, _⟩ := h.ex
  rcases h1.2 with ⟨rfl, e⟩ | ⟨g, cap, cur, rfl, _⟩
  · exact ⟨none, 0, by rw [e]⟩
  · exact ⟨_, _, rfl⟩
theorem wrap_in (z : Int) : -9223372036854775808 ≤ IntKind.i64.wrap z ∧ IntKind.i64.wrap z ≤ 9223372036854775807 := by
  rw [IntKind.wrap_i64]; omega
set_option maxRecDepth 20000 in
set_option maxHeartbeats 8000000 in
theorem Take_any (ws : List Int) (wa la : Option Addr) (n wc m mc : Nat) (l : List Sp) (w : World) (hW : IL w (fun b => b < w.heap.size) wa ws) (hn : ws.length = n) (hc : n ≤ wc) (hcn : wa = none → wc = 0) (hL : SCL w la l) (hm : l.length = m) (hmc : m ≤ mc) (hmm : mc ≤ 9223372036854775807) (hn20 : n ≤ 1048576) (hm20 : m ≤ 1048576) :
    Calls Try.prog 7 #[.slice wa n wc, .slice la m mc] w fun e w' => TaQ w ws l e w' := by
  obtain ⟨W0, hW0⟩ : ∃ X, X = w.alloc (.cells #[] 2) := ⟨_, rfl⟩
  have hO0 : W0.ownsRow w.heap.size 2 1 (.slice (some ⟨w.heap.size, 0, none⟩) 0 0) 0 (ints []) := by rw [hW0]; exact own_new_w w
  have hb0 : Below w.heap.size w W0 := by rw [hW0]; exact (Below.refl _ _).alloc (Nat.le_refl _) _
  have z0 : W0.heap.size = w.heap.size + 1 := by rw [hW0]; simp
  have hW1 : IL W0 (fun b => b < w.heap.size) wa ws := hW.keep (fun b hb _ => hb0.block b hb) hb0.size (fun _ h _ => h)
  have HO0 : Hid (W0.ownsRow w.heap.size 2 1 (.slice (some ⟨w.heap.size, 0, none⟩) 0 0) 0 (ints [])) := hO0
  have HW1 : Hid (IL W0 (fun b => b < w.heap.size) wa ws) := hW1
  have HB0 : Hid (Below w.heap.size w W0) := hb0
  have HZ0 : Hid (W0.heap.size = w.heap.size + 1) := z0
  have HL : Hid (SCL w la l) := hL
  have Hn : Hid (ws.length = n) := hn
  have Hm : Hid (l.length = m) := hm
  clear hW hO0 hW1 hb0 z0 hL hn hm
  obtain ⟨Q, hQ⟩ : ∃ Q, Q = TaQ w ws l := ⟨_, rfl⟩
  rw [← hQ]
  have HQ : Hid (Q = TaQ w ws l) := hQ
  clear hQ
  go_enter Try.func7, Try.ntmps7
  go_wp2_with (at_builtin; rw [← hW0]; refine wpList_append_w rfl (.tmp 13) (.tmp 14) rfl w.heap.size _ 0 (ints []) rfl HO0.out (fun b => b < w.heap.size) ws n Hn.out wa wc rfl hc hcn HW1.out (by omega) HB0.out.size ?_)
  intro v1 w1 o1 g1
  rw [← hW0] at g1
  clear hW0
  obtain ⟨wo1, cap1, rfl, o2, o3⟩ := own_form o1
  have hB1 : Below w.heap.size w w1 := HB0.out.trans (g1.bel HB0.out.size (fun k hk => own_block HO0.out k hk))
  have hz1 := g1.gr.size
  obtain ⟨W2, hW2⟩ : ∃ X, X = w1.alloc (.cells #[.slice wo1 n cap1, .int .i64 (-1), .bool false] 52) := ⟨_, rfl⟩
  have hb2 : Below w1.heap.size w1 W2 := by rw [hW2]; exact (Below.refl _ _).alloc (Nat.le_refl _) _
  have z2 : W2.heap.size = w1.heap.size + 1 := by rw [hW2]; simp
  have hD2 : ∃ wb wo cap, DB W2 w1.heap.size wb wo cap ws (-1) ∧ w.heap.size ≤ wb ∧ wb < W2.heap.size ∧ wb ≠ w1.heap.size := by
    have ho : W2.ownsRow w.heap.size 2 1 (.slice wo1 n cap1) n (ints ws) := by
      refine own_step ?_ (fun k hk => hb2.block k (own_lt o1 k hk))
      exact o1
    exact DB.own ho Hn.out (by omega) (fun j hj => by have := own_lt o1 j hj; omega) (by rw [hW2]; simp [go_sem]) (by rw [hW2]; simp [go_sem]) (by rw [hW2]; simp [go_sem]) (fun i => by rw [hW2]; simp [go_sem]) w.heap.size ⟨Nat.le_refl _, by have := hB1.size; omega, by have := HZ0.out; omega⟩
  obtain ⟨wb, wo, cap, hD, hwb1, hwb2, hwb3⟩ := hD2
  have hOp := Open_any w1.heap.size wb cap wo ws (-1) W2 hD (by rw [Hn.out]; omega)
  have HD2 : Hid (DB W2 w1.heap.size wb wo cap ws (-1)) := hD
  have HB2 : Hid (Below w.heap.size w W2) := hB1.trans (hb2.mono hB1.size)
  have hz1w : w.heap.size ≤ w1.heap.size := hB1.size
  clear hD o1 g1 hB1 hb2 o2 o3
  go_wp2_with fail
  rw [← hW2]
  clear hW2
  refine hOp.mono ?_
  rintro x w3 ⟨rfl, ht3, hb3⟩
  have z3 := hb3.size
  have HR3 : Hid (RB w w3 w3.heap.size W2.heap.size w1.heap.size wb wo cap (.slice none 0 0) (new ws) ⟨ws, -1⟩ []) := by
    refine ⟨ht3.keep rfl (fun _ _ _ => rfl) (Nat.le_refl _) (fun b hb hl => ?_), HD2.out.bel hb3, OR.nil _ _ _, HB2.out.trans (hb3.mono HB2.out.size), ⟨HB2.out.size, hz1w, hwb1, by have := HB2.out.size; omega, Nat.le_refl _⟩, ⟨by omega, by omega, by omega, hwb3⟩, fun j hj => by simp [Value.ownBlock] at hj, ⟨by show (-9223372036854775808 : Int) ≤ -1; omega, by show (-1 : Int) ≤ 9223372036854775807; omega⟩, by show ws.length ≤ _; rw [Hn.out]; omega⟩
    have hb' : W2.heap.size < b := hb
    exact ⟨by omega, by omega, by omega, fun h => by simp [Value.ownBlock] at h, by omega⟩
  obtain ⟨db, hdb⟩ : ∃ db, db = w1.heap.size := ⟨_, rfl⟩
  obtain ⟨tb0, htb0⟩ : ∃ tb0, tb0 = W2.heap.size := ⟨_, rfl⟩
  rw [← hdb, ← htb0] at HR3
  rw [← hdb, ← htb0]
  obtain ⟨base, hbase⟩ : ∃ base, base = w3.heap.size := ⟨_, rfl⟩
  rw [← hbase] at HR3
  have HL3 : Hid (∀ W, Below w.heap.size w W → SCL W la l) := fun W hW => HL.out.bel hW
  clear hOp ht3 hb3 HD2 HB2 hbase hdb htb0 hwb1 hwb2 hwb3 z3 z2 hz1 hz1w HO0 HW1 HB0 HZ0
  go_wp2_with fail
  go_loopw [23, 9, 8] (fun i v t ww => ∃ (k tb : Nat) (va : Option Addr) (vn vc : Nat), k ≤ m ∧ i = .int .i64 k ∧ v = .slice va vn vc ∧ t = .pointer (some ⟨tb, 0, none⟩) ∧ Hid (RB w ww base tb db wb wo cap (.slice va vn vc) (rst (new ws, ⟨ws, -1⟩) (l.take k)).1 (rst (new ws, ⟨ws, -1⟩) (l.take k)).2 (ros (new ws, ⟨ws, -1⟩) (l.take k)))) (fun i _ _ _ => m - (intOf i).toNat)
  case atStart => exact ⟨0, tb0, none, 0, 0, by omega, rfl, rfl, rfl, HR3.out⟩
  case round =>
    obtain ⟨k, tb, va, vn, vc, hk, rfl, rfl, rfl, hR⟩ := hrel
    by_cases hlt : k < m
    · obtain ⟨x, hx⟩ : ∃ x, l[k]? = some x := ⟨_, List.getElem?_eq_getElem (by rw [Hm.out]; exact hlt)⟩
      have hlt' : (k : Int) < (m : Int) := by omega
      have wk : IntKind.i64.wrap ((k : Int) + 1) = (k : Int) + 1 := wid (by omega) (by omega)
      obtain ⟨lb, off, rfl, q, c0, c1, c2, c3, c4, c5, c6, c7, c8, c9, c10⟩ := (HL3.out wr hR.out.b).at' k x hx
      have HX : Hid (l[k]? = some x) := hx
      obtain ⟨W4, hW4⟩ : ∃ X, X = (wr.alloc (.cells #[.bool x.op, .int .i64 x.e.k, .int .i64 x.e.n, .int .i64 x.e.t.t, .int .i64 x.e.t.g, .int .i64 x.e.t.l, .int .i64 x.e.t.a, .int .i64 x.e.t.o, .int .i64 x.pw, .int .i64 x.pk, .int .i64 x.wd] 44)).alloc (.cells #[.int .i64 0, .int .i64 0, .slice none 0 0] 32) := ⟨_, rfl⟩
      have hb4 : Below wr.heap.size wr W4 := by rw [hW4]; exact ((Below.refl _ _).alloc (Nat.le_refl _) _).alloc (by simp) _
      have hi4 : SI W4 wr.heap.size x := by
        refine ⟨?_, ?_, ?_, ?_, ?_, ?_, ?_, ?_, ?_, ?_, ?_, ?_⟩ <;> (rw [hW4]; simp [go_sem])
      have hy4 : W4.rowIs (wr.heap.size + 1) 32 3 (fun i => if i = 2 then .slice none 0 0 else .int .i64 0) := by
        have := World.rowIs_alloc (wr.alloc (.cells #[.bool x.op, .int .i64 x.e.k, .int .i64 x.e.n, .int .i64 x.e.t.t, .int .i64 x.e.t.g, .int .i64 x.e.t.l, .int .i64 x.e.t.a, .int .i64 x.e.t.o, .int .i64 x.pw, .int .i64 x.pk, .int .i64 x.wd] 44)) #[.int .i64 0, .int .i64 0, .slice none 0 0] 32 (fun i => if i = 2 then .slice none 0 0 else .int .i64 0) (fun i hi => by
          match i, hi with
          | 0, _ | 1, _ | 2, _ => rfl
          | i + 3, hi => exact absurd hi (by show ¬ (i + 3 < 3); omega))
        rw [← hW4] at this
        simpa using this
      have HRX : Hid (RX w W4 base tb db wb wo cap (.slice va vn vc) wr.heap.size (wr.heap.size + 1) x (fun i => if i = 2 then .slice none 0 0 else .int .i64 0) (rst (new ws, ⟨ws, -1⟩) (l.take k)).1 (rst (new ws, ⟨ws, -1⟩) (l.take k)).2 (ros (new ws, ⟨ws, -1⟩) (l.take k))) := hR.out.enter hb4 wr.heap.size (wr.heap.size + 1) (Nat.le_refl _) (by omega) (by omega) hi4 hy4
      have hp0 := HRX.out.i
      obtain ⟨s0, k0, hs0⟩ : ∃ s0 k0, rst (new ws, ⟨ws, -1⟩) (l.take k) = (s0, k0) := ⟨_, _, rfl⟩
      obtain ⟨R0, hR0⟩ : ∃ R0, R0 = ros (new ws, ⟨ws, -1⟩) (l.take k) := ⟨_, rfl⟩
      rw [hs0, ← hR0] at HRX
      have HS0 : Hid (rst (new ws, ⟨ws, -1⟩) (l.take k) = (s0, k0) ∧ R0 = ros (new ws, ⟨ws, -1⟩) (l.take k)) := ⟨hs0, hR0⟩
      have HbZ : Hid (base ≤ W4.heap.size) := Nat.le_trans hR.out.n1.2.2.2.2 hb4.size
      clear hs0 hR0 hb4 hi4 hy4 hR hp0
      have d1 := HRX.out.d.c1
      have d9 := HRX.out.d.fd 1
      have i8 := HRX.out.i.c8
      go_upto_if 29 with fail
      rw [← hW4]
      obtain ⟨sb, hsb⟩ : ∃ sb, sb = wr.heap.size := ⟨_, rfl⟩
      obtain ⟨xb, hxb⟩ : ∃ xb, xb = wr.heap.size + 1 := ⟨_, rfl⟩
      rw [← hxb] at HRX
      rw [← hxb]
      rw [← hsb] at HRX
      rw [← hsb]
      rw [← hsb] at i8
      clear hW4 hsb hxb c0 c1 c2 c3 c4 c5 c6 c7 c8 c9 c10 q
      obtain ⟨f0, hf0⟩ : ∃ f0 : Nat → Value, f0 = (fun i => if i = 2 then .slice none 0 0 else .int .i64 0) := ⟨_, rfl⟩
      rw [← hf0] at HRX
      have HF0 : Hid (f0 0 = .int .i64 0 ∧ f0 1 = .int .i64 0 ∧ f0 2 = .slice none 0 0) := by rw [hf0]; exact ⟨rfl, rfl, rfl⟩
      clear hf0
      go_cut [8] (fun t wx => t = .pointer (some ⟨tb, 0, none⟩) ∧ base ≤ wx.heap.size ∧ RX w wx base tb db wb wo cap (.slice va vn vc) sb xb x f0 s0 (dk1 k0 x) R0)
      case first =>
        by_cases hp : x.pw = 0
        · have hb : (x.pw != 0) = false := by simp [hp]
          have e1 : dk1 k0 x = k0 := by unfold dk1; rw [if_neg (fun h => h hp)]
          have HE1 : Hid (dk1 k0 x = k0) := e1
          clear e1
          go_wp2_with fail
          go_meet
          case rel => exact ⟨rfl, HbZ.out, by rw [HE1.out]; exact HRX.out⟩
        · have hb : (x.pw != 0) = true := by simp [hp]
          have HE1 : Hid (dk1 k0 x = ⟨k0.ws, IntKind.i64.wrap (x.pw - 1)⟩) := by show dk1 k0 x = _; unfold dk1; rw [if_pos hp]
          go_wp2_with fail
          go_meet
          case rel => exact ⟨rfl, by rw [zset]; exact HbZ.out, by rw [HE1.out, wrap_64]; exact HRX.out.left (IntKind.i64.wrap (x.pw - 1)) (wrap_in _)⟩
      case rest =>
        obtain ⟨rfl, hz1, hX1⟩ := hcut
        have HZ1 : Hid (base ≤ wc.heap.size) := hz1
        obtain ⟨k1, hk1⟩ : ∃ k1, k1 = dk1 k0 x := ⟨_, rfl⟩
        rw [← hk1] at hX1
        have HX1 : Hid (RX w wc base tb db wb wo cap (.slice va vn vc) sb xb x f0 s0 k1 R0) := hX1
        have HK1 : Hid (k1 = dk1 k0 x) := hk1
        clear hk1 hX1 hz1 HRX HbZ d1 d9 i8
        have i3 := HX1.out.i.c9
        have i4 := HX1.out.i.c10
        have d0 := HX1.out.d.c0
        have hwl := HX1.out.wl
        go_upto_region 10 with fail
        go_cut [48] (fun c wx => c = .bool (decide (0 < x.pk ∧ x.pk ≤ k1.ws.length)) ∧ base ≤ wx.heap.size ∧ RX w wx base tb db wb wo cap (.slice va vn vc) sb xb x f0 s0 k1 R0)
        case first =>
          by_cases hp : 0 < x.pk
          · have hd : decide (0 < x.pk) = true := decide_eq_true hp
            have hd2 : decide (x.pk > 0) = true := decide_eq_true hp
            go_quiet (fail)
            go_wp2
            go_meet
            case rel => exact ⟨by simp [hp], HZ1.out, HX1.out.bel ⟨rfl, rfl, rfl, Nat.le_refl _, fun _ _ => rfl⟩⟩
          · have hd : decide (0 < x.pk) = false := decide_eq_false hp
            have hd2 : decide (x.pk > 0) = false := decide_eq_false hp
            go_quiet (fail)
            go_wp2
            go_meet
            case rel => exact ⟨congrArg Value.bool (decide_eq_false (fun h => absurd h.1 (by omega))).symm, HZ1.out, HX1.out.bel ⟨rfl, rfl, rfl, Nat.le_refl _, fun _ _ => rfl⟩⟩
        case rest =>
          obtain ⟨rfl, hz2, hX2⟩ := hcut
          have HZ2 : Hid (base ≤ wc.heap.size) := hz2
          have HX2 : Hid (RX w wc base tb db wb wo cap (.slice va vn vc) sb xb x f0 s0 k1 R0) := hX2
          clear hX2 hz2 HX1 HZ1 i3 i4 d0
          go_upto_if 48 with fail
          go_cut [8] (fun t wx => t = .pointer (some ⟨tb, 0, none⟩) ∧ base ≤ wx.heap.size ∧ RX w wx base tb db wb wo cap (.slice va vn vc) sb xb x f0 s0 (dk2 k1 x) R0)
          case first =>
            by_cases hp : 0 < x.pk ∧ x.pk ≤ k1.ws.length
            · have hb : decide (0 < x.pk ∧ x.pk ≤ k1.ws.length) = true := decide_eq_true hp
              have HP : Hid (0 < x.pk ∧ x.pk ≤ k1.ws.length) := hp
              have HE2 : Hid (dk2 k1 x = ⟨k1.ws.set (x.pk - 1).toNat x.wd, k1.lf⟩) := by show dk2 k1 x = _; unfold dk2; rw [if_pos hp]
              obtain ⟨pi, hpi⟩ : ∃ pi : Nat, x.pk = (pi : Int) + 1 := ⟨(x.pk - 1).toNat, by omega⟩
              have hpl : pi < k1.ws.length := by omega
              have i3 := HX2.out.i.c9
              have i4 := HX2.out.i.c10
              have d0 := HX2.out.d.c0
              have d9 := HX2.out.d.wf pi hpl
              obtain ⟨ov, d8⟩ : ∃ ov : Int, wc.cell? ⟨wb, pi, none⟩ = some (.int .i64 ov) := ⟨_, HX2.out.d.wc pi _ (List.getElem?_eq_getElem hpl)⟩
              obtain ⟨e0, hwl2, hwn⟩ := HX2.out.d.lw (by omega)
              rw [e0] at d0
              have hm1 := HX2.out.d.m1
              have wp1 : IntKind.i64.wrap (x.pk - 1) = (pi : Int) := by rw [hpi]; exact (wp_pi (pi := pi) (by omega)).2.2.1
              have hpl2 : (pi : Int) < (k1.ws.length : Int) := by omega
              rw [hb]
              have hset : (x.pk - 1).toNat = pi := by omega
              rw [hset] at HE2
              clear hp hb e0 hset hpi
              go_wp2
              refine U2.wp_region_tail_read 10 (by decide) (by kernel_rfl) (by kernel_rfl) (by kernel_rfl) (by kernel_rfl) ?_
              dsimp only [List.take, List.drop]
              repeat (quiet_step (fail))
              refine wpQuiet_nil ?_
              rintro w5 ⟨nq, rfl⟩
              have HX5 : Hid (RX w (wc.drewN nq) base tb db wb wo cap (.slice va vn vc) sb xb x f0 s0 k1 R0) := HX2.out.bel ⟨rfl, rfl, rfl, Nat.le_refl _, fun _ _ => rfl⟩
              have d9' : (wc.drewN nq).frozen? ⟨wb, pi, none⟩ = false := d9
              have d8' : (wc.drewN nq).cell? ⟨wb, pi, none⟩ = some (.int .i64 ov) := d8
              go_wp2_with fail
              go_meet
              case rel => exact ⟨rfl, by rw [zset]; exact HZ2.out, by rw [HE2.out]; exact HX5.out.poke pi hpl x.wd⟩
            · have hb : decide (0 < x.pk ∧ x.pk ≤ k1.ws.length) = false := decide_eq_false hp
              have HE2 : Hid (dk2 k1 x = k1) := by show dk2 k1 x = _; unfold dk2; rw [if_neg hp]
              rw [hb]
              clear hp hb
              go_wp2_with fail
              go_meet
              case rel => exact ⟨rfl, HZ2.out, by rw [HE2.out]; exact HX2.out⟩
          case rest =>
            obtain ⟨rfl, hz3, hX3⟩ := hcut
            have HZ3 : Hid (base ≤ wc.heap.size) := hz3
            obtain ⟨k2, hk2⟩ : ∃ k2, k2 = dk2 k1 x := ⟨_, rfl⟩
            rw [← hk2] at hX3
            have HX3 : Hid (RX w wc base tb db wb wo cap (.slice va vn vc) sb xb x f0 s0 k2 R0) := hX3
            have HK2 : Hid (k2 = dk2 k1 x) := hk2
            clear hk2 hX3 hz3 HX2 HZ2 hwl
            have i0 := HX3.out.i.c0
            go_upto_if 60 with fail
            go_cut [8] (fun t wx => ∃ tb', t = .pointer (some ⟨tb', 0, none⟩) ∧ base ≤ wx.heap.size ∧ RX w wx base tb' db wb wo cap (.slice va vn vc) sb xb x f0 (op1 s0 k2.ws x) k2 R0)
            case first =>
              clear i0
              have hOp := Open_any db wb cap wo k2.ws k2.lf wc HX3.out.d HX3.out.wl
              cases ho : x.op
              · have HE3 : Hid (op1 s0 k2.ws x = s0) := by show op1 s0 k2.ws x = _; unfold op1; rw [if_neg (by rw [ho]; decide)]
                clear ho
                go_wp2_with fail
                go_meet
                case rel => exact ⟨tb, rfl, HZ3.out, by rw [HE3.out]; exact HX3.out⟩
              · have HE3 : Hid (op1 s0 k2.ws x = new k2.ws) := by show op1 s0 k2.ws x = _; unfold op1; rw [if_pos ho]; rfl
                clear ho
                go_wp2_with fail
                refine hOp.mono ?_
                rintro y w5 hq
                obtain rfl := hq.e
                have HQ5 : Hid (OpQ wc db k2.ws (.returned (.pointer (some ⟨wc.heap.size, 0, none⟩))) w5) := hq
                clear hOp hq
                go_wp2_with fail
                go_meet
                case rel => exact ⟨_, rfl, Nat.le_trans HZ3.out HQ5.out.b.size, by rw [HE3.out]; exact HX3.out.opened HQ5.out⟩
            case rest =>
              obtain ⟨tc, rfl, hz4, hX4⟩ := hcut
              have HZ4 : Hid (base ≤ wc.heap.size) := hz4
              obtain ⟨s1, hs1⟩ : ∃ s1, s1 = op1 s0 k2.ws x := ⟨_, rfl⟩
              rw [← hs1] at hX4
              have HX4 : Hid (RX w wc base tc db wb wo cap (.slice va vn vc) sb xb x f0 s1 k2 R0) := hX4
              have HS1 : Hid (s1 = op1 s0 k2.ws x) := hs1
              clear hs1 hX4 hz4 HX3 HZ3 i0
              have i1 := HX4.out.i.c1
              go_upto_region 14 with fail
              go_cut [71] (fun c wx => c = .bool (x.e.k != 0) ∧ wx = wc)
              case first =>
                by_cases hk0 : x.e.k = 0
                · have hd : (x.e.k != 0) = false := by simp [hk0]
                  go_wp2_with fail
                  go_meet
                  case rel => exact ⟨by rw [hd], rfl⟩
                · have hd : (x.e.k != 0) = true := by simp [hk0]
                  go_wp2_with fail
                  go_meet
                  case rel => exact ⟨by rw [hd], rfl⟩
              case rest =>
                obtain ⟨rfl, rfl⟩ := hcut
                clear i1
                go_upto_if 71 with fail
                go_cut [8] (fun t wx => t = .pointer (some ⟨tc, 0, none⟩) ∧ ∃ f1 : Nat → Value, (f1 0 = .int .i64 (ed1 s1 k2 x).1 ∧ f1 1 = .int .i64 0 ∧ f1 2 = .slice none 0 0) ∧ base ≤ wx.heap.size ∧ RX w wx base tc db wb wo cap (.slice va vn vc) sb xb x f1 (ed1 s1 k2 x).2.1 (ed1 s1 k2 x).2.2 R0)
                case first =>
                  have hDo := Do_any (Sx tc db wb (.slice va vn vc) xb) tc db wb cap wo k2.ws k2.lf s1 x.e _ HX4.out.t HX4.out.d HX4.out.wl HX4.out.lf (fun b hb => ⟨hb.1, hb.2.1, hb.2.2.1⟩) HX4.out.newS ⟨HX4.out.n2.1, HX4.out.n2.2.1⟩ HX4.out.n2.2.2.1
                  by_cases hk0 : x.e.k = 0
                  · have hd : (x.e.k != 0) = false := by simp [hk0]
                    have HE4 : Hid (ed1 s1 k2 x = (0, s1, k2)) := by show ed1 s1 k2 x = _; unfold ed1; rw [if_neg (fun h => h hk0)]
                    clear hk0 hDo
                    go_wp2_with fail
                    go_meet
                    case rel => exact ⟨rfl, f0, by rw [HE4.out]; exact HF0.out, HZ4.out, by rw [HE4.out]; exact HX4.out⟩
                  · have hd : (x.e.k != 0) = true := by simp [hk0]
                    have HE4 : Hid (ed1 s1 k2 x = doe s1 k2 x.e) := by show ed1 s1 k2 x = _; unfold ed1; rw [if_pos hk0]
                    clear hk0
                    have i1 := HX4.out.i.c1
                    have i2 := HX4.out.i.c2
                    have i3 := HX4.out.i.c3
                    have i4 := HX4.out.i.c4
                    have i5 := HX4.out.i.c5
                    have i6 := HX4.out.i.c6
                    have i7 := HX4.out.i.c7
                    go_wp2_with fail
                    refine hDo.mono ?_
                    rintro y w5 hq
                    obtain rfl := hq.e
                    have hX5 := HX4.out.done hq
                    have hz5 := hq.k.z
                    have y0 := World.rowIs.cell hX5.y (i := 0) (by omega)
                    have y1 := World.rowIs.frozen hX5.y 0
                    rw [HF0.out.1] at y0
                    have HX5 : Hid (RX w w5 base tc db wb wo cap (.slice va vn vc) sb xb x f0 (doe s1 k2 x.e).2.1 (doe s1 k2 x.e).2.2 R0) := hX5
                    have HZ5 : Hid (base ≤ w5.heap.size) := Nat.le_trans HZ4.out hz5
                    clear hX5 hz5 hq hDo i1 i2 i3 i4 i5 i6 i7
                    go_wp2_with fail
                    go_meet
                    case rel =>
                      refine ⟨rfl, (fun j => if j = 0 then .int .i64 (doe s1 k2 x.e).1 else f0 j), ?_, ?_, ?_⟩
                      · rw [HE4.out]; exact ⟨rfl, HF0.out.2.1, HF0.out.2.2⟩
                      · rw [zset]; exact HZ5.out
                      · rw [HE4.out]; exact HX5.out.out 0 _
                case rest =>
                  obtain ⟨rfl, f1, hf1, hz5, hX5⟩ := hcut
                  obtain ⟨E, hE⟩ : ∃ E, E = ed1 s1 k2 x := ⟨_, rfl⟩
                  rw [← hE] at hX5 hf1
                  have HZ5 : Hid (base ≤ wc.heap.size) := hz5
                  have HX5 : Hid (RX w wc base tc db wb wo cap (.slice va vn vc) sb xb x f1 E.2.1 E.2.2 R0) := hX5
                  have HF1 : Hid (f1 0 = .int .i64 E.1 ∧ f1 1 = .int .i64 0 ∧ f1 2 = .slice none 0 0) := hf1
                  have HE : Hid (E = ed1 s1 k2 x) := hE
                  clear hE hX5 hf1 hz5 HX4 HZ4 HF0
                  have hTo := tones_any (Sx tc db wb (.slice va vn vc) xb) tc db E.2.1 _ HX5.out.t
                  obtain ⟨L, hL⟩ : ∃ L, L = (if E.2.1.br = true then [] else E.2.1.h.line) := ⟨_, rfl⟩
                  obtain ⟨z, hz⟩ : ∃ z : Int, z = (if E.2.1.br = true then 9 else 0) := ⟨_, rfl⟩
                  rw [← hL, ← hz] at hTo
                  have HLz : Hid (L = (if E.2.1.br = true then [] else E.2.1.h.line) ∧ z = (if E.2.1.br = true then 9 else 0)) := ⟨hL, hz⟩
                  clear hL hz
                  go_wp2_with fail
                  refine hTo.mono ?_
                  rintro y w6 hq
                  obtain ⟨ao, c, rfl, hc1, hc2, hc3, hLN⟩ := hq.o
                  have hX6 := HX5.out.bel hq.b
                  have hLN6 := hLN.keep (S' := Sx tc db wb (.slice va vn vc) xb) (fun _ _ _ => rfl) (Nat.le_refl _) (fun b hb _ => HX5.out.newS b hb)
                  have y0 := World.rowIs.cell hX6.y (i := 0) (by omega)
                  have y1 := World.rowIs.cell hX6.y (i := 1) (by omega)
                  have y2 := World.rowIs.cell hX6.y (i := 2) (by omega)
                  have yf1 := World.rowIs.frozen hX6.y 1
                  have yf2 := World.rowIs.frozen hX6.y 2
                  rw [HF1.out.1] at y0
                  rw [HF1.out.2.1] at y1
                  rw [HF1.out.2.2] at y2
                  have HX6 : Hid (RX w w6 base tc db wb wo cap (.slice va vn vc) sb xb x f1 E.2.1 E.2.2 R0) := hX6
                  have HZ6 : Hid (base ≤ w6.heap.size) := Nat.le_trans HZ5.out hq.b.size
                  have HLN : Hid (LN w6 (Sx tc db wb (.slice va vn vc) xb) ao L ∧ L.length ≤ c ∧ c ≤ 9223372036854775807 ∧ (ao = none → c = 0)) := ⟨hLN6, hc1, hc2, hc3⟩
                  clear hX6 hLN hLN6 hq hTo hc1 hc2 hc3 HX5 HZ5
                  generalize hlen : L.length = ln
                  have Hlen : Hid (L.length = ln) := hlen
                  clear hlen
                  obtain ⟨W7, hW7⟩ : ∃ X, X = (((w6.setCell ⟨xb, 2, none⟩ (.slice ao ln c)).setCell ⟨xb, 1, none⟩ (.int .i64 z)).alloc (.cells #[.int .i64 E.1, .int .i64 z, .slice ao ln c] 32)) := ⟨_, rfl⟩
                  have hbp : Below ((w6.setCell ⟨xb, 2, none⟩ (.slice ao ln c)).setCell ⟨xb, 1, none⟩ (.int .i64 z)).heap.size ((w6.setCell ⟨xb, 2, none⟩ (.slice ao ln c)).setCell ⟨xb, 1, none⟩ (.int .i64 z)) W7 := by rw [hW7]; exact (Below.refl _ _).alloc (Nat.le_refl _) _
                  have hX7 := ((HX6.out.out 2 (.slice ao ln c)).out 1 (.int .i64 z)).bel hbp
                  obtain ⟨f7, hX7⟩ : ∃ f7, RX w W7 base tc db wb wo cap (.slice va vn vc) sb xb x f7 E.2.1 E.2.2 R0 := ⟨_, hX7⟩
                  have HX7 : Hid (RX w W7 base tc db wb wo cap (.slice va vn vc) sb xb x f7 E.2.1 E.2.2 R0) := hX7
                  have z7 : W7.heap.size = w6.heap.size + 1 := by rw [hW7]; simp [World.setCell]
                  have Z7 : Hid (W7.heap.size = w6.heap.size + 1) := z7
                  have HZ7 : Hid (base ≤ W7.heap.size) := by show base ≤ W7.heap.size; have := HZ6.out; omega
                  have g0 : W7.cell? ⟨w6.heap.size, 0, none⟩ = some (.int .i64 E.1) := by rw [hW7]; simp [go_sem]
                  have g1 : W7.cell? ⟨w6.heap.size, 1, none⟩ = some (.int .i64 z) := by rw [hW7]; simp [go_sem]
                  have g2 : W7.cell? ⟨w6.heap.size, 2, none⟩ = some (.slice ao L.length c) := by rw [hW7, Hlen.out]; simp [go_sem]
                  have hL7 : LN W7 (Sx tc db wb (.slice va vn vc) xb) ao L := HLN.out.1.keep (fun b hb hl => by
                    have h1 : W7.heap[b]? = ((w6.setCell ⟨xb, 2, none⟩ (.slice ao ln c)).setCell ⟨xb, 1, none⟩ (.int .i64 z)).heap[b]? := hbp.block b (by rw [zset, zset]; exact hl)
                    exact h1.trans ((Below.heap_setCell _ _ _ _ hb.2.2.2.2).trans (Below.heap_setCell _ _ _ _ hb.2.2.2.2))) (by omega) (fun _ h _ => h)
                  have G : Hid ((W7.cell? ⟨w6.heap.size, 0, none⟩ = some (.int .i64 E.1) ∧ W7.cell? ⟨w6.heap.size, 1, none⟩ = some (.int .i64 z) ∧ W7.cell? ⟨w6.heap.size, 2, none⟩ = some (.slice ao L.length c)) ∧ LN W7 (Sx tc db wb (.slice va vn vc) xb) ao L) := ⟨⟨g0, g1, g2⟩, hL7⟩
                  have HR0 : Hid (R0.length ≤ 1048577) := by show R0.length ≤ 1048577; rw [HS0.out.2, ros_len, List.length_take]; omega
                  clear hbp hX7 g0 g1 g2 hL7 z7
                  go_wp2_with (at_builtin; rw [← hW7]; refine wpList_append_tk rfl (.tmp 86) (.tmp 88) rfl (Sx tc db wb (.slice va vn vc) xb) base (.slice va vn vc) R0 rfl HX7.out.o (fun b hb => hb.2.2.2.1) w6.heap.size ⟨E.1, z, L⟩ ao c rfl G.out.1.1 G.out.1.2.1 G.out.1.2.2 HLN.out.2.1 HLN.out.2.2.1 HLN.out.2.2.2 G.out.2 HR0.out HZ7.out ?_)
                  intro v' w8 ho hg
                  obtain ⟨vo, vcap, rfl⟩ := ho.form
                  rw [← hW7] at hg
                  obtain ⟨R1, hR1⟩ : ∃ R1, R1 = R0 ++ [(⟨E.1, z, L⟩ : Tk)] := ⟨_, rfl⟩
                  rw [← hR1] at ho hg
                  rw [← hR1]
                  have HR1 : Hid (R1 = R0 ++ [(⟨E.1, z, L⟩ : Tk)]) := hR1
                  clear hR1
                  generalize R1.length = rn at *
                  rw [← Z7.out] at ho
                  have hRB : RB w w8 base tc db wb wo cap (.slice vo rn vcap) E.2.1 E.2.2 R1 := RX.leave (w0 := w) (ww := W7) (w' := w8) (base := base) (tb := tc) (db := db) (wb := wb) (cap := cap) (sb := sb) (xb := xb) (wo := wo) (v := .slice va vn vc) (v' := .slice vo rn vcap) (x := x) (f := f7) (s := E.2.1) (k := E.2.2) (R := R0) (R' := R1) HX7.out hg HZ7.out ho
                  have HRB : Hid (RB w w8 base tc db wb wo cap (.slice vo rn vcap) E.2.1 E.2.2 R1) := hRB
                  have hS : rst (new ws, ⟨ws, -1⟩) (l.take (k + 1)) = E.2 ∧ ros (new ws, ⟨ws, -1⟩) (l.take (k + 1)) = R1 := by
                    have hst : stp (s0, k0) x = E := by
                      rw [HE.out, HS1.out, HK2.out, HK1.out]; rfl
                    rw [take_one HX.out, rst_app, ros_app, HS0.out.1, hst, ← HS0.out.2]
                    refine ⟨rfl, ?_⟩
                    rw [HR1.out, HLz.out.1, HLz.out.2]; rfl
                  have HS : Hid (rst (new ws, ⟨ws, -1⟩) (l.take (k + 1)) = E.2 ∧ ros (new ws, ⟨ws, -1⟩) (l.take (k + 1)) = R1) := hS
                  clear hS hRB ho hg hW7 G HX6 HX7 HLN HLz
                  go_wp2_with fail
                  go_roundw
                  case rel => exact ⟨k + 1, tc, vo, rn, vcap, by omega, rfl, rfl, rfl, by rw [HS.out.1, HS.out.2]; exact HRB⟩
                  case measure => simp [intOf]; omega
    · obtain rfl : k = m := by omega
      obtain ⟨sE, kE, hsE⟩ : ∃ sE kE, rst (new ws, ⟨ws, -1⟩) l = (sE, kE) := ⟨_, _, rfl⟩
      have htk : l.take k = l := List.take_of_length_le (by rw [Hm.out]; exact Nat.le_refl _)
      rw [htk, hsE] at hR
      have hkl : kE.ws.length = ws.length := by
        have := rst_len (new ws, ⟨ws, -1⟩) l
        rw [hsE] at this; exact this
      have d0 := hR.out.d.c0
      have d2 := hR.out.d.c2
      have dl := hR.out.d.lw
      have dm := hR.out.d.m1
      rw [hkl] at d0 dm dl
      rw [Hn.out] at d0
      have HST : Hid (∀ nq, Q (.returned (.tuple #[.slice va vn vc, .slice wo n cap, .bool true])) (wr.drewN nq)) := fun nq => by
        have hbd : Below wr.heap.size wr (wr.drewN nq) := ⟨rfl, rfl, rfl, Nat.le_refl _, fun _ _ => rfl⟩
        rw [HQ.out]
        refine ⟨hR.out.b.trans (hbd.mono hR.out.b.size), base, .slice va vn vc, wo, cap, by rw [Hn.out], hR.out.n1.2.2.2.1, ?_, dm, hR.out.d.m2, fun i y hi => ?_⟩
        · exact hR.out.o.keep (fun _ _ => rfl) (fun _ _ _ => rfl) (Nat.le_refl _) (fun _ _ _ => trivial)
        · rw [hsE] at hi
          obtain ⟨e1, _, _⟩ := dl (by have h1 : i < kE.ws.length := (List.getElem?_eq_some_iff.1 hi).1; omega)
          exact ⟨wb, e1, hR.out.d.wc i y hi⟩
      clear hsE htk hkl dl dm HL3 HL
      go_wp2_with fail
      go_quiet (fail)
      go_wp2_with fail
      exact HST.out _
end Go.Proofs.Ytpacfppnmenndaa.Tk
