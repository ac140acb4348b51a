/- TakeKeeps: its own text. -/
import Derived.Test.YtpacfppnmenndaaTkSame
import Derived.Deep.DeepCutAuto
import Derived.BigQuiet
namespace Go.Proofs.Ytpacfppnmenndaa.Tk
open Go.RowKit Go.Maps Go.Sort Go.Proofs.Ytpacfppnmenndaa.Rg
open Go.Proofs.Ytpacfppnmenndaa.Y (Tn lt okT wr fst cod bfr OkL TL tab tc rows)
set_option linter.unusedVariables false
set_option linter.unusedSimpArgs false

/-- It answers yes, and all that was there is as it was. -/
def Yes (w : World) (e : Ending) (w' : World) : Prop := e = .returned (.bool true) ∧ Below w.heap.size w w'
/-- What the loop keeps: what was answered OK last is told, as long as the take is not broken. -/
structure KV (w4 : World) (S0 : Ta × Dk) (l : List Sp) (b : Bool) (wl : List Tn) (ao : Option Addr) (wn c : Nat) (ww : World) : Prop where
  fb : Below w4.heap.size w4 ww
  fl : LN ww (fun _ => True) ao wl
  fn : wl.length = wn
  f1 : wn ≤ c
  f2 : c ≤ 9223372036854775807
  fk : ∃ h d, KS (rst S0 l).1 (rst S0 l).2 h d ∧ b = (rst S0 l).1.br ∧ wl = h.line
set_option maxRecDepth 20000 in
set_option maxHeartbeats 4000000 in
theorem keeps_any (room : Int) (la : Option Addr) (m mc : Nat) (l : List Sp) (w : World) (hL : SCL w la l) (hm : l.length = m) (hmc : m ≤ mc) (hmm : mc ≤ 9223372036854775807) (hm20 : m ≤ 1048576) :
    Calls Try.prog 5 #[.int .i64 room, .slice la m mc] w (Yes w) := by
  have HL : Hid (∀ W, Below w.heap.size w W → SCL W la l) := fun W hW => hL.bel hW
  have Hm : Hid (l.length = m) := hm
  have hA := alive_any w
  obtain ⟨Q, hQ⟩ : ∃ Q, Q = Yes w := ⟨_, rfl⟩
  rw [← hQ]
  have HQ : Hid (Q = Yes w) := hQ
  clear hQ hL hm
  go_enter Try.func5, Try.ntmps5
  go_wp2_with fail
  refine hA.mono ?_
  rintro e w1 ⟨rfl, hb1⟩
  have HB1 : Hid (Below w.heap.size w w1) := hb1
  clear hA hb1
  by_cases hr1 : room < 0
  · have d1 : decide (room < 0) = true := decide_eq_true hr1
    have hst : Q (.returned (.bool true)) w1 := by rw [HQ.out]; exact ⟨rfl, HB1.out⟩
    go_wp2_with fail
    exact hst
  by_cases hr2 : 5000 < room
  · have d1 : decide (room < 0) = false := decide_eq_false hr1
    have d2 : decide (room > 5000) = true := decide_eq_true hr2
    have d3 : decide (5000 < room) = true := decide_eq_true hr2
    have hst : Q (.returned (.bool true)) w1 := by rw [HQ.out]; exact ⟨rfl, HB1.out⟩
    go_wp2_with fail
    exact hst
  obtain ⟨n, rfl⟩ : ∃ n : Nat, room = n := ⟨room.toNat, by omega⟩
  have d1 : decide ((n : Int) < 0) = false := decide_eq_false hr1
  have d2 : decide ((n : Int) > 5000) = false := decide_eq_false hr2
  have d3 : decide (5000 < (n : Int)) = false := decide_eq_false hr2
  have hn5 : n ≤ 5000 := by omega
  have hU := unpoked_any la m mc l w1 (HL.out w1 HB1.out) Hm.out hmc hmm hm20
  go_wp2_with fail
  refine hU.mono ?_
  rintro e w2 hu
  obtain ⟨v, rfl, ho⟩ := hu.o
  obtain ⟨ua, uc, rfl, hu1, hu2, hu3, hu4⟩ := ho.form
  have hul : (l.map un).length = m := by rw [List.length_map, Hm.out]
  obtain ⟨P, hP⟩ : ∃ P, P = l.map un := ⟨_, rfl⟩
  rw [← hP] at hu1 hu4 hul
  rw [hul] at hu1
  have hul2 : (List.map un l).length = m := by rw [← hP]; exact hul
  rw [hul2]
  have HB2 : Hid (Below w.heap.size w w2) := HB1.out.trans (hu.b.mono HB1.out.size)
  have HP : Hid (P = l.map un ∧ P.length = m) := ⟨hP, hul⟩
  have HLU : Hid (∀ W, Below w2.heap.size w2 W → SCL W ua P) := fun W hW => hu4.bel hW
  obtain ⟨W3, hW3⟩ : ∃ X, X = w2.alloc (.cells (madeCells #[.int .i64 0] n) 2) := ⟨_, rfl⟩
  have z3 : W3.heap.size = w2.heap.size + 1 := by rw [hW3]; simp
  have hb3 : Below w2.heap.size w2 W3 := by rw [hW3]; exact (Below.refl _ _).alloc (Nat.le_refl _) _
  have hI : IL W3 (fun b => b < W3.heap.size) (some ⟨w2.heap.size, 0, none⟩) (List.replicate n 0) := IL_made n w2 W3 (by rw [← hW3, ← z3]; exact Below.refl _ _)
  have hMk := makeW n (by omega) w2
  rw [← hW3] at hMk
  have HMk : Hid ((Instr.makeSlice 22 (.int .i64 n) (.int .i64 n)).run Try.prog w2 = .ok (.slice (some ⟨w2.heap.size, 0, none⟩) n n) W3) := hMk
  have hTk := Take_any (List.replicate n 0) (some ⟨w2.heap.size, 0, none⟩) ua n n m uc P W3 hI (by simp) (Nat.le_refl _) (fun h => by cases h) (HLU.out W3 hb3) hul hu1 hu2 (by omega) hm20
  have HB3 : Hid (Below w.heap.size w W3 ∧ Below w2.heap.size w2 W3) := ⟨HB2.out.trans (hb3.mono HB2.out.size), hb3⟩
  clear hU hu ho hu4 hul hul2 hP hW3 hb3 hI hMk z3
  go_wp2_with (at_make; refine wpList_make_run _ rfl _ _ 22 rfl _ _ HMk.out ?_)
  refine hTk.mono ?_
  rintro e w4 hq
  obtain ⟨base, v, wo, cap, rfl, hbz, hO, hc1, hc2, hcl⟩ := hq.o
  obtain ⟨sa, sc4, rfl⟩ := hO.form
  have hrl : (ros (new (List.replicate n 0), ⟨List.replicate n 0, -1⟩) P).length = m := by rw [ros_len, HP.out.2]
  rw [hrl]
  have HO : Hid (OR w4 (fun _ => True) base (.slice sa m sc4) (ros (new (List.replicate n 0), ⟨List.replicate n 0, -1⟩) P)) := by
    rw [hrl] at hO; exact hO
  have HB4 : Hid (Below w.heap.size w w4 ∧ Below w2.heap.size w2 w4) := ⟨HB3.out.1.trans (hq.b.mono HB3.out.1.size), HB3.out.2.trans (hq.b.mono HB3.out.2.size)⟩
  have dm : ((m : Int) != (m : Int)) = false := by simp
  clear hTk hq hO hcl hrl HMk hc1 hbz
  go_wp2_with fail
  obtain ⟨S0, hS0⟩ : ∃ S0, S0 = (new (List.replicate n 0), (⟨List.replicate n 0, -1⟩ : Dk)) := ⟨_, rfl⟩
  have HK0 : Hid (KS S0.1 S0.2 ⟨[], 0⟩ 0 ∧ S0.1.br = false) := by rw [hS0]; exact ⟨KS.new n (-1), rfl⟩
  rw [← hS0] at HO
  clear hS0
  go_loopw [43, 9, 10] (fun i wv bv ww => ∃ (k : Nat) (b : Bool) (wl : List Tn) (ao : Option Addr) (wn c : Nat), k ≤ m ∧ i = .int .i64 k ∧ wv = .slice ao wn c ∧ bv = .bool b ∧ Hid (KV w4 S0 (P.take k) b wl ao wn c ww)) (fun i _ _ _ => m - (intOf i).toNat)
  case atStart => exact ⟨0, false, [], none, 0, 0, by omega, rfl, rfl, rfl, ⟨Below.refl _ _, ⟨fun h => absurd h (by simp)⟩, rfl, Nat.le_refl _, by omega, ⟨⟨[], 0⟩, 0, HK0.out.1, HK0.out.2.symm, rfl⟩⟩⟩
  case round =>
    obtain ⟨k, b, wl, ao, wn, c, hk, rfl, rfl, rfl, hR⟩ := hrel
    by_cases hlt : k < m
    · obtain ⟨y, hy⟩ : ∃ y, P[k]? = some y := ⟨_, List.getElem?_eq_getElem (by rw [HP.out.2]; exact hlt)⟩
      have hpk : y.pk = 0 := by
        have h1 := hy
        rw [HP.out.1, List.getElem?_map] at h1
        cases hl : l[k]? with
        | none => rw [hl] at h1; cases h1
        | some x0 => rw [hl] at h1; cases h1; rfl
      have hlt' : (k : Int) < (m : Int) := by omega
      have wk : IntKind.i64.wrap ((k : Int) + 1) = (k : Int) + 1 := wid (by omega) (by omega)
      have hb4 := HB4.out.2.trans (hR.out.fb.mono HB4.out.2.size)
      obtain ⟨lb, off, rfl, q, c0, c1, c2, c3, c4, c5, c6, c7, c8, c9, c10⟩ := (HLU.out wr hb4).at' k y hy
      obtain ⟨h, d, hks, hbr, hwl⟩ := hR.out.fk
      obtain ⟨h', d', kt⟩ := hks.step hpk
      have hrg := ros_get S0 P k y hy
      have hOk := (HO.out.keep (w' := wr) (S' := fun _ => True) (fun q hq => hR.out.fb.block q (HO.out.lt q hq).2) (fun b _ hl => hR.out.fb.block b hl) hR.out.fb.size (fun _ _ _ => trivial))
      have htl := kt.k.tells (stp ((rst S0 (P.take k)).1, (rst S0 (P.take k)).2) y).1
      have hrs : rst S0 (P.take (k + 1)) = (stp (rst S0 (P.take k)) y).2 := by rw [take_one hy, rst_app]
      obtain ⟨r, hr⟩ : ∃ r, r = stp (rst S0 (P.take k)) y := ⟨_, rfl⟩
      have kt' : KT (rst S0 (P.take k)).1 y r h h' d' := by rw [hr]; exact kt
      rw [← hr] at hrg hrs
      obtain ⟨t, ht⟩ : ∃ t, t = out1 r.1 r.2.1 := ⟨_, rfl⟩
      rw [← ht] at hrg
      obtain ⟨hte, htl'⟩ := kt'.k.tells r.1
      rw [← ht] at hte htl'
      have hter : t.er = r.1 := by rw [ht]; rfl
      have hkl := kt'.l
      rw [← ht] at hkl
      have hkb := kt'.b
      have hko := kt'.o
      rw [← hbr] at hkb hko
      obtain ⟨g, cp, ta, tc, hv, hg, hcp, hcp2, g0, g1, g2, hc3, hc4, hc5, hLT⟩ := hOk.at' k t hrg
      simp only [Value.slice.injEq] at hv
      obtain ⟨e1, e2, e3⟩ := hv
      subst e1 e3
      clear e2
      obtain ⟨W5, hW5⟩ : ∃ X, X = (wr.alloc (.cells #[.bool y.op, .int .i64 y.e.k, .int .i64 y.e.n, .int .i64 y.e.t.t, .int .i64 y.e.t.g, .int .i64 y.e.t.l, .int .i64 y.e.t.a, .int .i64 y.e.t.o, .int .i64 y.pw, .int .i64 y.pk, .int .i64 y.wd] 44)).alloc (.cells #[.int .i64 t.er, .int .i64 t.te, .slice ta t.l.length tc] 32) := ⟨_, rfl⟩
      have hb5 : Below wr.heap.size wr W5 := by rw [hW5]; exact ((Below.refl _ _).alloc (Nat.le_refl _) _).alloc (by simp) _
      have s1 : W5.cell? ⟨wr.heap.size, 1, none⟩ = some (.int .i64 y.e.k) := by rw [hW5]; simp [go_sem]
      have x0 : W5.cell? ⟨wr.heap.size + 1, 0, none⟩ = some (.int .i64 t.er) := by rw [hW5]; simp [go_sem]
      have x1 : W5.cell? ⟨wr.heap.size + 1, 1, none⟩ = some (.int .i64 t.te) := by rw [hW5]; simp [go_sem]
      have x2 : W5.cell? ⟨wr.heap.size + 1, 2, none⟩ = some (.slice ta t.l.length tc) := by rw [hW5]; simp [go_sem]
      have HLT : Hid (LN W5 (fun _ => True) ta t.l ∧ t.l.length ≤ tc ∧ tc ≤ 9223372036854775807) := ⟨hLT.keep (fun b _ hl => hb5.block b hl) hb5.size (fun _ h _ => h), hc3, hc4⟩
      have HLW : Hid (LN W5 (fun _ => True) ao wl ∧ wl.length = wn ∧ wn ≤ c ∧ c ≤ 9223372036854775807) := ⟨hR.out.fl.keep (fun b _ hl => hb5.block b hl) hb5.size (fun _ h _ => h), hR.out.fn, hR.out.f1, hR.out.f2⟩
      have HB5 : Hid (Below w4.heap.size w4 W5) := hR.out.fb.trans (hb5.mono hR.out.fb.size)
      have HK5 : Hid (KS r.2.1 r.2.2 h' d' ∧ rst S0 (P.take (k + 1)) = r.2) := ⟨kt'.k, hrs⟩
      have HT : Hid (t.te = (if r.2.1.br = true then 9 else 0) ∧ (r.2.1.br = false → t.l = h'.line)) := ⟨hte, htl'⟩
      have HKL : Hid (h'.line = if y.e.k ≠ 0 ∧ t.er = 0 then t.l else wl) := by rw [hter, hwl]; exact hkl
      have HKB : Hid (r.2.1.br = if y.e.k ≠ 0 ∧ bk b y = false ∧ t.er = 11 then true else bk b y) := by rw [hter]; exact hkb
      have HKO : Hid (y.e.k ≠ 0 → t.er = 0 → bk b y = false) := by rw [hter]; exact hko
      clear hLT hb5 hR kt kt' hks hbr hwl hrg hOk htl hrs hr ht hte htl' hter hkl hkb hko hc3 hc4 hc5 hpk hy hb4
      go_upto_if 53 with fail
      rw [← hW5]
      clear hW5 c0 c1 c2 c3 c4 c5 c6 c7 c8 c9 c10 g0 g1 g2
      go_cut [10] (fun bv wx => bv = .bool (bk b y) ∧ wx = W5)
      case first =>
        cases ho : y.op
        · have HE : Hid (bk b y = b) := by show bk b y = b; unfold bk; rw [if_neg (by rw [ho]; decide)]
          clear ho
          go_wp2_with fail
          go_meet
          case rel => exact ⟨by rw [HE.out], rfl⟩
        · have HE : Hid (bk b y = false) := by show bk b y = false; unfold bk; rw [if_pos ho]
          clear ho
          go_wp2_with fail
          go_meet
          case rel => exact ⟨by rw [HE.out], rfl⟩
      case rest =>
        obtain ⟨h1, h2⟩ := hcut
        rw [h1, h2]
        clear h1 h2
        generalize bk b y = b1 at HKB HKO ⊢
        go_upto_region 17 with fail
        go_cut [66] (fun cv wx => cv = .bool (decide (y.e.k ≠ 0 ∧ b1 = false ∧ t.er = 11)) ∧ wx = W5)
        case first =>
          by_cases k0 : y.e.k = 0
          · have dk : (y.e.k != 0) = false := by simp [k0]
            have HE : Hid (decide (y.e.k ≠ 0 ∧ b1 = false ∧ t.er = 11) = false) := decide_eq_false (fun h => h.1 k0)
            clear k0
            go_wp2_with fail
            go_meet
            case rel => exact ⟨by rw [HE.out], rfl⟩
          · have dk : (y.e.k != 0) = true := by simp [k0]
            cases b1
            · by_cases e11 : t.er = 11
              · have de : (t.er == 11) = true := by simp [e11]
                have HE : Hid (decide (y.e.k ≠ 0 ∧ false = false ∧ t.er = 11) = true) := decide_eq_true ⟨k0, rfl, e11⟩
                clear k0 e11
                go_wp2_with fail
                go_meet
                case rel => exact ⟨by rw [HE.out], rfl⟩
              · have de : (t.er == 11) = false := by simp [e11]
                have HE : Hid (decide (y.e.k ≠ 0 ∧ false = false ∧ t.er = 11) = false) := decide_eq_false (fun h => e11 h.2.2)
                clear k0 e11
                go_wp2_with fail
                go_meet
                case rel => exact ⟨by rw [HE.out], rfl⟩
            · have HE : Hid (decide (y.e.k ≠ 0 ∧ true = false ∧ t.er = 11) = false) := decide_eq_false (fun h => absurd h.2.1 (by decide))
              clear k0
              go_wp2_with fail
              go_meet
              case rel => exact ⟨by rw [HE.out], rfl⟩
        case rest =>
          obtain ⟨h1, h2⟩ := hcut
          rw [h1, h2]
          clear h1 h2
          go_upto_if 66 with fail
          go_cut [9, 10] (fun wv bv wx => ∃ (wl' : List Tn) (ao' : Option Addr) (wn' c' : Nat), wv = .slice ao' wn' c' ∧ bv = .bool r.2.1.br ∧ wx = W5 ∧ wl' = h'.line ∧ LN W5 (fun _ => True) ao' wl' ∧ wl'.length = wn' ∧ wn' ≤ c' ∧ c' ≤ 9223372036854775807)
          case first =>
            by_cases hA : y.e.k ≠ 0 ∧ b1 = false ∧ t.er = 11
            · have dA : decide (y.e.k ≠ 0 ∧ b1 = false ∧ t.er = 11) = true := decide_eq_true hA
              have HE : Hid (r.2.1.br = true ∧ h'.line = wl) := ⟨by rw [HKB.out, if_pos hA], by rw [HKL.out, if_neg (fun h => by rw [hA.2.2] at h; exact absurd h.2 (by decide))]⟩
              rw [dA]
              clear hA dA
              go_wp2_with fail
              go_meet
              case rel => exact ⟨wl, ao, wn, c, rfl, by rw [HE.out.1], rfl, HE.out.2.symm, HLW.out.1, HLW.out.2⟩
            · have dA : decide (y.e.k ≠ 0 ∧ b1 = false ∧ t.er = 11) = false := decide_eq_false hA
              have HBr : Hid (r.2.1.br = b1) := by show r.2.1.br = b1; rw [HKB.out, if_neg hA]
              rw [dA]
              clear hA dA
              by_cases k0 : y.e.k = 0
              · have dk : (y.e.k != 0) = false := by simp [k0]
                have HE : Hid (h'.line = wl) := by show h'.line = wl; rw [HKL.out, if_neg (fun h => h.1 k0)]
                clear k0
                go_wp2_with fail
                go_meet
                case rel => exact ⟨wl, ao, wn, c, rfl, by rw [HBr.out], rfl, HE.out.symm, HLW.out.1, HLW.out.2⟩
              · have dk : (y.e.k != 0) = true := by simp [k0]
                by_cases e0 : t.er = 0
                · have de : (t.er == 0) = true := by simp [e0]
                  have HE : Hid (h'.line = t.l) := by show h'.line = t.l; rw [HKL.out, if_pos ⟨k0, e0⟩]
                  have hb1 : b1 = false := HKO.out k0 e0
                  subst hb1
                  clear k0 e0
                  go_wp2_with fail
                  go_meet
                  case rel => exact ⟨t.l, ta, t.l.length, tc, rfl, by rw [HBr.out], rfl, HE.out.symm, HLT.out.1, rfl, HLT.out.2⟩
                · have de : (t.er == 0) = false := by simp [e0]
                  have HE : Hid (h'.line = wl) := by show h'.line = wl; rw [HKL.out, if_neg (fun h => e0 h.2)]
                  clear k0 e0
                  go_wp2_with fail
                  go_meet
                  case rel => exact ⟨wl, ao, wn, c, rfl, by rw [HBr.out], rfl, HE.out.symm, HLW.out.1, HLW.out.2⟩
          case rest =>
            obtain ⟨wl', ao', wn', c', h1, h2, h3, h4, h5, h6, h7, h8⟩ := hcut
            rw [h1, h2, h3]
            clear h1 h2 h3
            obtain ⟨b2, hb2⟩ : ∃ b2, b2 = r.2.1.br := ⟨_, rfl⟩
            rw [← hb2]
            have HB2' : Hid (b2 = r.2.1.br) := hb2
            have H5 : Hid (wl' = h'.line ∧ LN W5 (fun _ => True) ao' wl' ∧ wl'.length = wn' ∧ wn' ≤ c' ∧ c' ≤ 9223372036854775807) := ⟨h4, h5, h6, h7, h8⟩
            have HFin : Hid (∀ W, Below W5.heap.size W5 W → KV w4 S0 (P.take (k + 1)) b2 wl' ao' wn' c' W) := fun W hW => by
              refine ⟨HB5.out.trans (hW.mono HB5.out.size), H5.out.2.1.keep (fun b _ hl => hW.block b hl) hW.size (fun _ h _ => h), H5.out.2.2.1, H5.out.2.2.2.1, H5.out.2.2.2.2, h', d', ?_, ?_, H5.out.1⟩
              · rw [HK5.out.2]; exact HK5.out.1
              · rw [HK5.out.2]; exact HB2'.out
            have hSm := same_any (fun _ => True) (fun _ => True) ta ao' tc c' t.l wl' W5 HLT.out.1 h5 HLT.out.2.1 (by omega) HLT.out.2.2 h8
            rw [h6] at hSm
            have hT := HT.out
            rw [← hb2] at hT
            obtain ⟨hT1, hT2⟩ := hT
            rw [← h4] at hT2
            clear h4 h5 h6 h7 h8 hb2 s1 x0
            cases b2
            · have te : t.te = 0 := by rw [hT1]; rfl
              have dt : (t.te == 9) = false := by simp [te]
              have HE : Hid (t.l = wl') := hT2 rfl
              clear hT1 hT2 te
              go_wp2_with fail
              refine hSm.mono ?_
              rintro e w6 ⟨⟨B, rfl, hB⟩, hb6⟩
              have hBt : B = true := hB.2 HE.out
              subst hBt
              have HF6 : Hid (KV w4 S0 (P.take (k + 1)) false wl' ao' wn' c' w6) := HFin.out w6 hb6
              clear hSm hB hb6
              go_wp2_with fail
              go_roundw
              case rel => exact ⟨k + 1, false, wl', ao', wn', c', by omega, rfl, rfl, rfl, HF6.out⟩
              case measure => simp [intOf]; omega
            · have te : t.te = 9 := by rw [hT1]; rfl
              have dt : (t.te == 9) = true := by simp [te]
              have HF6 : Hid (KV w4 S0 (P.take (k + 1)) true wl' ao' wn' c' W5) := HFin.out W5 (Below.refl _ _)
              clear hT1 hT2 te hSm
              go_wp2_with fail
              go_roundw
              case rel => exact ⟨k + 1, true, wl', ao', wn', c', by omega, rfl, rfl, rfl, HF6.out⟩
              case measure => simp [intOf]; omega
    · obtain rfl : k = m := by omega
      have hst : Q (.returned (.bool true)) wr := by
        rw [HQ.out]
        exact ⟨rfl, HB4.out.1.trans (hR.out.fb.mono HB4.out.1.size)⟩
      clear HLU
      go_wp2_with fail
      exact hst
end Go.Proofs.Ytpacfppnmenndaa.Tk
