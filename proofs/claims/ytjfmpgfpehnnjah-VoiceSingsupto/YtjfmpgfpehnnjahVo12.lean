/- What Sing comes to. -/
import Derived.Test.YtjfmpgfpehnnjahVoRow
namespace Go.Proofs.Ytjfmpgfpehnnjah.Vo
open Go.RowKit Go.Maps Go.Sort
set_option linter.unusedSimpArgs false
set_option linter.unusedVariables false

/-- How long a piece is; is it let go ahead of it. -/
def pl (n : Int) : Int := if n < 0 then if n = -9223372036854775808 then n else -n else n
def po (T : Nat) (o : Option Nat) (n : Int) : Option Nat := if n < 0 then off1 T o else o
def pT (T : Nat) (n : Int) : Nat := if pl n < 0 ∨ 65536 < pl n then T else T + (pl n).toNat
/-- Behind the first k pieces. -/
def stT (l : List Int) : Nat → Nat
  | 0 => 0
  | k + 1 => pT (stT l k) (l.getD k 0)
def stO (l : List Int) : Nat → Option Nat
  | 0 => none
  | k + 1 => po (stT l k) (stO l k) (l.getD k 0)
def row1 (p : Pt) (T : Nat) (o : Option Nat) (n : Int) : Rw := if pl n < 0 ∨ 65536 < pl n then ⟨0, 3, fun i => S p (po T o n) (T + i)⟩ else ⟨(pl n).toNat, 0, fun i => S p (po T o n) (T + i)⟩
def rws (p : Pt) (l : List Int) : Nat → List Rw
  | 0 => []
  | k + 1 => rws p l k ++ [row1 p (stT l k) (stO l k) (l.getD k 0)]
theorem rws_len (p : Pt) (l : List Int) (k : Nat) : (rws p l k).length = k := by
  induction k with
  | zero => rfl
  | succ k ih => show (rws p l k ++ _).length = _; simp [ih]
theorem rws_get (p : Pt) (l : List Int) (k j : Nat) (h : j < k) : (rws p l k)[j]? = some (row1 p (stT l j) (stO l j) (l.getD j 0)) := by
  induction k with
  | zero => omega
  | succ k ih =>
    show (rws p l k ++ _)[j]? = _
    by_cases c : j < k
    · rw [List.getElem?_append_left (by rw [rws_len]; exact c)]; exact ih c
    · obtain rfl : j = k := by omega
      rw [List.getElem?_append_right (by rw [rws_len]; omega), rws_len]; simp
theorem pT_bd (T : Nat) (n : Int) (m : Nat) (h : T ≤ m) : pT T n ≤ m + 65536 := by
  unfold pT
  generalize pl n = q
  by_cases c : q < 0 ∨ 65536 < q
  · rw [if_pos c]; omega
  · rw [if_neg c]; omega
theorem stT_bd (l : List Int) (k : Nat) : stT l k ≤ k * 65536 := by
  induction k with
  | zero => exact Nat.zero_le _
  | succ k ih =>
    have := pT_bd (stT l k) (l.getD k 0) _ ih
    rw [show k * 65536 + 65536 = (k + 1) * 65536 by omega] at this
    exact this
theorem wid {x : Int} (h1 : -9223372036854775808 ≤ x) (h2 : x ≤ 9223372036854775807) : IntKind.i64.wrap x = x := by
  rw [IntKind.wrap_i64]; omega
theorem off1_ok {T : Nat} {o : Option Nat} (h : Off T o) : Off T (off1 T o) := by
  cases o with
  | none => intro k hk; cases hk; exact Nat.le_refl _
  | some k => exact h
/-- Whole numbers in memory. -/
structure NL (w : World) (ao : Option Addr) (l : List Int) : Prop where
  at' : 0 < l.length → ∃ b off, ao = some ⟨b, off, none⟩ ∧ b < w.heap.size ∧ ∀ (j : Nat) x, l[j]? = some x → w.cell? ⟨b, off + j, none⟩ = some (.int .i64 x) ∧ -9223372036854775808 ≤ x ∧ x ≤ 9223372036854775807
theorem NL.bel {w w' : World} {ao : Option Addr} {l : List Int} (h : NL w ao l) (hb : Below w.heap.size w w') : NL w' ao l := ⟨fun hn => by
  obtain ⟨b, off, h1, h2, h3⟩ := h.at' hn
  exact ⟨b, off, h1, by have := hb.size; omega, fun j x hj => ⟨keepC hb h2 (h3 j x hj).1, (h3 j x hj).2⟩⟩⟩
theorem run_neg_int (x : Int) (w : World) : (Op.intArith .sub .i64 0 x).run Try.prog w = .ok (.int .i64 (IntKind.i64.wrap (0 - x))) w := rfl
/-- What Sing answers. -/
structure SgQ (w : World) (p : Pt) (l : List Int) (e : Ending) (w' : World) : Prop where
  b : Below w.heap.size w w'
  bad : wr p ≠ 0 → e = .returned (.tuple #[.slice none 0 0, .slice none 0 0, .int .i64 (wr p)])
  ok : wr p = 0 → ∃ v u base, e = .returned (.tuple #[v, u, .int .i64 0]) ∧ w.heap.size ≤ base ∧ SO w' base v u (rws p l l.length)
set_option maxHeartbeats 8000000 in
theorem Sing_any (hC : CirC) (p : Pt) (hg : p.gain < 18446744073709551616) (hst : p.step < 4294967296) (l : List Int) (ao : Option Addr) (c : Nat) (w : World) (hL : NL w ao l) (hc : l.length ≤ c) (hcm : c ≤ 9223372036854775807) (hl : l.length ≤ 1048576) :
    Calls Try.prog 14 #[pv p, .slice ao l.length c] w fun e w' => SgQ w p l e w' := by
  have HN := fun w => New_any hC p w
  by_cases hz : wr p = 0
  · have hok := wr_ok hg hz
    have HR := fun (w' : World) (b T : Nat) (o : Option Nat) (n : Nat) (hV : VL w' b p T o) (hn : n ≤ 65536) (hT : T + n ≤ 4611686018427387904) => Render_any hC p hok hst b T o n w' hV hn hT
    have HO := fun (w' : World) (b T : Nat) (o : Option Nat) (hV : VL w' b p T o) => Off_any p hok b T o w' hV
    have HL : Hid (NL w ao l) := hL
    have HQ : Hid (∀ e w' v u base, Below w.heap.size w w' → e = .returned (.tuple #[v, u, .int .i64 0]) → w.heap.size ≤ base → SO w' base v u (rws p l l.length) → SgQ w p l e w') := fun e w' v u base hb he hbs hS => ⟨hb, fun h => absurd hz h, fun _ => ⟨v, u, base, he, hbs, hS⟩⟩
    have HN' : ∀ w, Calls Try.prog 24 #[pv p] w fun e w' => ∃ v, e = .returned (.tuple #[.pointer (some ⟨v, 0, none⟩), .int .i64 0]) ∧ Hid (VL w' v p 0 none) ∧ w.heap.size ≤ v ∧ Below w.heap.size w w' := fun w => (HN w).mono fun e w' h => by
      obtain ⟨v, h1, h2, h3⟩ := h.ok hz
      exact ⟨v, h1, h3, h2, h.b⟩
    clear HN hz hok hL hC hg
    go_enter Try.func14, Try.ntmps14
    go_wp2_with fail
    refine (HN' _).mono ?_
    rintro e w1 ⟨b, rfl, hV0, hbz, hb1⟩
    have hb01 : Below w.heap.size w w1 := Below.trans (by go_grown) (hb1.mono (by simp))
    have z1 : w.heap.size < w1.heap.size := by have := hb1.size; simp at this; omega
    have zb : b < w1.heap.size := hV0.out.lt
    have hbz' : w.heap.size < b := by simp at hbz; omega
    clear HN' hb1 hbz
    go_wp2_with fail
    go_loopw [25, 9, 10] (fun i v u ww => ∃ k : Nat, k ≤ l.length ∧ i = .int .i64 k ∧ Hid (SO ww w1.heap.size v u (rws p l k)) ∧ Hid (VL ww b p (stT l k) (stO l k)) ∧ Below w.heap.size w ww ∧ w1.heap.size ≤ ww.heap.size) (fun i _ _ _ => l.length - (intOf i).toNat)
    case atStart => exact ⟨0, by omega, rfl, SO.nil _ _, hV0, hb01, Nat.le_refl _⟩
    case round =>
      obtain ⟨k, hk, rfl, hS, hV, hbr, hzr⟩ := hrel
      clear hV0
      by_cases hlt : k < l.length
      · obtain ⟨x, hx⟩ : ∃ x, l[k]? = some x := ⟨_, List.getElem?_eq_getElem hlt⟩
        obtain ⟨nb, of, rfl, hnb, q0⟩ := (HL.out.bel hbr).at' (by omega)
        obtain ⟨r0, r1, r2⟩ := q0 k x hx
        have hgd : l.getD k 0 = x := by rw [List.getD_eq_getElem?_getD, hx]; rfl
        have hlt' : (k : Int) < (l.length : Int) := by omega
        have hTb := stT_bd l k
        have w3 : IntKind.i64.wrap ((k : Int) + 1) = (k : Int) + 1 := wid (by omega) (by omega)
        have HT1 : Hid (stT l (k + 1) = pT (stT l k) x ∧ stO l (k + 1) = po (stT l k) (stO l k) x ∧ rws p l (k + 1) = rws p l k ++ [row1 p (stT l k) (stO l k) x]) := ⟨by rw [← hgd]; rfl, by rw [← hgd]; rfl, by rw [← hgd]; rfl⟩
        have hrl := rws_len p l k
        generalize stT l k = T at *
        generalize stO l k = O at *
        generalize rws p l k = R at *
        clear q0 hx hgd
        have zb2 : b < wr.heap.size := by omega
        have Hneg : Hid (x < 0 → wrap64 (-x) = pl x) := fun hx => by
          unfold wrap64 pl
          rw [if_pos hx]
          by_cases e : x = -9223372036854775808
          · rw [if_pos e, e]; decide
          · rw [if_neg e]; omega
        have Hpl : Hid (¬ x < 0 → pl x = x) := fun h => if_neg h
        have Hpo : Hid ((x < 0 → po T O x = off1 T O) ∧ (¬ x < 0 → po T O x = O)) := ⟨fun h => if_pos h, fun h => if_neg h⟩
        go_upto_if 30 with fail
        go_cut [12] (fun y wx => y = .int .i64 (pl x) ∧ Hid (VL wx b p T (po T O x)) ∧ Kn wr b wr.heap.size wx)
        case first =>
          by_cases hx0 : x < 0
          · have hq := HO wr b T O hV.out
            rw [← Hpo.out.1 hx0] at hq
            have hn : Hid (wrap64 (-x) = pl x) := Hneg.out hx0
            clear Hneg HR HO hS HT1 Hpo Hpl
            generalize po T O x = PO at *
            generalize pl x = PL at *
            go_wp2_with fail
            refine hq.mono ?_
            rintro e w2 ⟨rfl, hV2, hK2⟩
            have HV2 : Hid (VL w2 b p T PO) := hV2
            clear hV2 hq
            go_wp2_with fail
            go_meet
            case rel => exact ⟨by rw [hn.out], HV2, hK2⟩
          · have e1 := Hpl.out hx0
            have e2 := Hpo.out.2 hx0
            have HV2 : Hid (VL wr b p T (po T O x)) := by rw [e2]; exact hV
            clear Hneg HR HO hS HT1 Hpo Hpl e2
            generalize po T O x = PO at *
            have HE : Hid (pl x = x) := e1
            clear e1
            go_wp2_with fail
            go_meet
            case rel => exact ⟨by rw [HE.out], HV2, Kn.refl _ _ _⟩
        case rest =>
          obtain ⟨rfl, hV2, hK2⟩ := hcut
          rename World => w2
          have hbx : Below wr.heap.size wr w2 ∨ True := Or.inr trivial
          clear hbx hV
          have HS2 : Hid (SO w2 w1.heap.size u9 u10 R) := hS.out.step (fun j h1 h2 => hK2.k j h2 (by omega)) hK2.z
          have hb02 : Below w.heap.size w w2 := hbr.trans (hK2.b.mono (by omega))
          have z2 : wr.heap.size ≤ w2.heap.size := hK2.z
          clear hS Hneg Hpl hK2 hbr r0
          have HRow : Hid (row1 p T O x = if pl x < 0 ∨ 65536 < pl x then ⟨0, 3, fun i => S p (po T O x) (T + i)⟩ else ⟨(pl x).toNat, 0, fun i => S p (po T O x) (T + i)⟩) := rfl
          have HT2 : Hid (pT T x = if pl x < 0 ∨ 65536 < pl x then T else T + (pl x).toNat) := rfl
          generalize row1 p T O x = RW1 at *
          generalize pT T x = PT at *
          generalize po T O x = PO at *
          generalize pl x = PL at *
          obtain ⟨ea, ec, eb, ed, rfl, f1, f2, rfl, f3, f4⟩ := HS2.out.form
          obtain ⟨Vs, o1, o2, o3⟩ := HS2.out.ex
          have o4 := HS2.out.er
          have HAp : Hid (∀ j, (Value.slice ea R.length ec).ownBlock = some j → (Value.slice eb R.length ed).ownBlock ≠ some j) := HS2.out.ap
          have HO3 : Hid (∀ (j : Nat) (r : Rw), R[j]? = some r → ∃ x, Vs[j]? = some x ∧ FSl w2 (Sc w1.heap.size w2 (Value.slice ea R.length ec) (Value.slice eb R.length ed)) x r.m r.f) := o3
          have HO2 : Hid (Vs.length = R.length) := o2
          have HRl : Hid (R.length = k) := hrl
          rw [hrl] at HAp HO3 f1 f3 o1 o4
          have HO4 : Hid (w2.ownsRow w1.heap.size 24 1 (Value.slice eb k ed) k (R.map fun r => .int .i64 r.e)) := o4
          have HO1 : Hid (w2.ownsRow w1.heap.size 55 1 (Value.slice ea k ec) k Vs) := o1
          have lv := own_lt o1
          have lu := own_lt o4
          have HLv : Hid (∀ j, (Value.slice ea k ec).ownBlock = some j → j < w2.heap.size) := lv
          have HLu : Hid (∀ j, (Value.slice eb k ed).ownBlock = some j → j < w2.heap.size) := lu
          rw [hrl]
          clear o1 o2 o3 o4 lv lu hrl HS2
          have HRen : Calls Try.prog 26 #[.pointer (some ⟨b, 0, none⟩), .int .i64 PL] w2 fun e w' => ∃ xa xn xc, e = .returned (.tuple #[.slice xa xn xc, .int .i64 RW1.e]) ∧ Hid (FSl w' (Sc w1.heap.size w' (.slice ea k ec) (.slice eb k ed)) (.slice xa xn xc) RW1.m RW1.f) ∧ Hid (VL w' b p PT PO) ∧ Kn w2 b w2.heap.size w' := by
            by_cases hbad : PL < 0 ∨ 65536 < PL
            · rw [show RW1 = ⟨0, 3, fun i => S p PO (T + i)⟩ from HRow.out.trans (if_pos hbad), show PT = T from HT2.out.trans (if_pos hbad)]
              refine (Render_bad b PL w2 hbad).mono ?_
              rintro e w' ⟨rfl, hw'⟩
              rw [hw']
              exact ⟨none, 0, 0, rfl, FSl.nil _ _ _, hV2, Kn.refl _ _ _⟩
            · obtain ⟨m, rfl, hm⟩ : ∃ m : Nat, PL = m ∧ m ≤ 65536 := ⟨PL.toNat, by omega, by omega⟩
              rw [show RW1 = ⟨(m : Int).toNat, 0, fun i => S p PO (T + i)⟩ from HRow.out.trans (if_neg hbad), show PT = T + (m : Int).toNat from HT2.out.trans (if_neg hbad), Int.toNat_natCast]
              refine (HR w2 b T PO m hV2.out hm (by omega)).mono ?_
              rintro e w' ⟨rfl, hf, hv, hk'⟩
              have zz := hk'.z
              refine ⟨some ⟨w2.heap.size, 0, none⟩, m, m, rfl, ⟨⟨some ⟨w2.heap.size, 0, none⟩, m, rfl, Nat.le_refl _, by omega, fun hm0 => ⟨w2.heap.size, 0, rfl, ⟨by omega, World.rowIs.lt hf, fun q => ?_, fun q => ?_⟩, fun i hi => by rw [Nat.zero_add]; exact World.rowIs.cell hf hi⟩⟩, (fun n c e => by cases e)⟩, hv, hk'⟩
              · exact absurd (HLv.out _ q.symm) (by omega)
              · exact absurd (HLu.out _ q.symm) (by omega)
          clear HR HO HRow HT2 hV2
          go_wp2_with fail
          refine HRen.mono ?_
          rintro e w3 ⟨xa, xn, xc, rfl, hFS, hV3, hK3⟩
          have z3 := hK3.z
          have HA1 : Hid (w3.ownsRow w1.heap.size 55 1 (Value.slice ea k ec) k Vs) := own_step HO1.out (fun j hj => hK3.k j (HLv.out j hj) (by have := own_block HO1.out j hj; omega))
          have HA4 : Hid (w3.ownsRow w1.heap.size 24 1 (Value.slice eb k ed) k (R.map fun r => .int .i64 r.e)) := own_step HO4.out (fun j hj => hK3.k j (HLu.out j hj) (by have := own_block HO4.out j hj; omega))
          have HA3 : Hid (∀ (j : Nat) (r : Rw), R[j]? = some r → ∃ x, Vs[j]? = some x ∧ FSl w3 (Sc w1.heap.size w3 (Value.slice ea k ec) (Value.slice eb k ed)) x r.m r.f) := fun j r hj => by
            obtain ⟨y, y1, y2⟩ := HO3.out j r hj
            exact ⟨y, y1, y2.keep (fun q hq => hK3.k q hq.2.1 (by have := hq.1; omega)) (fun q hq => ⟨hq.1, by have := hq.2.1; omega, hq.2.2⟩)⟩
          have hb03 : Below w.heap.size w w3 := hb02.trans (hK3.b.mono (by omega))
          have hbA : Below w3.heap.size w3 (w3.alloc (Obj.cells #[.slice xa xn xc] 55)) := (Below.refl _ _).alloc (Nat.le_refl _) _
          clear HRen HO1 HO3 HO4 hK3 hb02 HLv HLu
          have HLv : Hid (∀ j, (Value.slice ea k ec).ownBlock = some j → j < w3.heap.size) := own_lt HA1.out
          have HLu : Hid (∀ j, (Value.slice eb k ed).ownBlock = some j → j < w3.heap.size) := own_lt HA4.out
          have HGe : ∀ E : Int, E = RW1.e → Hid (E = RW1.e) := fun _ h => h
          obtain ⟨E, hE⟩ : ∃ E, E = RW1.e := ⟨_, rfl⟩
          have HE := HGe E hE
          rw [← hE]
          clear HGe hE
          go_wp2_with (at_builtin; refine wpList_append_1 50 55 (.slice none 0 0) 24 Try.underlying50 infoFs rfl (by omega) rfl (.tmp 41) (.tmp 43) rfl w1.heap.size _ k Vs rfl (own_step HA1.out (fun j hj => hbA.block j (HLv.out j hj))) w3.heap.size (.slice xa xn xc) rfl (by simp [go_sem]) rfl (by omega) (by simp; omega) ?a3)
          case a3 =>
            intro v' w4 o5 g5
            have z4 := g5.gr.size
            simp at z4
            have HO5 : Hid (w4.ownsRow w1.heap.size 55 1 v' (k + 1) (Vs ++ [.slice xa xn xc])) := o5
            have HG5 : Hid (Gw (w3.alloc (Obj.cells #[.slice xa xn xc] 55)) w4 (Value.slice ea k ec) v') := g5
            have HA5 : Hid (w4.ownsRow w1.heap.size 24 1 (Value.slice eb k ed) k (R.map fun r => .int .i64 r.e)) := own_step HA4.out (fun j hj => by
              rw [g5.gr.block j (by have := HLu.out j hj; simp; omega) (fun q => HAp.out j q.symm hj)]
              exact hbA.block j (HLu.out j hj))
            have hbB : Below w4.heap.size w4 (w4.alloc (Obj.cells #[.int .i64 E] 24)) := (Below.refl _ _).alloc (Nat.le_refl _) _
            have HLu4 : Hid (∀ j, (Value.slice eb k ed).ownBlock = some j → j < w4.heap.size) := own_lt HA5.out
            clear o5 g5
            go_wp2_with (at_builtin; refine wpList_append_1 51 24 (.int .i64 0) 8 Try.underlying51 infoEr rfl (by omega) rfl (.tmp 45) (.tmp 47) rfl w1.heap.size _ k (R.map fun r => .int .i64 r.e) rfl (own_step HA5.out (fun j hj => hbB.block j (HLu4.out j hj))) w4.heap.size (.int .i64 E) rfl (by simp [go_sem]) rfl (by omega) (by simp; omega) ?a4)
            case a4 =>
              intro u' w5 o6 g6
              have z5 := g6.gr.size
              simp at z5
              have hSO : SO w5 w1.heap.size v' u' (R ++ [RW1]) := SO.put Vs HO2.out HA3.out HAp.out HLv.out HLu.out hbA HG5.out (by rw [HRl.out]; exact HO5.out) hbB g6 (by rw [HRl.out, ← HE.out]; exact o6) hFS.out
              have hb35 : ∀ j, j < w1.heap.size → w5.heap[j]? = w3.heap[j]? := fun j hj => by
                rw [g6.gr.block j (by simp; omega) (fun q => by have := own_block HA5.out j q.symm; omega), hbB.block j (by omega), HG5.out.gr.block j (by simp; omega) (fun q => by have := own_block HA1.out j q.symm; omega), hbA.block j (by omega)]
              have HV5 : Hid (VL w5 b p PT PO) := hV3.out.keep (hb35 b (by omega)) (by omega)
              have hb05 : Below w.heap.size w w5 := by
                refine hb03.trans (Below.trans (hbA.mono (by omega)) (Below.trans (HG5.out.bel (by simp; omega) (fun j hj => by have := own_block HA1.out j hj; omega)) (Below.trans (hbB.mono (by omega)) (g6.bel (by simp; omega) (fun j hj => by have := own_block HA5.out j hj; omega)))))
              have HSO : Hid (SO w5 w1.heap.size v' u' (R ++ [RW1])) := hSO
              clear hSO o6 g6 HG5 HO5 HA5 hFS hV3 HA1 HA3 HA4
              go_wp2_with fail
              obtain ⟨t1, t2, t3⟩ := HT1.out
              exact ⟨⟨k + 1, by omega, by go_num, by rw [t3]; exact HSO, by rw [t1, t2]; exact HV5, hb05, by omega⟩, by simp [intOf]; omega⟩
      · obtain rfl : k = l.length := by omega
        obtain ⟨ea, ec, eb, ed, rfl, f1, f2, rfl, f3, f4⟩ := hS.out.form
        clear HR HO hV
        go_wp2_with fail
        go_returns
        exact HQ.out _ _ _ _ _ hbr rfl (by omega) hS.out
  · have HN' : ∀ w, Calls Try.prog 24 #[pv p] w fun e w' => e = .returned (.tuple #[.pointer none, .int .i64 (wr p)]) ∧ Below w.heap.size w w' := fun w => (HN w).mono fun e w' h => ⟨h.bad hz, h.b⟩
    have HQ : Hid (∀ e w', Below w.heap.size w w' → e = .returned (.tuple #[.slice none 0 0, .slice none 0 0, .int .i64 (wr p)]) → SgQ w p l e w') := fun e w' hb he => ⟨hb, fun _ => he, fun h => absurd h hz⟩
    have hne : (wr p != 0) = true := by simpa using hz
    clear HN hL hC hz
    generalize wr p = WR at *
    go_enter Try.func14, Try.ntmps14
    go_wp2_with fail
    refine (HN' _).mono ?_
    rintro e w1 ⟨rfl, hb1⟩
    have hb01 : Below w.heap.size w w1 := Below.trans (by go_grown) (hb1.mono (by simp))
    go_wp2_with fail
    go_returns
    exact HQ.out _ _ hb01 rfl
end Go.Proofs.Ytjfmpgfpehnnjah.Vo
