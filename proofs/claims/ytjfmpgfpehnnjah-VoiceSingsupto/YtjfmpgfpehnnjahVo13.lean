/- What the document's Sing comes to. -/
import Derived.Test.YtjfmpgfpehnnjahVo12
namespace Go.Proofs.Ytjfmpgfpehnnjah.Vo
open Go.RowKit Go.Maps Go.Sort
set_option linter.unusedSimpArgs false
set_option linter.unusedVariables false

/-- A patch in a block. -/
structure PB (w : World) (b : Nat) (p : Pt) : Prop where
  c0 : w.cell? ⟨b, 0, none⟩ = some (.int .i64 p.shape)
  c1 : w.cell? ⟨b, 1, none⟩ = some (.int .u32 p.step)
  c2 : w.cell? ⟨b, 2, none⟩ = some (.float .f64 p.gain)
  c3 : w.cell? ⟨b, 3, none⟩ = some (.int .i64 p.atk)
  c4 : w.cell? ⟨b, 4, none⟩ = some (.int .i64 p.dec)
  c5 : w.cell? ⟨b, 5, none⟩ = some (.int .i64 p.rel)
  c6 : w.cell? ⟨b, 6, none⟩ = some (.int .i64 p.sus)
  lt : b < w.heap.size
theorem PB.bel {w w' : World} {b B : Nat} {p : Pt} (h : PB w b p) (hb : Below B w w') (hB : b < B) (hz : w.heap.size ≤ w'.heap.size) : PB w' b p :=
  ⟨keepC hb hB h.c0, keepC hb hB h.c1, keepC hb hB h.c2, keepC hb hB h.c3, keepC hb hB h.c4, keepC hb hB h.c5, keepC hb hB h.c6, by have := h.lt; omega⟩
theorem own_FS {w : World} {base : Nat} {v : Value} {m : Nat} {xs : List Value} {f : Nat → Nat} (h : w.ownsRow base 47 1 v m xs) (hx : ∀ i, i < m → xs[i]? = some (.float .f64 (f i))) : FSl w (fun b => base ≤ b ∧ b < w.heap.size) v m f := by
  rcases h.2 with ⟨rfl, rfl⟩ | ⟨g, cap, cur, e1, e2, e3, e4, hm, rest⟩
  · exact FSl.nil _ _ _
  · refine ⟨⟨some ⟨g, 0, none⟩, cap, e1, e4, by unfold maxLen at hm; omega, fun hn => ⟨g, 0, rfl, ⟨e2, (Array.getElem?_eq_some_iff.1 e3).1⟩, fun i hi => ?_⟩⟩, fun n c e => by rw [e1] at e; cases e⟩
    subst e1
    rw [Nat.zero_add]
    exact (World.ownsRow.cellAt h i (by omega)).trans (hx i hi)
/-- The first samples of a piece, as cells. -/
def fls (p : Pt) (o : Option Nat) (T : Nat) : Nat → List Value
  | 0 => []
  | k + 1 => fls p o T k ++ [.float .f64 (S p o (T + k))]
theorem fls_len (p : Pt) (o : Option Nat) (T k : Nat) : (fls p o T k).length = k := by
  induction k with
  | zero => rfl
  | succ k ih => show (fls p o T k ++ _).length = _; simp [ih]
theorem fls_get (p : Pt) (o : Option Nat) (T k i : Nat) (h : i < k) : (fls p o T k)[i]? = some (.float .f64 (S p o (T + i))) := by
  induction k with
  | zero => omega
  | succ k ih =>
    show (fls p o T k ++ _)[i]? = _
    by_cases c : i < k
    · rw [List.getElem?_append_left (by rw [fls_len]; exact c)]; exact ih c
    · obtain rfl : i = k := by omega
      rw [List.getElem?_append_right (by rw [fls_len]; omega), fls_len]; simp
theorem stO_off (l : List Int) (k : Nat) : Off (stT l k) (stO l k) := by
  induction k with
  | zero => intro j hj; cases hj
  | succ k ih =>
    show Off (pT (stT l k) (l.getD k 0)) (po (stT l k) (stO l k) (l.getD k 0))
    have h1 : stT l k ≤ pT (stT l k) (l.getD k 0) := by
      unfold pT
      generalize pl (l.getD k 0) = q
      by_cases c : q < 0 ∨ 65536 < q
      · rw [if_pos c]; exact Nat.le_refl _
      · rw [if_neg c]; omega
    refine Off.mono ?_ h1
    unfold po
    by_cases c : l.getD k 0 < 0
    · rw [if_pos c]; exact off1_ok ih
    · rw [if_neg c]; exact ih
set_option maxHeartbeats 8000000 in
theorem refSing_any (p : Pt) (hg : p.gain < 18446744073709551616) (hst : p.step < 4294967296) (l : List Int) (ao : Option Addr) (c : Nat) (w : World) (hL : NL w ao l) (hc : l.length ≤ c) (hcm : c ≤ 9223372036854775807) (hl : l.length ≤ 1048576) :
    Calls Try.prog 15 #[pv p, .slice ao l.length c] w fun e w' => SgQ w p l e w' := by
  have HN := fun w => refWrong_any p w
  by_cases hz : wr p = 0
  · have hok := wr_ok hg hz
    have HSm := fun (T : Nat) (o : Option Nat) (ho : Off T o) (h1 : T ≤ 4611686018427387904) (w : World) => refSample_any p hok hst T o ho h1 w
    have HL : Hid (NL w ao l) := hL
    have HQ : Hid (∀ e w' v u base, Below w.heap.size w w' → e = .returned (.tuple #[v, u, .int .i64 0]) → w.heap.size ≤ base → SO w' base v u (rws p l l.length) → SgQ w p l e w') := fun e w' v u base hb he hbs hS => ⟨hb, fun h => absurd hz h, fun _ => ⟨v, u, base, he, hbs, hS⟩⟩
    rw [hz] at HN
    clear hz hok hL hg
    go_enter Try.func15, Try.ntmps15
    go_wp2_with fail
    refine (HN _).mono ?_
    rintro e w1 ⟨rfl, hb1⟩
    have hb01 : Below w.heap.size w w1 := Below.trans (by go_grown) (hb1.mono (by simp))
    have z1 : w.heap.size < w1.heap.size := by have := hb1.size; simp at this; omega
    have HP1 : Hid (PB w1 w.heap.size p) := ⟨keepC hb1 (by simp) (by simp [go_sem]), keepC hb1 (by simp) (by simp [go_sem]), keepC hb1 (by simp) (by simp [go_sem]), keepC hb1 (by simp) (by simp [go_sem]), keepC hb1 (by simp) (by simp [go_sem]), keepC hb1 (by simp) (by simp [go_sem]), keepC hb1 (by simp) (by simp [go_sem]), z1⟩
    clear HN hb1
    go_wp2_with fail
    go_loopw [23, 8, 9, 10, 11] (fun i v u t oo ww => ∃ k : Nat, k ≤ l.length ∧ i = .int .i64 k ∧ Hid (SO ww w1.heap.size v u (rws p l k)) ∧ t = .int .i64 (stT l k : Nat) ∧ oo = .int .i64 (ofs (stO l k)) ∧ Below w.heap.size w ww ∧ Below w1.heap.size w1 ww ∧ w1.heap.size ≤ ww.heap.size) (fun i _ _ _ _ _ => l.length - (intOf i).toNat)
    case atStart => exact ⟨0, by omega, rfl, SO.nil _ _, rfl, rfl, hb01, Below.refl _ _, Nat.le_refl _⟩
    case round =>
      obtain ⟨k, hk, rfl, hS, rfl, rfl, hbr, hbq, hzr⟩ := hrel
      by_cases hlt : k < l.length
      · obtain ⟨x, hx⟩ : ∃ x, l[k]? = some x := ⟨_, List.getElem?_eq_getElem hlt⟩
        obtain ⟨nb, of, rfl, hnb, q0⟩ := (HL.out.bel hbr).at' (by omega)
        obtain ⟨r0, r1, r2⟩ := q0 k x hx
        have hgd : l.getD k 0 = x := by rw [List.getD_eq_getElem?_getD, hx]; rfl
        have hlt' : (k : Int) < (l.length : Int) := by omega
        have hTb := stT_bd l k
        have w3 : IntKind.i64.wrap ((k : Int) + 1) = (k : Int) + 1 := wid (by omega) (by omega)
        have HT1 : Hid (stT l (k + 1) = pT (stT l k) x ∧ stO l (k + 1) = po (stT l k) (stO l k) x ∧ rws p l (k + 1) = rws p l k ++ [row1 p (stT l k) (stO l k) x]) := ⟨by rw [← hgd]; rfl, by rw [← hgd]; rfl, by rw [← hgd]; rfl⟩
        have hrl := rws_len p l k
        have HOf : Hid (Off (stT l k) (stO l k)) := stO_off l k
        generalize stT l k = T at *
        generalize stO l k = O at *
        generalize rws p l k = R at *
        clear q0 hx hgd
        have Hneg : Hid (x < 0 → wrap64 (-x) = pl x) := fun hx => by
          unfold wrap64 pl
          rw [if_pos hx]
          by_cases e : x = -9223372036854775808
          · rw [if_pos e, e]; decide
          · rw [if_neg e]; omega
        have Hpl : Hid (¬ x < 0 → pl x = x) := fun h => if_neg h
        have Hpo : Hid ((x < 0 → po T O x = off1 T O) ∧ (¬ x < 0 → po T O x = O)) := ⟨fun h => if_pos h, fun h => if_neg h⟩
        go_upto_if 28 with fail
        go_cut [13, 11] (fun y oo wx => y = .int .i64 (pl x) ∧ oo = .int .i64 (ofs (po T O x)) ∧ wx = wr)
        case first =>
          clear HSm hS HT1 HP1
          by_cases hx0 : x < 0
          · have hn : Hid (wrap64 (-x) = pl x) := Hneg.out hx0
            have hp := Hpo.out.1 hx0
            clear Hneg Hpo Hpl
            cases O with
            | none =>
              have HE : Hid (ofs (po T none x) = (T : Int)) := by rw [hp]; rfl
              rw [show ofs none = -1 from rfl]
              clear hp
              go_wp2_with fail
              go_meet
              case rel => exact ⟨by rw [hn.out], by rw [HE.out], rfl⟩
            | some j =>
              have HE : Hid (ofs (po T (some j) x) = (j : Int)) := by rw [hp]; rfl
              rw [show ofs (some j) = (j : Int) from rfl]
              clear hp
              go_wp2_with fail
              go_meet
              case rel => exact ⟨by rw [hn.out], by rw [HE.out], rfl⟩
          · have HE : Hid (pl x = x ∧ po T O x = O) := ⟨Hpl.out hx0, Hpo.out.2 hx0⟩
            clear Hneg Hpo Hpl
            go_wp2_with fail
            go_meet
            case rel => exact ⟨by rw [HE.out.1], by rw [HE.out.2], rfl⟩
        case rest =>
          obtain ⟨rfl, rfl, hw2⟩ := hcut
          rename World => w2
          subst hw2
          have HS2 : Hid (SO w2 w1.heap.size u8 u9 R) := hS
          clear hS Hneg Hpl
          have HRow : Hid (row1 p T O x = if pl x < 0 ∨ 65536 < pl x then ⟨0, 3, fun i => S p (po T O x) (T + i)⟩ else ⟨(pl x).toNat, 0, fun i => S p (po T O x) (T + i)⟩) := rfl
          have HT2 : Hid (pT T x = if pl x < 0 ∨ 65536 < pl x then T else T + (pl x).toNat) := rfl
          have HOf2 : Hid (Off T (po T O x)) := by
            show Off T (po T O x)
            by_cases hx0 : x < 0
            · rw [Hpo.out.1 hx0]; exact off1_ok HOf.out
            · rw [Hpo.out.2 hx0]; exact HOf.out
          clear Hpo HOf
          generalize row1 p T O x = RW1 at *
          generalize pT T x = PT at *
          generalize po T O x = PO at *
          generalize pl x = PL at *
          obtain ⟨ea, ec, eb, ed, rfl, f1, f2, rfl, f3, f4⟩ := HS2.out.form
          obtain ⟨Vs, o1, o2, o3⟩ := HS2.out.ex
          have o4 := HS2.out.er
          have HAp : Hid (∀ j, (Value.slice ea R.length ec).ownBlock = some j → (Value.slice eb R.length ed).ownBlock ≠ some j) := HS2.out.ap
          have HO3 : Hid (∀ (j : Nat) (r : Rw), R[j]? = some r → ∃ x, Vs[j]? = some x ∧ FSl w2 (Sc w1.heap.size w2 (Value.slice ea R.length ec) (Value.slice eb R.length ed)) x r.m r.f) := o3
          have HO2 : Hid (Vs.length = R.length) := o2
          have HRl : Hid (R.length = k) := hrl
          rw [hrl] at HAp HO3 f1 f3 o1 o4
          have HO4 : Hid (w2.ownsRow w1.heap.size 24 1 (Value.slice eb k ed) k (R.map fun r => .int .i64 r.e)) := o4
          have HO1 : Hid (w2.ownsRow w1.heap.size 55 1 (Value.slice ea k ec) k Vs) := o1
          have HLv0 : Hid (∀ j, (Value.slice ea k ec).ownBlock = some j → j < w2.heap.size) := own_lt o1
          have HLu0 : Hid (∀ j, (Value.slice eb k ed).ownBlock = some j → j < w2.heap.size) := own_lt o4
          rw [hrl]
          clear o1 o2 o3 o4 hrl HS2
          by_cases hbad : PL < 0 ∨ 65536 < PL
          · have e1 : RW1 = ⟨0, 3, fun i => S p PO (T + i)⟩ := HRow.out.trans (if_pos hbad)
            have HPT : Hid (PT = T) := HT2.out.trans (if_pos hbad)
            have HE : Hid (RW1.e = 3) := by rw [e1]; rfl
            have hFS : Hid (FSl w2 (Sc w1.heap.size w2 (Value.slice ea k ec) (Value.slice eb k ed)) (.slice none 0 0) RW1.m RW1.f) := by rw [e1]; exact FSl.nil _ _ _
            have hbW : Below w2.heap.size w2 w2 := Below.refl _ _
            clear HRow HT2 e1
            have hcond : (PL < 0) ∨ (¬ PL < 0 ∧ 65536 < PL) := by omega
            clear hbad
            rcases hcond with hc1 | ⟨hc1, hc2⟩
            · have HA1 : Hid (w2.ownsRow w1.heap.size 55 1 (Value.slice ea k ec) k Vs) := own_step HO1.out (fun j hj => hbW.block j (HLv0.out j hj))
              have HA4 : Hid (w2.ownsRow w1.heap.size 24 1 (Value.slice eb k ed) k (R.map fun r => .int .i64 r.e)) := own_step HO4.out (fun j hj => hbW.block j (HLu0.out j hj))
              have zW := hbW.size
              have HA3 : Hid (∀ (j : Nat) (r : Rw), R[j]? = some r → ∃ x, Vs[j]? = some x ∧ FSl w2 (Sc w1.heap.size w2 (Value.slice ea k ec) (Value.slice eb k ed)) x r.m r.f) := fun j r hj => by
                obtain ⟨y, y1, y2⟩ := HO3.out j r hj
                exact ⟨y, y1, y2.keep (fun q hq => hbW.block q hq.2.1) (fun q hq => ⟨hq.1, by have := hq.2.1; omega, hq.2.2⟩)⟩
              have HLv : Hid (∀ j, (Value.slice ea k ec).ownBlock = some j → j < w2.heap.size) := own_lt HA1.out
              have HLu : Hid (∀ j, (Value.slice eb k ed).ownBlock = some j → j < w2.heap.size) := own_lt HA4.out
              have hb03 : Below w.heap.size w w2 := hbr.trans (hbW.mono (by omega))
              have hb13 : Below w1.heap.size w1 w2 := hbq.trans (hbW.mono (by omega))
              have hbA : Below w2.heap.size w2 (w2.alloc (Obj.cells #[.slice none 0 0] 55)) := (Below.refl _ _).alloc (Nat.le_refl _) _
              clear HO1 HO3 HO4 HLv0 HLu0 HSm r0
              go_wp2_with (at_builtin; refine wpList_append_1 50 55 (.slice none 0 0) 24 Try.underlying50 infoFs rfl (by omega) rfl (.tmp 40) (.tmp 41) rfl w1.heap.size _ k Vs rfl (own_step HA1.out (fun j hj => hbA.block j (HLv.out j hj))) w2.heap.size (.slice none 0 0) rfl (by simp [go_sem]) rfl (by omega) (by simp; omega) ?a3)
              case a3 =>
                intro v' w4 o5 g5
                have z4 := g5.gr.size
                simp at z4
                have HO5 : Hid (w4.ownsRow w1.heap.size 55 1 v' (k + 1) (Vs ++ [.slice none 0 0])) := o5
                have HG5 : Hid (Gw (w2.alloc (Obj.cells #[.slice none 0 0] 55)) w4 (Value.slice ea k ec) v') := g5
                have HA5 : Hid (w4.ownsRow w1.heap.size 24 1 (Value.slice eb k ed) k (R.map fun r => .int .i64 r.e)) := own_step HA4.out (fun j hj => by
                  rw [g5.gr.block j (by have := HLu.out j hj; simp; omega) (fun q => HAp.out j q.symm hj)]
                  exact hbA.block j (HLu.out j hj))
                have hbB : Below w4.heap.size w4 (w4.alloc (Obj.cells #[.int .i64 3] 24)) := (Below.refl _ _).alloc (Nat.le_refl _) _
                have HLu4 : Hid (∀ j, (Value.slice eb k ed).ownBlock = some j → j < w4.heap.size) := own_lt HA5.out
                clear o5 g5
                go_wp2_with (at_builtin; refine wpList_append_1 51 24 (.int .i64 0) 8 Try.underlying51 infoEr rfl (by omega) rfl (.tmp 43) (.tmp 44) rfl w1.heap.size _ k (R.map fun r => .int .i64 r.e) rfl (own_step HA5.out (fun j hj => hbB.block j (HLu4.out j hj))) w4.heap.size (.int .i64 3) rfl (by simp [go_sem]) rfl (by omega) (by simp; omega) ?a4)
                case a4 =>
                  intro u' w5 o6 g6
                  have z5 := g6.gr.size
                  simp at z5
                  have hSO : SO w5 w1.heap.size v' u' (R ++ [RW1]) := SO.put Vs HO2.out HA3.out HAp.out HLv.out HLu.out hbA HG5.out (by rw [HRl.out]; exact HO5.out) hbB g6 (by rw [HRl.out, HE.out]; exact o6) hFS.out
                  have hc1 : Below w1.heap.size w2 w5 := Below.trans (hbA.mono (by omega)) (Below.trans (HG5.out.bel (by simp; omega) (fun j hj => own_block HA1.out j hj)) (Below.trans (hbB.mono (by omega)) (g6.bel (by simp; omega) (fun j hj => own_block HA5.out j hj))))
                  have hb05 : Below w.heap.size w w5 := hb03.trans (hc1.mono (by omega))
                  have hb15 : Below w1.heap.size w1 w5 := hb13.trans hc1
                  have HSO : Hid (SO w5 w1.heap.size v' u' (R ++ [RW1])) := hSO
                  clear hSO o6 g6 HG5 HO5 HA5 hFS HA1 HA3 HA4 hc1
                  go_wp2_with fail
                  obtain ⟨t1, t2, t3⟩ := HT1.out
                  exact ⟨⟨k + 1, by omega, by go_num, by rw [t3]; exact HSO, (by rw [t1, HPT.out]; first | done | go_num | (push_cast; rfl)), by rw [t2], hb05, hb15, by omega⟩, by simp [intOf]; omega⟩
            · have HA1 : Hid (w2.ownsRow w1.heap.size 55 1 (Value.slice ea k ec) k Vs) := own_step HO1.out (fun j hj => hbW.block j (HLv0.out j hj))
              have HA4 : Hid (w2.ownsRow w1.heap.size 24 1 (Value.slice eb k ed) k (R.map fun r => .int .i64 r.e)) := own_step HO4.out (fun j hj => hbW.block j (HLu0.out j hj))
              have zW := hbW.size
              have HA3 : Hid (∀ (j : Nat) (r : Rw), R[j]? = some r → ∃ x, Vs[j]? = some x ∧ FSl w2 (Sc w1.heap.size w2 (Value.slice ea k ec) (Value.slice eb k ed)) x r.m r.f) := fun j r hj => by
                obtain ⟨y, y1, y2⟩ := HO3.out j r hj
                exact ⟨y, y1, y2.keep (fun q hq => hbW.block q hq.2.1) (fun q hq => ⟨hq.1, by have := hq.2.1; omega, hq.2.2⟩)⟩
              have HLv : Hid (∀ j, (Value.slice ea k ec).ownBlock = some j → j < w2.heap.size) := own_lt HA1.out
              have HLu : Hid (∀ j, (Value.slice eb k ed).ownBlock = some j → j < w2.heap.size) := own_lt HA4.out
              have hb03 : Below w.heap.size w w2 := hbr.trans (hbW.mono (by omega))
              have hb13 : Below w1.heap.size w1 w2 := hbq.trans (hbW.mono (by omega))
              have hbA : Below w2.heap.size w2 (w2.alloc (Obj.cells #[.slice none 0 0] 55)) := (Below.refl _ _).alloc (Nat.le_refl _) _
              clear HO1 HO3 HO4 HLv0 HLu0 HSm r0
              go_wp2_with (at_builtin; refine wpList_append_1 50 55 (.slice none 0 0) 24 Try.underlying50 infoFs rfl (by omega) rfl (.tmp 40) (.tmp 41) rfl w1.heap.size _ k Vs rfl (own_step HA1.out (fun j hj => hbA.block j (HLv.out j hj))) w2.heap.size (.slice none 0 0) rfl (by simp [go_sem]) rfl (by omega) (by simp; omega) ?a3)
              case a3 =>
                intro v' w4 o5 g5
                have z4 := g5.gr.size
                simp at z4
                have HO5 : Hid (w4.ownsRow w1.heap.size 55 1 v' (k + 1) (Vs ++ [.slice none 0 0])) := o5
                have HG5 : Hid (Gw (w2.alloc (Obj.cells #[.slice none 0 0] 55)) w4 (Value.slice ea k ec) v') := g5
                have HA5 : Hid (w4.ownsRow w1.heap.size 24 1 (Value.slice eb k ed) k (R.map fun r => .int .i64 r.e)) := own_step HA4.out (fun j hj => by
                  rw [g5.gr.block j (by have := HLu.out j hj; simp; omega) (fun q => HAp.out j q.symm hj)]
                  exact hbA.block j (HLu.out j hj))
                have hbB : Below w4.heap.size w4 (w4.alloc (Obj.cells #[.int .i64 3] 24)) := (Below.refl _ _).alloc (Nat.le_refl _) _
                have HLu4 : Hid (∀ j, (Value.slice eb k ed).ownBlock = some j → j < w4.heap.size) := own_lt HA5.out
                clear o5 g5
                go_wp2_with (at_builtin; refine wpList_append_1 51 24 (.int .i64 0) 8 Try.underlying51 infoEr rfl (by omega) rfl (.tmp 43) (.tmp 44) rfl w1.heap.size _ k (R.map fun r => .int .i64 r.e) rfl (own_step HA5.out (fun j hj => hbB.block j (HLu4.out j hj))) w4.heap.size (.int .i64 3) rfl (by simp [go_sem]) rfl (by omega) (by simp; omega) ?a4)
                case a4 =>
                  intro u' w5 o6 g6
                  have z5 := g6.gr.size
                  simp at z5
                  have hSO : SO w5 w1.heap.size v' u' (R ++ [RW1]) := SO.put Vs HO2.out HA3.out HAp.out HLv.out HLu.out hbA HG5.out (by rw [HRl.out]; exact HO5.out) hbB g6 (by rw [HRl.out, HE.out]; exact o6) hFS.out
                  have hc1 : Below w1.heap.size w2 w5 := Below.trans (hbA.mono (by omega)) (Below.trans (HG5.out.bel (by simp; omega) (fun j hj => own_block HA1.out j hj)) (Below.trans (hbB.mono (by omega)) (g6.bel (by simp; omega) (fun j hj => own_block HA5.out j hj))))
                  have hb05 : Below w.heap.size w w5 := hb03.trans (hc1.mono (by omega))
                  have hb15 : Below w1.heap.size w1 w5 := hb13.trans hc1
                  have HSO : Hid (SO w5 w1.heap.size v' u' (R ++ [RW1])) := hSO
                  clear hSO o6 g6 HG5 HO5 HA5 hFS HA1 HA3 HA4 hc1
                  go_wp2_with fail
                  obtain ⟨t1, t2, t3⟩ := HT1.out
                  exact ⟨⟨k + 1, by omega, by go_num, by rw [t3]; exact HSO, (by rw [t1, HPT.out]; first | done | go_num | (push_cast; rfl)), by rw [t2], hb05, hb15, by omega⟩, by simp [intOf]; omega⟩
          · obtain ⟨m, rfl, hm⟩ : ∃ m : Nat, PL = m ∧ m ≤ 65536 := ⟨PL.toNat, by omega, by omega⟩
            have e1 : RW1 = ⟨m, 0, fun i => S p PO (T + i)⟩ := HRow.out.trans ((if_neg hbad).trans (by rw [Int.toNat_natCast]))
            have HPT : Hid (PT = T + m) := HT2.out.trans ((if_neg hbad).trans (by rw [Int.toNat_natCast]))
            have HE : Hid (RW1.e = 0) := by rw [e1]; rfl
            have HRW : Hid (RW1 = ⟨m, 0, fun i => S p PO (T + i)⟩) := e1
            clear HRow HT2 e1 hbad
            have n1 : ¬ (m : Int) < 0 := by omega
            have n2 : ¬ (65536 : Int) < m := by omega
            have HP2 : Hid (PB w2 w.heap.size p) := HP1.out.bel hbq z1 hzr
            go_wp2_with fail
            go_loopw [14, 15, 10] (fun lv i t ww => ∃ j : Nat, j ≤ m ∧ i = .int .i64 j ∧ t = .int .i64 ((T + j : Nat) : Int) ∧ Hid (ww.ownsRow w2.heap.size 47 1 lv j (fls p PO T j)) ∧ Below w2.heap.size w2 ww ∧ w2.heap.size ≤ ww.heap.size) (fun _ i _ _ => m - (intOf i).toNat)
            case atStart => exact ⟨0, by omega, rfl, rfl, World.ownsRow_nil _ _ _ _, Below.refl _ _, Nat.le_refl _⟩
            case round =>
              obtain ⟨j, hj, rfl, rfl, hF, hbW, hzW⟩ := hrel
              by_cases hjm : j < m
              · have hjm' : (j : Int) < (m : Int) := by omega
                have hq := HSm (T + j) PO (HOf2.out.mono (by omega)) (by omega) wr
                have HPr : Hid (PB wr w.heap.size p) := HP2.out.bel hbW (by omega) hzW
                have p0 := HPr.out.c0
                have p1 := HPr.out.c1
                have p2 := HPr.out.c2
                have p3 := HPr.out.c3
                have p4 := HPr.out.c4
                have p5 := HPr.out.c5
                have p6 := HPr.out.c6
                have plt := HPr.out.lt
                generalize hSV : S p PO (T + j) = SV at *
                have HSV : Hid (fls p PO T (j + 1) = fls p PO T j ++ [.float .f64 SV]) := by rw [← hSV]; rfl
                clear hSV HSm
                obtain ⟨la, lc, rfl, lf1, lf2⟩ := own_form hF.out
                go_wp2_with fail
                refine hq.mono ?_
                rintro e w3 ⟨rfl, hb3⟩
                have hbC : Below w3.heap.size w3 (w3.alloc (Obj.cells #[.float .f64 SV] 47)) := (Below.refl _ _).alloc (Nat.le_refl _) _
                have HF3 : Hid (w3.ownsRow w2.heap.size 47 1 (.slice la j lc) j (fls p PO T j)) := own_step hF.out (fun q hq => hb3.block q (own_lt hF.out q hq))
                have HLf : Hid (∀ q, (Value.slice la j lc).ownBlock = some q → q < w3.heap.size) := own_lt HF3.out
                have z3 := hb3.size
                clear hq p0 p1 p2 p3 p4 p5 p6
                go_wp2_with (at_builtin; refine wpList_append_1 55 47 (.float .f64 0) 8 Try.underlying55 infoF rfl (by omega) rfl (.tmp 51) (.tmp 56) rfl w2.heap.size _ j (fls p PO T j) rfl (own_step HF3.out (fun q hq => hbC.block q (HLf.out q hq))) w3.heap.size (.float .f64 SV) rfl (by simp [go_sem]) rfl (by omega) (by simp; omega) ?a7)
                case a7 =>
                  intro lv' w4 o7 g7
                  have z7 := g7.gr.size
                  simp at z7
                  have HO7 : Hid (w4.ownsRow w2.heap.size 47 1 lv' (j + 1) (fls p PO T j ++ [.float .f64 SV])) := o7
                  have hb7 : Below w2.heap.size w2 w4 := hbW.trans ((hb3.mono (by omega)).trans ((hbC.mono (by omega)).trans (g7.bel (by simp; omega) (fun q hq => own_block HF3.out q hq))))
                  have wT : IntKind.i64.wrap (((T + j : Nat) : Int) + 1) = ((T + j : Nat) : Int) + 1 := wid (by omega) (by omega)
                  have wJ : IntKind.i64.wrap ((j : Int) + 1) = (j : Int) + 1 := wid (by omega) (by omega)
                  clear o7 g7 HF3 HLf hF
                  go_wp2_with fail
                  exact ⟨⟨j + 1, by omega, by go_num, by go_num, by rw [HSV.out]; exact HO7, hb7, by omega⟩, by simp [intOf]; omega⟩
              · obtain rfl : j = m := by omega
                have HFS0 := own_FS (f := fun i => S p PO (T + i)) hF.out (fun i hi => fls_get p PO T j i hi)
                obtain ⟨la, lc, rfl, lf1, lf2⟩ := own_form hF.out
                have hFS : Hid (FSl wr (Sc w1.heap.size wr (Value.slice ea k ec) (Value.slice eb k ed)) (.slice la j lc) RW1.m RW1.f) := by
                  rw [HRW.out]
                  exact HFS0.keep (fun _ _ => rfl) (fun q hq => ⟨by have := hq.1; omega, hq.2, fun e => by have := HLv0.out q e.symm; have := hq.1; omega, fun e => by have := HLu0.out q e.symm; have := hq.1; omega⟩)
                clear HFS0 hF HRW HP2 HOf2
                have HA1 : Hid (wr.ownsRow w1.heap.size 55 1 (Value.slice ea k ec) k Vs) := own_step HO1.out (fun j hj => hbW.block j (HLv0.out j hj))
                have HA4 : Hid (wr.ownsRow w1.heap.size 24 1 (Value.slice eb k ed) k (R.map fun r => .int .i64 r.e)) := own_step HO4.out (fun j hj => hbW.block j (HLu0.out j hj))
                have zW := hbW.size
                have HA3 : Hid (∀ (j : Nat) (r : Rw), R[j]? = some r → ∃ x, Vs[j]? = some x ∧ FSl wr (Sc w1.heap.size wr (Value.slice ea k ec) (Value.slice eb k ed)) x r.m r.f) := fun j r hj => by
                  obtain ⟨y, y1, y2⟩ := HO3.out j r hj
                  exact ⟨y, y1, y2.keep (fun q hq => hbW.block q hq.2.1) (fun q hq => ⟨hq.1, by have := hq.2.1; omega, hq.2.2⟩)⟩
                have HLv : Hid (∀ j, (Value.slice ea k ec).ownBlock = some j → j < wr.heap.size) := own_lt HA1.out
                have HLu : Hid (∀ j, (Value.slice eb k ed).ownBlock = some j → j < wr.heap.size) := own_lt HA4.out
                have hb03 : Below w.heap.size w wr := hbr.trans (hbW.mono (by omega))
                have hb13 : Below w1.heap.size w1 wr := hbq.trans (hbW.mono (by omega))
                have hbA : Below wr.heap.size wr (wr.alloc (Obj.cells #[.slice la j lc] 55)) := (Below.refl _ _).alloc (Nat.le_refl _) _
                clear HO1 HO3 HO4 HLv0 HLu0 HSm r0
                go_wp2_with (at_builtin; refine wpList_append_1 50 55 (.slice none 0 0) 24 Try.underlying50 infoFs rfl (by omega) rfl (.tmp 60) (.tmp 62) rfl w1.heap.size _ k Vs rfl (own_step HA1.out (fun j hj => hbA.block j (HLv.out j hj))) wr.heap.size (.slice la j lc) rfl (by simp [go_sem]) rfl (by omega) (by simp; omega) ?a3)
                case a3 =>
                  intro v' w4 o5 g5
                  have z4 := g5.gr.size
                  simp at z4
                  have HO5 : Hid (w4.ownsRow w1.heap.size 55 1 v' (k + 1) (Vs ++ [.slice la j lc])) := o5
                  have HG5 : Hid (Gw (wr.alloc (Obj.cells #[.slice la j lc] 55)) w4 (Value.slice ea k ec) v') := g5
                  have HA5 : Hid (w4.ownsRow w1.heap.size 24 1 (Value.slice eb k ed) k (R.map fun r => .int .i64 r.e)) := own_step HA4.out (fun j hj => by
                    rw [g5.gr.block j (by have := HLu.out j hj; simp; omega) (fun q => HAp.out j q.symm hj)]
                    exact hbA.block j (HLu.out j hj))
                  have hbB : Below w4.heap.size w4 (w4.alloc (Obj.cells #[.int .i64 0] 24)) := (Below.refl _ _).alloc (Nat.le_refl _) _
                  have HLu4 : Hid (∀ j, (Value.slice eb k ed).ownBlock = some j → j < w4.heap.size) := own_lt HA5.out
                  clear o5 g5
                  go_wp2_with (at_builtin; refine wpList_append_1 51 24 (.int .i64 0) 8 Try.underlying51 infoEr rfl (by omega) rfl (.tmp 64) (.tmp 65) rfl w1.heap.size _ k (R.map fun r => .int .i64 r.e) rfl (own_step HA5.out (fun j hj => hbB.block j (HLu4.out j hj))) w4.heap.size (.int .i64 0) rfl (by simp [go_sem]) rfl (by omega) (by simp; omega) ?a4)
                  case a4 =>
                    intro u' w5 o6 g6
                    have z5 := g6.gr.size
                    simp at z5
                    have hSO : SO w5 w1.heap.size v' u' (R ++ [RW1]) := SO.put Vs HO2.out HA3.out HAp.out HLv.out HLu.out hbA HG5.out (by rw [HRl.out]; exact HO5.out) hbB g6 (by rw [HRl.out, HE.out]; exact o6) hFS.out
                    have hc1 : Below w1.heap.size wr w5 := Below.trans (hbA.mono (by omega)) (Below.trans (HG5.out.bel (by simp; omega) (fun j hj => own_block HA1.out j hj)) (Below.trans (hbB.mono (by omega)) (g6.bel (by simp; omega) (fun j hj => own_block HA5.out j hj))))
                    have hb05 : Below w.heap.size w w5 := hb03.trans (hc1.mono (by omega))
                    have hb15 : Below w1.heap.size w1 w5 := hb13.trans hc1
                    have HSO : Hid (SO w5 w1.heap.size v' u' (R ++ [RW1])) := hSO
                    clear hSO o6 g6 HG5 HO5 HA5 hFS HA1 HA3 HA4 hc1
                    go_wp2_with fail
                    obtain ⟨t1, t2, t3⟩ := HT1.out
                    exact ⟨⟨k + 1, by omega, by go_num, by rw [t3]; exact HSO, (by rw [t1, HPT.out]; first | done | go_num | (push_cast; rfl)), by rw [t2], hb05, hb15, by omega⟩, by simp [intOf]; omega⟩
      · obtain rfl : k = l.length := by omega
        obtain ⟨ea, ec, eb, ed, rfl, f1, f2, rfl, f3, f4⟩ := hS.out.form
        clear HSm
        go_wp2_with fail
        go_returns
        exact HQ.out _ _ _ _ _ hbr rfl (by omega) hS.out
  · have HQ : Hid (∀ e w', Below w.heap.size w w' → e = .returned (.tuple #[.slice none 0 0, .slice none 0 0, .int .i64 (wr p)]) → SgQ w p l e w') := fun e w' hb he => ⟨hb, fun _ => he, fun h => absurd h hz⟩
    have hne : (wr p != 0) = true := by simpa using hz
    clear hL hz
    generalize wr p = WR at *
    go_enter Try.func15, Try.ntmps15
    go_wp2_with fail
    refine (HN _).mono ?_
    rintro e w1 ⟨rfl, hb1⟩
    have hb01 : Below w.heap.size w w1 := Below.trans (by go_grown) (hb1.mono (by simp))
    go_wp2_with fail
    go_returns
    exact HQ.out _ _ hb01 rfl
end Go.Proofs.Ytjfmpgfpehnnjah.Vo
