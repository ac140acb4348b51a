/- The singer's moves are others now; what its item and items come to, as contracts. -/
import Derived.Test.YtaohahahhjkcdaeGreatDoorSG32
import Derived.Test.YtaohahahhjkcdaeGreatDoorSG33
import Derived.Test.YtaohahahhjkcdaeGreatDoorSG4
import Derived.Test.YtaohahahhjkcdaeGreatDoorSG34
import Derived.Test.YtaohahahhjkcdaeGreatDoorSG25
import Derived.Deep.AppendLies
import Derived.Deep.DeepCutAuto
import Derived.Deep.RegionLaw
namespace Go.Proofs.YtaohahahhjkcdaeGreatDoor.G
open Go.RowKit
set_option linter.unusedVariables false
set_option linter.unusedSimpArgs false

theorem gwid {x : Int} (h1 : -9223372036854775808 ≤ x) (h2 : x ≤ 9223372036854775807) : IntKind.i64.wrap x = x := by
  rw [IntKind.wrap_i64]; omega
/-- The moves are others now. -/
theorem Sg.moves {w w' : World} {q : Nat} {ns : List M.Nt} {vo au ad : Int} {tm : List F.M.Sp} {mv mv' : List (Int × Int)} {hd : Nat} {vN vM vT vM' : Value} (h : Sg w q ns vo au ad tm mv hd vN vM vT)
    (hz : w.heap.size ≤ w'.heap.size) (hb : ∀ b, b < w.heap.size → b ≠ q → vM.ownBlock ≠ some b → w'.heap[b]? = w.heap[b]?) (hm : w'.ownsRow (q + 1) 59 2 vM' mv'.length (ivL mv')) (ho : ∀ k, vM'.ownBlock = some k → vM.ownBlock = some k ∨ w.heap.size ≤ k)
    (hc : ∀ i, i ≠ 5 → w'.cell? ⟨q, i, none⟩ = w.cell? ⟨q, i, none⟩) (c5 : w'.cell? ⟨q, 5, none⟩ = some vM') (hf : ∀ i, w'.frozen? ⟨q, i, none⟩ = w.frozen? ⟨q, i, none⟩) :
    Sg w' q ns vo au ad tm mv' hd vN vM' vT ∧ Kp w q vN vM w' vN vM' := by
  have l := h.lt
  have nlt := F.own_lt h.n
  have nge := F.own_block h.n
  refine ⟨⟨by omega, (hc 0 (by omega)).trans h.c0, (hc 1 (by omega)).trans h.c1, (hc 2 (by omega)).trans h.c2, (hc 3 (by omega)).trans h.c3, (hc 4 (by omega)).trans h.c4, c5, (hc 6 (by omega)).trans h.c6, fun i => (hf i).trans (h.fz i), ?_, hm, fun b e1 e2 => ?_, ?_⟩, ?_⟩
  · exact own_of h.n (fun b e => hb b (nlt b e) (by have := nge b e; omega) (fun e2 => h.ap b e e2))
  · rcases ho b e2 with x | x
    · exact h.ap b e1 x
    · have := nlt b e1; omega
  · exact h.t.of hz (fun b b1 b2 _ b3 => hb b b1 b2 b3) (fun k e => .inl e) ho
  · exact ⟨hz, fun b b1 b2 _ b3 => hb b b1 b2 b3, fun k e => .inl e, ho⟩

/-- What items comes to, of the kids of t. -/
def ITC (t : M.It) : Prop := ∀ (w : World) (q B N : Nat) (ka : Option Addr) (kc : Nat) (z : M.Zs) (vo au ad : Int) (mv : List (Int × Int)) (vN vM vT : Value) (lev m : Int),
  LL w B t ka → GT w B → B ≤ q → t.n ≤ kc → kc ≤ 9223372036854775807 → 0 ≤ m → m ≤ 4095 → (M.ri t lev m).1 = true → (mv.length : Int) < lev → Sg w q z.ns vo au ad z.tm mv z.hd vN vM vT → F.M.Ok (au, ad) → M.Zo z N → N < 1099511627776 → M.lc t ≤ z.tm.length →
  Calls Tryz.prog 23 #[.pointer (some ⟨q, 0, none⟩), .slice ka t.n kc] w fun e w' => e = .returned (.int .i64 (M.sg vo (au, ad) t mv z).2) ∧ ((M.sg vo (au, ad) t mv z).2 = 0 → ∃ vN' vM' vT', Sg w' q (M.sg vo (au, ad) t mv z).1.ns vo au ad (M.sg vo (au, ad) t mv z).1.tm mv (M.sg vo (au, ad) t mv z).1.hd vN' vM' vT' ∧ Kp w q vN vM w' vN' vM') ∧ Below B w w' ∧ Mq w' q mv.length
/-- What item comes to. -/
def IMC (t : M.It) : Prop := ∀ (w : World) (q B N : Nat) (pa ka : Option Addr) (pc kc : Nat) (z : M.Zs) (vo au ad : Int) (mv : List (Int × Int)) (vN vM vT : Value) (lev : Int),
  PS w B pa t.np t.pl t.pa t.po → t.np ≤ pc → pc ≤ 9223372036854775807 → t.ly.size ≤ 140737488355328 → LL w B t ka → GT w B → B ≤ q → t.n ≤ kc → kc ≤ 9223372036854775807 → M.raI t = true → ((t.k = 4 ∨ t.k = 5) → ∃ m', 0 ≤ m' ∧ m' ≤ 4095 ∧ (M.ri t (lev + 1) m').1 = true) → (mv.length : Int) < lev → lev ≤ 31 → Sg w q z.ns vo au ad z.tm mv z.hd vN vM vT → F.M.Ok (au, ad) → M.Zo z N → N < 1099511627776 → M.l1 t ≤ z.tm.length →
  Calls Tryz.prog 37 #[.pointer (some ⟨q, 0, none⟩), .agg #[.int .i64 t.k, .int .i64 t.s, .slice pa t.np pc, .int .i64 t.b1, .int .i64 t.b2, .string t.ly, .slice ka t.n kc]] w fun e w' => e = .returned (.int .i64 (M.s1 vo (au, ad) mv t z).2) ∧ ((M.s1 vo (au, ad) mv t z).2 = 0 → ∃ vN' vM' vT', Sg w' q (M.s1 vo (au, ad) mv t z).1.ns vo au ad (M.s1 vo (au, ad) mv t z).1.tm mv (M.s1 vo (au, ad) mv t z).1.hd vN' vM' vT' ∧ Kp w q vN vM w' vN' vM') ∧ Below B w w' ∧ Mq w' q mv.length
/-- A leaf, in the words of lf. -/
theorem leaf_any (t : M.It) (w : World) (q B N : Nat) (pa ka : Option Addr) (pc kc : Nat) (z : M.Zs) (vo au ad : Int) (mv : List (Int × Int)) (vN vM vT : Value)
    (hp : PS w B pa t.np t.pl t.pa t.po) (hpc : t.np ≤ pc) (hpm : pc ≤ 9223372036854775807) (hly : t.ly.size ≤ 140737488355328) (hg : GT w B) (hB : B ≤ q) (hra : M.raI t = true) (h4 : t.k ≠ 4) (h5 : t.k ≠ 5) (hS : Sg w q z.ns vo au ad z.tm mv z.hd vN vM vT) (hO : F.M.Ok (au, ad)) (hz : M.Zo z N) (hN : N < 1099511627776) (hl : 0 < z.tm.length) :
    Calls Tryz.prog 52 #[.pointer (some ⟨q, 0, none⟩), .agg #[.int .i64 t.k, .int .i64 t.s, .slice pa t.np pc, .int .i64 t.b1, .int .i64 t.b2, .string t.ly, .slice ka t.n kc]] w fun e w' => e = .returned (.int .i64 (M.lf vo (au, ad) mv t z).2) ∧ ((M.lf vo (au, ad) mv t z).2 = 0 → ∃ vN' vM' vT', Sg w' q (M.lf vo (au, ad) mv t z).1.ns vo au ad (M.lf vo (au, ad) mv t z).1.tm mv (M.lf vo (au, ad) mv t z).1.hd vN' vM' vT' ∧ Kp w q vN vM w' vN' vM') ∧ Below B w w' ∧ Mq w' q mv.length := by
  obtain ⟨ns, hd, tm⟩ := z
  cases tm with
  | nil => simp at hl
  | cons sp tm =>
    obtain ⟨⟨x1, x2⟩, ⟨x3, x4⟩, x5⟩ := sp
    have hsp := hz.tm ((x1, x2), (x3, x4), x5) (by simp)
    have hlen := hz.len
    have hhd := hz.hd
    simp only [List.length_cons] at hlen hhd
    simp only at hS
    cases hpl : F.M.pl (au, ad) (x1, x2) with
    | none =>
      have e : M.lf vo (au, ad) mv t ⟨ns, hd, ((x1, x2), (x3, x4), x5) :: tm⟩ = (⟨ns, hd, ((x1, x2), (x3, x4), x5) :: tm⟩, 4) := by unfold M.lf; simp only [hpl]
      rw [e]
      refine (leaf_none t.s t.b1 t.b2 pa ka t.np pc t.n kc t.pl t.pa t.po t.ly x1 x2 x3 x4 x5 w q B ns vo au ad tm mv hd vN vM vT hB hS hO hsp.1 t.k hpl).mono ?_
      rintro e w' ⟨rfl, h1, h2⟩
      exact ⟨rfl, fun h => absurd (show (4 : Int) = 0 from h) (by decide), h1, h2⟩
    | some st =>
      by_cases k1 : t.k = 1
      · have e : M.lf vo (au, ad) mv t ⟨ns, hd, ((x1, x2), (x3, x4), x5) :: tm⟩ = (⟨ns ++ (M.cdn vo st (x3, x4) mv t).1, t.np, tm⟩, (M.cdn vo st (x3, x4) mv t).2) := by unfold M.lf; simp only [hpl]; rw [if_pos k1]
        rw [e]
        have hnp := M.ra_note hra k1
        have HL := leaf_note t.s t.b1 t.b2 pa ka t.np pc t.n kc t.pl t.pa t.po t.ly x1 x2 x3 x4 x5 w q B ns vo au ad tm mv hd vN vM vT hB hS hO hsp.1 st hpl hp hg hpc hpm hly (by omega)
        rw [k1]
        refine HL.mono ?_
        rintro e w' ⟨rfl, h1, h2, h3⟩
        refine ⟨rfl, fun h => ?_, h2, h3⟩
        obtain ⟨vN', vT', y1, y2⟩ := h1 h
        exact ⟨vN', vM, vT', y1, y2⟩
      · by_cases k3 : t.k = 3
        · have hdl : (ns.drop (ns.length - hd)).length = hd := by rw [List.length_drop]; omega
          have hS2 : Sg w q (ns.take (ns.length - hd) ++ ns.drop (ns.length - hd)) vo au ad (((x1, x2), (x3, x4), x5) :: tm) mv (ns.drop (ns.length - hd)).length vN vM vT := by rw [List.take_append_drop, hdl]; exact hS
          have HL := leaf_tie t.s t.b1 t.b2 pa ka t.np pc t.n kc t.pl t.pa t.po t.ly x1 x2 x3 x4 x5 w q B (ns.take (ns.length - hd)) (ns.drop (ns.length - hd)) vo au ad tm mv vN vM vT hB hS2 hO hsp.1 st hpl hsp.2 (fun x hx => hz.ok x (List.mem_of_mem_drop hx)) (by rw [List.take_append_drop]; omega)
          rw [k3]
          cases ht : M.tl (x3, x4) (ns.drop (ns.length - hd)) with
          | none =>
            have e : M.lf vo (au, ad) mv t ⟨ns, hd, ((x1, x2), (x3, x4), x5) :: tm⟩ = (⟨ns, hd, ((x1, x2), (x3, x4), x5) :: tm⟩, 4) := by unfold M.lf; simp only [hpl]; rw [if_neg k1, if_pos k3]; simp only [ht]
            rw [e]
            rw [ht] at HL
            refine HL.mono ?_
            rintro e w' ⟨rfl, h1, h2, h3⟩
            exact ⟨rfl, fun h => absurd (show (4 : Int) = 0 from h) (by decide), h2, h3⟩
          | some l =>
            have e : M.lf vo (au, ad) mv t ⟨ns, hd, ((x1, x2), (x3, x4), x5) :: tm⟩ = (⟨ns.take (ns.length - hd) ++ l, hd, tm⟩, 0) := by unfold M.lf; simp only [hpl]; rw [if_neg k1, if_pos k3]; simp only [ht]
            rw [e]
            rw [ht] at HL
            refine HL.mono ?_
            rintro e w' ⟨rfl, h1, h2, h3⟩
            refine ⟨rfl, fun _ => ?_, h2, h3⟩
            obtain ⟨vT', y1, y2⟩ := h1 l rfl
            rw [hdl] at y1
            exact ⟨vN, vM, vT', y1, y2⟩
        · have e : M.lf vo (au, ad) mv t ⟨ns, hd, ((x1, x2), (x3, x4), x5) :: tm⟩ = (⟨ns, 0, tm⟩, 0) := by unfold M.lf; simp only [hpl]; rw [if_neg k1, if_neg k3]
          rw [e]
          refine (leaf_rest t.s t.b1 t.b2 pa ka t.np pc t.n kc t.pl t.pa t.po t.ly x1 x2 x3 x4 x5 w q B ns vo au ad tm mv hd vN vM vT hB hS hO hsp.1 t.k st hpl k1 k3).mono ?_
          rintro e w' ⟨rfl, ⟨vT', y1, y2⟩, h2, h3⟩
          exact ⟨rfl, fun _ => ⟨vN, vM, vT', y1, y2⟩, h2, h3⟩
end Go.Proofs.YtaohahahhjkcdaeGreatDoor.G

/- What the singer's item comes to. -/
namespace Go.Proofs.YtaohahahhjkcdaeGreatDoor.G
open Go.RowKit
set_option linter.unusedVariables false
set_option linter.unusedSimpArgs false

theorem infoIv : (Tryz.prog.info? 59).map (fun i => (i.zero, i.size, i.bytes)) = some (some (.agg #[.int .i64 0, .int .i64 0]), 2, 16) := by kernel_rfl
theorem M.s1_4 {vo : Int} {av : Int × Int} {mv : List (Int × Int)} {t : M.It} {z : M.Zs} (h : t.k = 4) : M.s1 vo av mv t z = M.sg vo av t mv z := by unfold M.s1; rw [if_pos h]
theorem M.s1_5 {vo : Int} {av : Int × Int} {mv : List (Int × Int)} {t : M.It} {z : M.Zs} (h : t.k = 5) : M.s1 vo av mv t z = M.sg vo av t (mv ++ [(t.b1, t.b2)]) z := by unfold M.s1; rw [if_neg (by omega), if_pos h]
theorem M.s1_l {vo : Int} {av : Int × Int} {mv : List (Int × Int)} {t : M.It} {z : M.Zs} (h4 : t.k ≠ 4) (h5 : t.k ≠ 5) : M.s1 vo av mv t z = M.lf vo av mv t z := by unfold M.s1; rw [if_neg h4, if_neg h5]
theorem M.l1_g {t : M.It} (h : t.k = 4 ∨ t.k = 5) : M.l1 t = M.lc t := by unfold M.l1; rw [if_pos h]
theorem M.l1_l {t : M.It} (h : ¬ (t.k = 4 ∨ t.k = 5)) : M.l1 t = 1 := by unfold M.l1; rw [if_neg h]
theorem ivL_app (l : List (Int × Int)) (x : Int × Int) : ivL (l ++ [x]) = ivL l ++ [.int .i64 x.1, .int .i64 x.2] := by
  induction l with
  | nil => rfl
  | cons y l ih => simp [ivL, ih]

/-- A group's kids, and a leaf. -/
theorem item_group (t : M.It) (ih : ITC t) (w : World) (q B N : Nat) (pa ka : Option Addr) (pc kc : Nat) (z : M.Zs) (vo au ad : Int) (mv : List (Int × Int)) (vN vM vT : Value) (lev m : Int)
    (hL : LL w B t ka) (hg : GT w B) (hB : B ≤ q) (hn : t.n ≤ kc) (hkc : kc ≤ 9223372036854775807) (hk : t.k = 4) (m1 : 0 ≤ m) (m2 : m ≤ 4095) (hri : (M.ri t (lev + 1) m).1 = true) (hmv : (mv.length : Int) < lev) (hS : Sg w q z.ns vo au ad z.tm mv z.hd vN vM vT) (hO : F.M.Ok (au, ad)) (hz : M.Zo z N) (hN : N < 1099511627776) (hl : M.lc t ≤ z.tm.length) :
    Calls Tryz.prog 37 #[.pointer (some ⟨q, 0, none⟩), .agg #[.int .i64 4, .int .i64 t.s, .slice pa t.np pc, .int .i64 t.b1, .int .i64 t.b2, .string t.ly, .slice ka t.n kc]] w fun e w' => e = .returned (.int .i64 (M.sg vo (au, ad) t mv z).2) ∧ ((M.sg vo (au, ad) t mv z).2 = 0 → ∃ vN' vM' vT', Sg w' q (M.sg vo (au, ad) t mv z).1.ns vo au ad (M.sg vo (au, ad) t mv z).1.tm mv (M.sg vo (au, ad) t mv z).1.hd vN' vM' vT' ∧ Kp w q vN vM w' vN' vM') ∧ Below B w w' ∧ Mq w' q mv.length := by
  have hqz := hS.lt
  have hb : Below w.heap.size w (w.alloc (Obj.cells #[.int .i64 4, .int .i64 t.s, .slice pa t.np pc, .int .i64 t.b1, .int .i64 t.b2, .string t.ly, .slice ka t.n kc] 61)) := by go_grown
  have hbB := hb.mono (show B ≤ w.heap.size by omega)
  have HI := ih (w.alloc (Obj.cells #[.int .i64 4, .int .i64 t.s, .slice pa t.np pc, .int .i64 t.b1, .int .i64 t.b2, .string t.ly, .slice ka t.n kc] 61)) q B N ka kc z vo au ad mv vN vM vT (lev + 1) m (LL.step t _ hL hbB) (hg.step hbB) hB hn hkc m1 m2 hri (by omega) (hS.step hb) hO hz hN hl
  generalize M.sg vo (au, ad) t mv z = R at *
  have HK : Hid (Kp w q vN vM (w.alloc (Obj.cells #[.int .i64 4, .int .i64 t.s, .slice pa t.np pc, .int .i64 t.b1, .int .i64 t.b2, .string t.ly, .slice ka t.n kc] 61)) vN vM) := Kp.below hb
  have HB : Hid (Below B w (w.alloc (Obj.cells #[.int .i64 4, .int .i64 t.s, .slice pa t.np pc, .int .i64 t.b1, .int .i64 t.b2, .string t.ly, .slice ka t.n kc] 61))) := hbB
  clear ih hL hg hri hS hz hO hb hbB
  go_enter Tryz.func37, Tryz.ntmps37
  go_wp2_with fail
  refine HI.mono ?_
  rintro e w2 ⟨rfl, h1, h2, h3⟩
  have H1 : Hid _ := h1
  clear h1
  go_wp2_with fail
  go_ret
  refine ⟨rfl, fun h0 => ?_, HB.out.trans h2, h3⟩
  obtain ⟨vN', vM', vT', y1, y2⟩ := H1.out h0
  exact ⟨vN', vM', vT', y1, HK.out.trans y2⟩

theorem item_leaf (t : M.It) (w : World) (q B N : Nat) (pa ka : Option Addr) (pc kc : Nat) (z : M.Zs) (vo au ad : Int) (mv : List (Int × Int)) (vN vM vT : Value)
    (hp : PS w B pa t.np t.pl t.pa t.po) (hpc : t.np ≤ pc) (hpm : pc ≤ 9223372036854775807) (hly : t.ly.size ≤ 140737488355328) (hg : GT w B) (hB : B ≤ q) (hra : M.raI t = true) (h4 : t.k ≠ 4) (h5 : t.k ≠ 5) (hS : Sg w q z.ns vo au ad z.tm mv z.hd vN vM vT) (hO : F.M.Ok (au, ad)) (hz : M.Zo z N) (hN : N < 1099511627776) (hl : 0 < z.tm.length) :
    Calls Tryz.prog 37 #[.pointer (some ⟨q, 0, none⟩), .agg #[.int .i64 t.k, .int .i64 t.s, .slice pa t.np pc, .int .i64 t.b1, .int .i64 t.b2, .string t.ly, .slice ka t.n kc]] w fun e w' => e = .returned (.int .i64 (M.lf vo (au, ad) mv t z).2) ∧ ((M.lf vo (au, ad) mv t z).2 = 0 → ∃ vN' vM' vT', Sg w' q (M.lf vo (au, ad) mv t z).1.ns vo au ad (M.lf vo (au, ad) mv t z).1.tm mv (M.lf vo (au, ad) mv t z).1.hd vN' vM' vT' ∧ Kp w q vN vM w' vN' vM') ∧ Below B w w' ∧ Mq w' q mv.length := by
  have hqz := hS.lt
  have hb : Below w.heap.size w (w.alloc (Obj.cells #[.int .i64 t.k, .int .i64 t.s, .slice pa t.np pc, .int .i64 t.b1, .int .i64 t.b2, .string t.ly, .slice ka t.n kc] 61)) := by go_grown
  have hbB := hb.mono (show B ≤ w.heap.size by omega)
  have HI := leaf_any t (w.alloc (Obj.cells #[.int .i64 t.k, .int .i64 t.s, .slice pa t.np pc, .int .i64 t.b1, .int .i64 t.b2, .string t.ly, .slice ka t.n kc] 61)) q B N pa ka pc kc z vo au ad mv vN vM vT (hp.step hbB) hpc hpm hly (hg.step hbB) hB hra h4 h5 (hS.step hb) hO hz hN hl
  generalize M.lf vo (au, ad) mv t z = R at *
  have HK : Hid (Kp w q vN vM (w.alloc (Obj.cells #[.int .i64 t.k, .int .i64 t.s, .slice pa t.np pc, .int .i64 t.b1, .int .i64 t.b2, .string t.ly, .slice ka t.n kc] 61)) vN vM) := Kp.below hb
  have HB : Hid (Below B w (w.alloc (Obj.cells #[.int .i64 t.k, .int .i64 t.s, .slice pa t.np pc, .int .i64 t.b1, .int .i64 t.b2, .string t.ly, .slice ka t.n kc] 61))) := hbB
  have h4' : (t.k == 4) = false := by simp [h4]
  have h5' : (t.k == 5) = false := by simp [h5]
  clear hp hg hra hS hz hO hb hbB h4 h5
  go_enter Tryz.func37, Tryz.ntmps37
  go_wp2_with fail
  refine HI.mono ?_
  rintro e w2 ⟨rfl, h1, h2, h3⟩
  have H1 : Hid _ := h1
  clear h1
  go_wp2_with fail
  go_ret
  refine ⟨rfl, fun h0 => ?_, HB.out.trans h2, h3⟩
  obtain ⟨vN', vM', vT', y1, y2⟩ := H1.out h0
  exact ⟨vN', vM', vT', y1, HK.out.trans y2⟩
end Go.Proofs.YtaohahahhjkcdaeGreatDoor.G

/- What the singer's item comes to where it moves its kids. -/
namespace Go.Proofs.YtaohahahhjkcdaeGreatDoor.G
open Go.RowKit Go.Sort
set_option linter.unusedVariables false
set_option linter.unusedSimpArgs false

set_option maxRecDepth 20000 in
set_option maxHeartbeats 8000000 in
theorem item_moved (t : M.It) (ih : ITC t) (w : World) (q B N : Nat) (pa ka : Option Addr) (pc kc : Nat) (z : M.Zs) (vo au ad : Int) (mv : List (Int × Int)) (vN vM vT : Value) (lev m : Int)
    (hL : LL w B t ka) (hg : GT w B) (hB : B ≤ q) (hn : t.n ≤ kc) (hkc : kc ≤ 9223372036854775807) (m1 : 0 ≤ m) (m2 : m ≤ 4095) (hri : (M.ri t (lev + 1) m).1 = true) (hmv : (mv.length : Int) < lev) (hlev : lev ≤ 31) (hS : Sg w q z.ns vo au ad z.tm mv z.hd vN vM vT) (hO : F.M.Ok (au, ad)) (hz : M.Zo z N) (hN : N < 1099511627776) (hl : M.lc t ≤ z.tm.length) :
    Calls Tryz.prog 37 #[.pointer (some ⟨q, 0, none⟩), .agg #[.int .i64 5, .int .i64 t.s, .slice pa t.np pc, .int .i64 t.b1, .int .i64 t.b2, .string t.ly, .slice ka t.n kc]] w fun e w' => e = .returned (.int .i64 (M.sg vo (au, ad) t (mv ++ [(t.b1, t.b2)]) z).2) ∧ ((M.sg vo (au, ad) t (mv ++ [(t.b1, t.b2)]) z).2 = 0 → ∃ vN' vM' vT', Sg w' q (M.sg vo (au, ad) t (mv ++ [(t.b1, t.b2)]) z).1.ns vo au ad (M.sg vo (au, ad) t (mv ++ [(t.b1, t.b2)]) z).1.tm mv (M.sg vo (au, ad) t (mv ++ [(t.b1, t.b2)]) z).1.hd vN' vM' vT' ∧ Kp w q vN vM w' vN' vM') ∧ Below B w w' ∧ Mq w' q mv.length := by
  have hqz := hS.lt
  obtain ⟨ma, mc, hvM⟩ := F.own_form hS.m
  subst hvM
  obtain ⟨i0, hi, hz0, hz1, hz2⟩ := info_parts infoIv
  obtain ⟨W1, hW1⟩ : ∃ x, x = w.alloc (Obj.cells #[.int .i64 5, .int .i64 t.s, .slice pa t.np pc, .int .i64 t.b1, .int .i64 t.b2, .string t.ly, .slice ka t.n kc] 61) := ⟨_, rfl⟩
  have hb : Below w.heap.size w W1 := by rw [hW1]; go_grown
  have z1 : W1.heap.size = w.heap.size + 1 := by rw [hW1]; simp
  have j0 : W1.cell? ⟨w.heap.size, 0, none⟩ = some (.int .i64 5) := by rw [hW1]; simp [go_sem]
  have j3 : W1.cell? ⟨w.heap.size, 3, none⟩ = some (.int .i64 t.b1) := by rw [hW1]; simp [go_sem]
  have j4 : W1.cell? ⟨w.heap.size, 4, none⟩ = some (.int .i64 t.b2) := by rw [hW1]; simp [go_sem]
  have j6 : W1.cell? ⟨w.heap.size, 6, none⟩ = some (.slice ka t.n kc) := by rw [hW1]; simp [go_sem]
  have hS1 := hS.step hb
  have hK1 : Kp w q vN (.slice ma mv.length mc) W1 vN (.slice ma mv.length mc) := Kp.below hb
  have hbB : Below B w W1 := hb.mono (by omega)
  have HI : Hid (∀ (w5 : World) (vM5 : Value), Below B w w5 → Sg w5 q z.ns vo au ad z.tm (mv ++ [(t.b1, t.b2)]) z.hd vN vM5 vT → Calls Tryz.prog 23 #[.pointer (some ⟨q, 0, none⟩), .slice ka t.n kc] w5 fun e w' => e = .returned (.int .i64 (M.sg vo (au, ad) t (mv ++ [(t.b1, t.b2)]) z).2) ∧ ((M.sg vo (au, ad) t (mv ++ [(t.b1, t.b2)]) z).2 = 0 → ∃ vN' vM' vT', Sg w' q (M.sg vo (au, ad) t (mv ++ [(t.b1, t.b2)]) z).1.ns vo au ad (M.sg vo (au, ad) t (mv ++ [(t.b1, t.b2)]) z).1.tm (mv ++ [(t.b1, t.b2)]) (M.sg vo (au, ad) t (mv ++ [(t.b1, t.b2)]) z).1.hd vN' vM' vT' ∧ Kp w5 q vN vM5 w' vN' vM') ∧ Below B w5 w' ∧ Mq w' q (mv.length + 1)) := fun w5 vM5 hbw hSw => by
    have := ih w5 q B N ka kc z vo au ad (mv ++ [(t.b1, t.b2)]) vN vM5 vT (lev + 1) m (LL.step t _ hL hbw) (hg.step hbw) hB hn hkc m1 m2 hri (by simp; omega) hSw hO hz hN hl
    simpa using this
  generalize M.sg vo (au, ad) t (mv ++ [(t.b1, t.b2)]) z = R at *
  have hml : mv.length ≤ 31 := by omega
  have HSg : Hid (∀ (gg cap : Nat) (w7 : World), w7.ownsRow (q + 1) 59 2 (.slice (some ⟨gg, 0, none⟩) (mv.length + 1) cap) (mv.length + 1) (ivL mv ++ [.int .i64 t.b1, .int .i64 t.b2]) → (W1.drew.alloc (Obj.cells #[.int .i64 t.b1, .int .i64 t.b2] 59)).grownBy w7 (Value.slice ma mv.length mc).ownBlock → ((Value.slice ma mv.length mc).ownBlock = some gg ∨ gg = W1.heap.size + 1) →
      Sg (w7.setCell ⟨q, 5, none⟩ (.slice (some ⟨gg, 0, none⟩) (mv.length + 1) cap)) q z.ns vo au ad z.tm (mv ++ [(t.b1, t.b2)]) z.hd vN (.slice (some ⟨gg, 0, none⟩) (mv.length + 1) cap) vT ∧ Kp w q vN (.slice ma mv.length mc) (w7.setCell ⟨q, 5, none⟩ (.slice (some ⟨gg, 0, none⟩) (mv.length + 1) cap)) vN (.slice (some ⟨gg, 0, none⟩) (mv.length + 1) cap) ∧ Below B w (w7.setCell ⟨q, 5, none⟩ (.slice (some ⟨gg, 0, none⟩) (mv.length + 1) cap)) ∧ W1.heap.size < w7.heap.size ∧ w7.cell? ⟨w.heap.size, 6, none⟩ = some (.slice ka t.n kc) ∧ w7.cell? ⟨q, 5, none⟩ = some (.slice ma mv.length mc) ∧ w7.frozen? ⟨q, 5, none⟩ = false) := fun gg cap w7 hown hgr hat => by
    have mlt := F.own_lt hS1.m
    have mge := F.own_block hS1.m
    have hz7 : W1.heap.size + 1 ≤ w7.heap.size := by have := hgr.size; simpa using this
    have blk : ∀ b, b < W1.heap.size → (Value.slice ma mv.length mc).ownBlock ≠ some b → w7.heap[b]? = W1.heap[b]? := fun b hb1 hne => by
      rw [hgr.block b (by simp; omega) (fun e => hne e.symm)]
      exact Below.heap_alloc W1.drew _ b hb1
    have hq7 : w7.heap[q]? = W1.heap[q]? := blk q (by omega) (fun e => by have := mge q e; omega)
    have c5 : w7.cell? ⟨q, 5, none⟩ = some (.slice ma mv.length mc) := (cell_of hq7).trans hS1.c5
    have f5 : ∀ i, w7.frozen? ⟨q, i, none⟩ = W1.frozen? ⟨q, i, none⟩ := fun i => frozen_of hq7
    have hgq : gg ≠ q := by
      rcases hat with e | e
      · have := mge gg e; omega
      · omega
    have hother : ∀ b, b ≠ q → (w7.setCell ⟨q, 5, none⟩ (.slice (some ⟨gg, 0, none⟩) (mv.length + 1) cap)).heap[b]? = w7.heap[b]? := fun b hbq => heap_setCell_other _ _ _ _ (by show b ≠ q; exact hbq)
    obtain ⟨y1, y2⟩ := hS1.moves (w' := w7.setCell ⟨q, 5, none⟩ (.slice (some ⟨gg, 0, none⟩) (mv.length + 1) cap)) (mv' := mv ++ [(t.b1, t.b2)]) (vM' := .slice (some ⟨gg, 0, none⟩) (mv.length + 1) cap)
      (by simp; omega) (fun b b1 b2 b3 => by rw [hother b b2]; exact blk b b1 b3)
      (by
        have := own_of (w' := w7.setCell ⟨q, 5, none⟩ (.slice (some ⟨gg, 0, none⟩) (mv.length + 1) cap)) hown (fun b e => hother b (by simp [Value.ownBlock] at e; omega))
        rw [ivL_app]; simpa using this)
      (fun k e => by
        simp [Value.ownBlock] at e
        subst e
        rcases hat with x | x
        · exact .inl x
        · exact .inr (by omega))
      (fun i hi5 => by rw [World.cell?_setCell_other _ _ _ _ (by intro e; cases e; exact hi5 rfl)]; exact cell_of hq7)
      (World.cell?_setCell_same _ _ _ c5)
      (fun i => by rw [World.frozen?_setCell]; exact f5 i)
    refine ⟨y1, hK1.trans y2, ?_, by omega, ?_, c5, (f5 5).trans (hS1.fz 5)⟩
    · have h7 : Below B W1 w7 := by
        have hd : Below B W1 (W1.drew.alloc (Obj.cells #[.int .i64 t.b1, .int .i64 t.b2] 59)) := ((Below.refl B W1).drew).alloc (by simp; omega) _
        exact hd.grown hgr (by simp; omega) (fun k e => by have := mge k e; omega)
      exact (hbB.trans h7).setCell (p := ⟨q, 5, none⟩) hB _
    · rw [cell_of (blk w.heap.size (by omega) (fun e => by have := F.own_lt hS.m _ e; omega))]; exact j6
  have own1 : (W1.drew.alloc (Obj.cells #[.int .i64 t.b1, .int .i64 t.b2] 59)).ownsRow (q + 1) 59 2 (.slice ma mv.length mc) mv.length (ivL mv) := (hS1.m.drew).alloc _
  have c5 := hS1.c5
  have hq1 := hS1.lt
  have zz : w.heap.size < W1.heap.size := by omega
  have HW1 : Hid (W1 = w.alloc (Obj.cells #[.int .i64 5, .int .i64 t.s, .slice pa t.np pc, .int .i64 t.b1, .int .i64 t.b2, .string t.ly, .slice ka t.n kc] 61)) := hW1
  have hnb : Hid ((W1.drew.alloc (Obj.cells #[.int .i64 t.b1, .int .i64 t.b2] 59)).heap[W1.heap.size]? = some (Obj.cells #[.int .i64 t.b1, .int .i64 t.b2] 59)) := heap_alloc_new W1.drew _
  have Z1 : Hid (W1.heap.size = w.heap.size + 1) := z1
  clear ih hL hg hri hS hz hO hb hbB hS1 hK1 hW1 z1
  generalize t.b1 = e1 at *
  generalize t.b2 = e2 at *
  go_enter Tryz.func37, Tryz.ntmps37
  go_upto_region 5 with fail
  rw [← HW1.out]
  go_cut [24] (fun v wx => ∃ vM5, Hid (Sg wx q z.ns vo au ad z.tm (mv ++ [(e1, e2)]) z.hd vN vM5 vT) ∧ Hid (Kp w q vN (.slice ma mv.length mc) wx vN vM5) ∧ Hid (Below B w wx) ∧ w.heap.size < wx.heap.size ∧ wx.cell? ⟨w.heap.size, 6, none⟩ = some (.slice ka t.n kc))
  case first =>
    go_region_law (refine step_append_lies _ (by rfl) _ _ _ (by rfl) (q + 1) 59 i0 _ 2 16 Tryz.underlying52 hi hz0 hz1 hz2 rfl (by omega) (.slice ma mv.length mc) mv.length (ivL mv) (by rfl) own1 ⟨W1.heap.size, 0, none⟩ 1 1 [.int .i64 e1, .int .i64 e2] (by rfl) (by rfl) (World.news_of_block (cs := #[.int .i64 e1, .int .i64 e2]) (t := 59) (fr := (0, 0)) hnb.out) (by simp [Value.oneCell']) (by omega) (by unfold maxLen; omega) (by omega) (by simp; omega) (W1.heap.size + 1) (by simp) ?_; intro gg cap w7 hown7 hgrow hat hlt7; have G7 := HSg.out gg cap w7 hown7 hgrow hat; obtain ⟨G1, G2, G3, G4, G5, G6, G8⟩ := G7; have zq7 : q < w7.heap.size := (by omega); have GS : Hid _ := G1; have GK : Hid _ := G2; have GB : Hid _ := G3; clear G1 G2 G3)
    all_goals
      go_wp2_with fail
      go_meet
      case rel => exact ⟨_, GS, GK, GB, by simp; omega, (World.cell?_setCell_other _ _ _ _ (by intro e; cases e)).trans G5⟩
  case rest =>
    obtain ⟨vM5, GS, GK, GB, zc, c6⟩ := hcut
    rename World => w5
    have HI5 := HI.out w5 vM5 GB.out GS.out
    clear HI HSg own1 c5 j0 j3 j4 j6 hq1 zz HW1 hnb
    go_wp2_with fail
    refine HI5.mono ?_
    rintro e w6 ⟨rfl, h1, h2, h3⟩
    have H1 : Hid _ := h1
    have HB6 : Hid (Below B w w6) := GB.out.trans h2
    obtain ⟨na, nc, y1, y2, y3, y4⟩ := h3.at'
    obtain ⟨g, rfl⟩ := y4 (by omega)
    have yf := h3.fz
    have yq := h3.lt
    clear h1 h2 h3 y4 HI5 c6 zc
    have wsub : ((mv.length + 1 : Nat) : Int) - 1 = (mv.length : Int) := by omega
    have wsub2 : ((mv.length : Int) + 1) - 1 = (mv.length : Int) := by omega
    have wl : IntKind.i64.wrap (mv.length : Int) = (mv.length : Int) := gwid (by omega) (by omega)
    have hb1 : (mv.length : Int) ≤ nc := by omega
    have hb2 : ¬ (mv.length : Int) < 0 := by omega
    go_wp2_with fail
    refine U2.wp_region_tail_read 14 (by decide) rfl (by kernel_rfl) (by kernel_rfl) (by kernel_rfl) ?_
    dsimp only [List.take, List.drop]
    repeat (quiet_step (fail))
    refine wpQuiet_nil ?_
    rintro w7 ⟨nq, rfl⟩
    have hbd : Below w6.heap.size w6 (w6.drewN nq) := ⟨rfl, rfl, rfl, Nat.le_refl _, fun _ _ => rfl⟩
    have HBd : Hid (Below w6.heap.size w6 (w6.drewN nq)) := hbd
    have x1 := F.keepC hbd yq y1
    have x2 := F.keepF hbd yq yf
    have x3 : q < (w6.drewN nq).heap.size := Nat.lt_of_lt_of_le yq hbd.size
    clear hbd
    generalize w6.drewN nq = W7 at *
    go_wp2_with fail
    go_ret
    have hqb : B ≤ w6.heap.size := by omega
    have c5' : (W7.setCell ⟨q, 5, none⟩ (.slice (some ⟨g, 0, none⟩) mv.length nc)).cell? ⟨q, 5, none⟩ = some (.slice (some ⟨g, 0, none⟩) mv.length nc) := World.cell?_setCell_same _ _ _ x1
    refine ⟨rfl, fun h0 => ?_, (HB6.out.trans (HBd.out.mono hqb)).setCell (p := ⟨q, 5, none⟩) hB _, ⟨by simpa using x3, by rw [World.frozen?_setCell]; exact x2, some ⟨g, 0, none⟩, nc, c5', by omega, y3, fun _ => ⟨g, rfl⟩⟩⟩
    obtain ⟨vN', vM', vT', s1, k1⟩ := H1.out h0
    have ev : vM' = .slice (some ⟨g, 0, none⟩) (mv.length + 1) nc := by
      have := s1.c5.symm.trans y1
      simpa using this
    subst ev
    have s7 := s1.step HBd.out
    have hm7 := s7.m
    rw [ivL_app, List.length_append] at hm7
    have hm8 := ownsRow_pop (by rw [ivL_len]) hm7
    have mge := F.own_block s7.m
    have hgq : g ≠ q := by have := mge g rfl; omega
    have hother : ∀ b, b ≠ q → (W7.setCell ⟨q, 5, none⟩ (.slice (some ⟨g, 0, none⟩) mv.length nc)).heap[b]? = W7.heap[b]? := fun b hbq => heap_setCell_other _ _ _ _ (by show b ≠ q; exact hbq)
    obtain ⟨v1, v2⟩ := s7.moves (w' := W7.setCell ⟨q, 5, none⟩ (.slice (some ⟨g, 0, none⟩) mv.length nc)) (mv' := mv) (vM' := .slice (some ⟨g, 0, none⟩) mv.length nc)
      (by simp) (fun b _ b2 _ => hother b b2) (own_of hm8 (fun b e => hother b (by simp [Value.ownBlock] at e; omega))) (fun k e => .inl e)
      (fun i hi5 => World.cell?_setCell_other _ _ _ _ (by intro e; cases e; exact hi5 rfl)) c5' (fun i => World.frozen?_setCell _ _ _ _)
    exact ⟨vN', _, vT', v1, ((GK.out.trans k1).trans (Kp.below HBd.out)).trans v2⟩
end Go.Proofs.YtaohahahhjkcdaeGreatDoor.G

/- What the singer's items comes to, at every tree of items. -/
namespace Go.Proofs.YtaohahahhjkcdaeGreatDoor.G
open Go.RowKit
set_option linter.unusedVariables false
set_option linter.unusedSimpArgs false

theorem item_any (t : M.It) (ih : ITC t) : IMC t := by
  intro w q B N pa ka pc kc z vo au ad mv vN vM vT lev hp hpc hpm hly hL hg hB hn hkc hra hri hmv hlev hS hO hz hN hl
  by_cases k4 : t.k = 4
  · obtain ⟨m', x1, x2, x3⟩ := hri (.inl k4)
    rw [M.l1_g (.inl k4)] at hl
    rw [M.s1_4 k4]
    have := item_group t ih w q B N pa ka pc kc z vo au ad mv vN vM vT lev m' hL hg hB hn hkc k4 x1 x2 x3 hmv hS hO hz hN hl
    rw [k4]; exact this
  · by_cases k5 : t.k = 5
    · obtain ⟨m', x1, x2, x3⟩ := hri (.inr k5)
      rw [M.l1_g (.inr k5)] at hl
      rw [M.s1_5 k5]
      have := item_moved t ih w q B N pa ka pc kc z vo au ad mv vN vM vT lev m' hL hg hB hn hkc x1 x2 x3 hmv hlev hS hO hz hN hl
      rw [k5]; exact this
    · rw [M.l1_l (by omega)] at hl
      rw [M.s1_l k4 k5]
      exact item_leaf t w q B N pa ka pc kc z vo au ad mv vN vM vT hp hpc hpm hly hg hB hra k4 k5 hS hO hz hN (by omega)

set_option maxRecDepth 20000 in
set_option maxHeartbeats 4000000 in
theorem items_any (t : M.It) : ITC t := by
  induction t using M.It.ind with
  | nil => intro w q B N ka kc z vo au ad mv vN vM vT lev m h; exact False.elim h
  | mk k s np pl pa po b1 b2 ly n kid ih =>
    intro w q B N ka kc z vo au ad mv vN vM vT lev m hL hg hB hn hkc m1 m2 hri hmv hS hO hz hN hl
    obtain ⟨n1, n2, hkid⟩ := M.ri_kids _ _ _ _ _ _ _ _ _ _ _ _ _ m1 m2 hri
    have hlev := M.ri_lev hri
    rw [M.lc_mk] at hl
    rw [M.sg_mk]
    show Calls Tryz.prog 23 #[.pointer (some ⟨q, 0, none⟩), .slice ka n kc] w _
    obtain ⟨b, off, rfl, hbl, cells⟩ := hL (by omega)
    have HC : Hid (∀ j, j < n → _) := cells
    have HI : Hid (∀ j, IMC (kid j)) := fun j => item_any (kid j) (ih j)
    have HK : Hid (∀ j, j < n → _) := hkid
    have hqz := hS.lt
    obtain ⟨f, hf⟩ : ∃ f : Nat → M.Zs → M.Zs × Int, f = fun j z => M.s1 vo (au, ad) mv (kid j) z := ⟨_, rfl⟩
    have Hf : Hid (∀ j z, f j z = M.s1 vo (au, ad) mv (kid j) z) := fun j z => by rw [hf]
    rw [← hf]
    obtain ⟨X, hX⟩ : ∃ X, M.sk f n 0 z = X := ⟨_, rfl⟩
    rw [hX]
    have HX : Hid (M.sk f n 0 z = X) := hX
    have HO : Hid (F.M.Ok (au, ad)) := hO
    clear hX hf ih cells hL hkid hri hO
    have hq0 : b < w.heap.size := by omega
    have hI0 : Hid (Sg w q z.ns vo au ad z.tm mv z.hd vN vM vT ∧ Kp w q vN vM w vN vM ∧ M.Zo z N ∧ M.lr kid n 0 ≤ z.tm.length) := ⟨hS, Kp.below (Below.refl _ _), hz, hl⟩
    clear hS hz hl
    go_enter Tryz.func23, Tryz.ntmps23
    go_wp2_with fail
    go_loopw [10] (fun i wr => ∃ (j : Nat) (z' : M.Zs) (vN' vM' vT' : Value), j ≤ n ∧ i = .int .i64 (j : Int) ∧ Hid (M.SK f n j z z') ∧ Hid (Sg wr q z'.ns vo au ad z'.tm mv z'.hd vN' vM' vT' ∧ Kp w q vN vM wr vN' vM' ∧ M.Zo z' N ∧ M.lr kid n j ≤ z'.tm.length) ∧ Below B w wr) (fun i _ => n - (intOf i).toNat)
    case atStart => exact ⟨0, z, vN, vM, vT, by omega, rfl, M.SK.start f n z, hI0, Below.refl _ _⟩
    case round =>
      clear hI0
      obtain ⟨j, z', vN', vM', vT', hjn, rfl, hSK, hI, hbr⟩ := hrel
      obtain ⟨hS, hKp, hz, hl⟩ := hI.out
      have hqr := hS.lt
      by_cases hlt : j < n
      · obtain ⟨pa', pc', ka', kc', c0, c1, c2, c3, c4, c5, c6, d1, d2, d3, d4, d5, d6, d7⟩ := HC.out j hlt
        have r0 := F.keepC hbr hbl c0
        have r1 := F.keepC hbr hbl c1
        have r2 := F.keepC hbr hbl c2
        have r3 := F.keepC hbr hbl c3
        have r4 := F.keepC hbr hbl c4
        have r5 := F.keepC hbr hbl c5
        have r6 := F.keepC hbr hbl c6
        have sb : b < wr.heap.size := by omega
        have w3 : IntKind.i64.wrap ((j : Int) + 1) = (j : Int) + 1 := gwid (by omega) (by omega)
        obtain ⟨kra, kri⟩ := HK.out j hlt
        rw [M.lr_step hlt] at hl
        have hba : Below wr.heap.size wr (wr.alloc (Obj.cells #[.int .i64 (kid j).k, .int .i64 (kid j).s, .slice pa' (kid j).np pc', .int .i64 (kid j).b1, .int .i64 (kid j).b2, .string (kid j).ly, .slice ka' (kid j).n kc'] 61)) := by go_grown
        have hbb := hbr.trans (hba.mono (show B ≤ wr.heap.size by omega))
        have HM := HI.out j (wr.alloc (Obj.cells #[.int .i64 (kid j).k, .int .i64 (kid j).s, .slice pa' (kid j).np pc', .int .i64 (kid j).b1, .int .i64 (kid j).b2, .string (kid j).ly, .slice ka' (kid j).n kc'] 61)) q B N pa' ka' pc' kc' z' vo au ad mv vN' vM' vT' lev (d6.step hbb) d1 d2 d5 (LL.step (kid j) _ d7 hbb) (hg.step hbb) hB d3 d4 kra kri hmv hlev (hS.step hba) HO.out hz hN (by omega)
        have HOk : Hid ((M.s1 vo (au, ad) mv (kid j) z').2 = 0 → M.Zo (M.s1 vo (au, ad) mv (kid j) z').1 N ∧ (M.s1 vo (au, ad) mv (kid j) z').1.tm.length + M.l1 (kid j) = z'.tm.length) := fun h => M.s1_ok kra kri hz (by omega) h
        rw [← Hf.out j z'] at HM HOk
        have HX1 : Hid ((f j z').2 ≠ 0 → X = f j z') := fun hb => by rw [← HX.out]; exact hSK.out.bad hlt hb
        have HX2 : Hid ((f j z').2 = 0 → M.SK f n (j + 1) z (f j z').1) := fun hb => hSK.out.next hlt hb
        have HKp : Hid (Kp w q vN vM (wr.alloc (Obj.cells #[.int .i64 (kid j).k, .int .i64 (kid j).s, .slice pa' (kid j).np pc', .int .i64 (kid j).b1, .int .i64 (kid j).b2, .string (kid j).ly, .slice ka' (kid j).n kc'] 61)) vN' vM') := hKp.trans (Kp.below hba)
        have HBB : Hid (Below B w (wr.alloc (Obj.cells #[.int .i64 (kid j).k, .int .i64 (kid j).s, .slice pa' (kid j).np pc', .int .i64 (kid j).b1, .int .i64 (kid j).b2, .string (kid j).ly, .slice ka' (kid j).n kc'] 61))) := hbb
        clear hI hS hKp hz hSK HC HI HK c0 c1 c2 c3 c4 c5 c6 d6 d7 kra kri hba hbb hbr
        generalize f j z' = Y at *
        obtain ⟨Y1, Y2⟩ := Y
        simp only at HM HOk HX1 HX2
        have HL : Hid (M.l1 (kid j) + M.lr kid n (j + 1) ≤ z'.tm.length) := hl
        clear hl
        generalize (kid j).k = xk at *
        generalize (kid j).s = xs at *
        generalize (kid j).b1 = xb1 at *
        generalize (kid j).b2 = xb2 at *
        generalize (kid j).ly = xly at *
        generalize (kid j).np = xnp at *
        generalize (kid j).n = xn at *
        go_wp2_with fail
        refine HM.mono ?_
        rintro e w2 ⟨rfl, h1, h2, h3⟩
        have H1 : Hid _ := h1
        clear h1 HM
        by_cases hy : Y2 = 0
        · subst hy
          have hRK := HX2.out rfl
          obtain ⟨o1, o2⟩ := HOk.out rfl
          obtain ⟨vN2, vM2, vT2, y1, y2⟩ := H1.out rfl
          have HI2 : Hid (Sg w2 q Y1.ns vo au ad Y1.tm mv Y1.hd vN2 vM2 vT2 ∧ Kp w q vN vM w2 vN2 vM2 ∧ M.Zo Y1 N ∧ M.lr kid n (j + 1) ≤ Y1.tm.length) := ⟨y1, HKp.out.trans y2, o1, by have := HL.out; omega⟩
          have HR2 : Hid (M.SK f n (j + 1) z Y1) := hRK
          have HB2 : Hid (Below B w w2) := HBB.out.trans h2
          clear hRK o1 o2 y1 y2 H1 HOk HX1 HX2 HKp HL h2 h3 HBB
          go_wp2_with fail
          go_roundw
          case rel => exact ⟨j + 1, Y1, vN2, vM2, vT2, by omega, by go_num, HR2, HI2, HB2.out⟩
          case measure => simp [intOf]; omega
        · have hR : Hid (X = (Y1, Y2)) := HX1.out hy
          have hy' : (Y2 != 0) = true := by simp [hy]
          have HB2 : Hid (Below B w w2) := HBB.out.trans h2
          have HM3 : Hid (Mq w2 q mv.length) := h3
          clear H1 HOk HX1 HX2 HKp HL h2 h3 HBB
          go_wp2_with fail
          go_ret
          exact ⟨by rw [hR.out]; rfl, fun h0 => absurd (by rw [hR.out] at h0; exact h0) hy, HB2.out, HM3.out⟩
      · obtain rfl : j = n := by omega
        have hR : Hid (X = (z', 0)) := by show X = _; rw [← HX.out]; exact hSK.out.fin
        clear hSK HC HI HK hz hl
        have HS2 : Hid (Sg wr q z'.ns vo au ad z'.tm mv z'.hd vN' vM' vT') := hS
        have HK2 : Hid (Kp w q vN vM wr vN' vM') := hKp
        clear hS hKp hI
        go_wp2_with fail
        go_ret
        exact ⟨by rw [hR.out]; rfl, fun _ => by rw [hR.out]; exact ⟨vN', vM', vT', HS2.out, HK2.out⟩, hbr, HS2.out.mq⟩
end Go.Proofs.YtaohahahhjkcdaeGreatDoor.G

/- What the singer's bar comes to. -/
namespace Go.Proofs.YtaohahahhjkcdaeGreatDoor.G
open Go.RowKit Go.Sort
set_option linter.unusedVariables false
set_option linter.unusedSimpArgs false

/-- A row of spans of its own, told to a singer. -/
theorem TmL.own {w : World} {q base : Nat} {vN vM vT : Value} {tm : List F.M.Sp} (h : w.ownsRow base 89 5 vT tm.length (F.spL tm)) (hq : q < base) (hN : ∀ k, vN.ownBlock = some k → k < base) (hM : ∀ k, vM.ownBlock = some k → k < base) : TmL w q vN vM vT tm := by
  rcases h.2 with ⟨rfl, h0⟩ | ⟨g, cap, cur, rfl, h1, h2, h3, h4, h5⟩
  · exact ⟨none, 0, by rw [h0], by omega, by omega, fun hn => by omega⟩
  · refine ⟨some ⟨g, 0, none⟩, cap, rfl, h3, by unfold maxLen at h4; omega, fun hn => ?_⟩
    obtain ⟨g', cap', e, k1, k2, k3, k4⟩ := F.own_cells h hn
    cases e
    refine ⟨g, 0, rfl, by omega, k2, fun e => by have := hN g e; omega, fun e => by have := hM g e; omega, fun j u hj => ?_⟩
    rw [Nat.zero_add]
    have hl : (F.spL tm).length = tm.length * 5 := h.1
    rw [k4 j (by have := (List.getElem?_eq_some_iff.1 hj).1; omega)]
    exact hj

set_option maxRecDepth 20000 in
set_option maxHeartbeats 8000000 in
theorem bar_any (t : M.It) (u d : Int) (ia : Option Addr) (ic : Nat) (w : World) (q B N : Nat) (ns : List M.Nt) (hd : Nat) (vo au ad : Int) (tm0 : List F.M.Sp) (vN vM vT : Value)
    (hL : LL w B t ia) (hg : GT w B) (hB : B ≤ q) (hn : t.n ≤ ic) (hic : ic ≤ 9223372036854775807) (u1 : 1 ≤ u) (u2 : u ≤ 65536) (d1 : 1 ≤ d) (d2 : d ≤ 65536) (hri : (M.ri t 1 0).1 = true) (hS : Sg w q ns vo au ad tm0 [] hd vN vM vT) (hx : M.Bo (ns, hd, (au, ad)) N) (hN : N + 65536 < 1099511627776) :
    Calls Tryz.prog 13 #[.pointer (some ⟨q, 0, none⟩), .agg #[.int .i64 u, .int .i64 d, .slice ia t.n ic]] w fun e w' => e = .returned (.int .i64 (M.br vo (ns, hd, (au, ad)) u d t).2) ∧ ((M.br vo (ns, hd, (au, ad)) u d t).2 = 0 → ∃ vN' vM' vT', Sg w' q (M.br vo (ns, hd, (au, ad)) u d t).1.1 vo (M.br vo (ns, hd, (au, ad)) u d t).1.2.2.1 (M.br vo (ns, hd, (au, ad)) u d t).1.2.2.2 [] [] (M.br vo (ns, hd, (au, ad)) u d t).1.2.1 vN' vM' vT' ∧ Kp w q vN vM w' vN' vM') ∧ Below B w w' := by
  have hqz := hS.lt
  obtain ⟨hme, hf⟩ := M.foot u1 u2 d1 d2
  have HMk := fun W => F.Make_any u d W (by omega) (by omega) (by omega)
  rw [hme] at HMk
  have HG : Hid (∀ W, Below B w W → B ≤ W.heap.size → Calls Tryz.prog 22 #[.int .i64 1, .slice ia t.n ic] W fun e w' => ∃ v', e = .returned v' ∧ F.LiesP w' (fun b => W.heap.size ≤ b ∧ b < w'.heap.size) (M.bt t 1) v' ∧ Below W.heap.size W w') := fun W hW hz => F.asGroup_any t 1 1 0 W B ia ic (LL.step t _ hL hW) hz hn hic (by omega) (by omega) hri
  have hfb := (F.M.ok_yes _ _ hf)
  have HSp : Hid (∀ (W : World) (v : Value), F.Lies W W.heap.size (M.bt t 1) v → Calls Tryz.prog 21 #[v, .agg #[.int .i64 (F.M.mu u d), .int .i64 (F.M.md u d)]] W fun e w' => ∃ v', e = .returned (.tuple #[v', .int .i64 (M.bs u d t).1]) ∧ w'.ownsRow W.heap.size 89 5 v' (M.bs u d t).2.length (F.spL (M.bs u d t).2) ∧ Below W.heap.size W w') := fun W v hv => F.Spans_prog (M.bt t 1) (F.M.mu u d) (F.M.md u d) W v hv (by omega) (by omega) (by omega) (by omega)
  have HBr : Hid (M.br vo (ns, hd, (au, ad)) u d t = if (M.bs u d t).1 ≠ 0 then ((ns, hd, (au, ad)), (M.bs u d t).1)
      else if (M.sg vo (au, ad) t [] ⟨ns, hd, (M.bs u d t).2⟩).2 ≠ 0 then ((ns, hd, (au, ad)), (M.sg vo (au, ad) t [] ⟨ns, hd, (M.bs u d t).2⟩).2)
      else match F.M.pl (au, ad) (F.M.mu u d, F.M.md u d) with
        | none => ((ns, hd, (au, ad)), 4)
        | some a => (((M.sg vo (au, ad) t [] ⟨ns, hd, (M.bs u d t).2⟩).1.ns, (M.sg vo (au, ad) t [] ⟨ns, hd, (M.bs u d t).2⟩).1.hd, a), 0)) := rfl
  have HPl := fun W => F.Plus_o (au, ad) (F.M.mu u d, F.M.md u d) W hx.av hf
  have HIt : Hid (∀ (W : World) (vT' : Value), Below B w W → (M.bs u d t).1 = 0 → Sg W q ns vo au ad (M.bs u d t).2 [] hd vN vM vT' → Calls Tryz.prog 23 #[.pointer (some ⟨q, 0, none⟩), .slice ia t.n ic] W fun e w' => e = .returned (.int .i64 (M.sg vo (au, ad) t [] ⟨ns, hd, (M.bs u d t).2⟩).2) ∧ ((M.sg vo (au, ad) t [] ⟨ns, hd, (M.bs u d t).2⟩).2 = 0 → ∃ vN' vM' vT'', Sg w' q (M.sg vo (au, ad) t [] ⟨ns, hd, (M.bs u d t).2⟩).1.ns vo au ad [] [] (M.sg vo (au, ad) t [] ⟨ns, hd, (M.bs u d t).2⟩).1.hd vN' vM' vT'' ∧ Kp W q vN vM w' vN' vM') ∧ Below B W w') := fun W vT' hW h0 hSW => by
    obtain ⟨q1, q2, q3⟩ := M.bs_ok hf h0
    have hz : M.Zo ⟨ns, hd, (M.bs u d t).2⟩ (N + 65536) := ⟨hx.hd, hx.ok, q1, by simp only [q2]; have := hx.len; simp only at this; omega⟩
    refine (items_any t W q B (N + 65536) ia ic ⟨ns, hd, (M.bs u d t).2⟩ vo au ad [] vN vM vT' 1 0 (LL.step t _ hL hW) (hg.step hW) hB hn hic (by omega) (by omega) hri (by simp) hSW hx.av hz hN (by simp only [q2]; omega)).mono ?_
    rintro e w' ⟨rfl, h1, h2, h3⟩
    refine ⟨rfl, fun h => ?_, h2⟩
    obtain ⟨vN', vM', vT'', y1, y2⟩ := h1 h
    obtain ⟨_, o2⟩ := M.sg_ok vo (au, ad) t [] _ _ 1 0 (by omega) (by omega) hri hz (by simp only [q2]; omega) h
    simp only [q2] at o2
    have e0 : (M.sg vo (au, ad) t [] ⟨ns, hd, (M.bs u d t).2⟩).1.tm = [] := List.length_eq_zero_iff.1 (by omega)
    rw [e0] at y1
    exact ⟨vN', vM', vT'', y1, y2⟩
  generalize M.br vo (ns, hd, (au, ad)) u d t = RB at *
  generalize M.sg vo (au, ad) t [] ⟨ns, hd, (M.bs u d t).2⟩ = RS at *
  generalize M.bs u d t = BS at *
  generalize F.M.mu u d = mu at *
  generalize F.M.md u d = md at *
  have mlt := F.own_lt hS.m
  have nlt := F.own_lt hS.n
  clear hme hf hfb hx hri hL hg
  go_enter Tryz.func13, Tryz.ntmps13
  go_wp2_with fail
  refine (HMk _).mono ?_
  rintro e w2 ⟨rfl, hb2⟩
  have b2 := F.keepC hb2 (b := w.heap.size) (o := 2) (v := .slice ia t.n ic) (by simp) (by simp [go_sem])
  have k2 : Below w.heap.size w w2 := Below.trans (by go_grown) (hb2.mono (by simp))
  have z2 : w.heap.size < w2.heap.size := by have := hb2.size; simp at this; omega
  clear HMk hb2
  go_upto_region 4 with fail
  have k3 : Below w.heap.size w (w2.alloc (Obj.cells #[.int .i64 mu, .int .i64 md] 36)) := k2.alloc k2.size _
  have l0 : (w2.alloc (Obj.cells #[.int .i64 mu, .int .i64 md] 36)).cell? ⟨w2.heap.size, 0, none⟩ = some (.int .i64 mu) := by simp [go_sem]
  have l1 : (w2.alloc (Obj.cells #[.int .i64 mu, .int .i64 md] 36)).cell? ⟨w2.heap.size, 1, none⟩ = some (.int .i64 md) := by simp [go_sem]
  have b3 : (w2.alloc (Obj.cells #[.int .i64 mu, .int .i64 md] 36)).cell? ⟨w.heap.size, 2, none⟩ = some (.slice ia t.n ic) := by simp [go_sem, b2, z2]
  have zl : w2.heap.size < (w2.alloc (Obj.cells #[.int .i64 mu, .int .i64 md] 36)).heap.size := by simp
  generalize w2.alloc (Obj.cells #[.int .i64 mu, .int .i64 md] 36) = W3 at *
  have zb : w.heap.size < W3.heap.size := by omega
  have hS3 := hS.step k3
  have HS3 : Hid (Sg W3 q ns vo au ad tm0 [] hd vN vM vT) := hS3
  have c4 := hS3.c4
  have f4 := hS3.fz 4
  have hq3 : q < W3.heap.size := hS3.lt
  have hBw : B ≤ w.heap.size := by omega
  have K3 : Hid (Below B w W3) := k3.mono hBw
  have KP3 : Hid (Kp w q vN vM W3 vN vM) := Kp.below k3
  have mlt3 : Hid (∀ k, vM.ownBlock = some k → k < W3.heap.size) := fun k e => by have := mlt k e; omega
  have nlt3 : Hid (∀ k, vN.ownBlock = some k → k < W3.heap.size) := fun k e => by have := nlt k e; omega
  have HMl : Hid (∀ k, vM.ownBlock = some k → k < w.heap.size) := mlt
  have HNl : Hid (∀ k, vN.ownBlock = some k → k < w.heap.size) := nlt
  have zlw : w.heap.size < w2.heap.size := z2
  clear b2 k2 z2 hS3 hS mlt nlt k3
  go_cut [6] (fun e wx => e = .int .i64 BS.1 ∧ ∃ (vT5 : Value) (w5 : World), Hid (Below W3.heap.size W3 w5) ∧ Hid (w5.ownsRow W3.heap.size 89 5 vT5 BS.2.length (F.spL BS.2)) ∧ wx = w5.setCell ⟨q, 4, none⟩ vT5)
  case first =>
    go_region_law (first
      | (go_simp; go_at_call 22; refine (HG.out _ ?_ ?_).mono ?_; (exact K3.out.drew); (simp; omega); rintro e w5 ⟨v5, rfl, hl5, hb5⟩; have h35 : Below W3.heap.size W3 w5 := ((Below.refl _ _).drew).trans hb5; have z5 := h35.size; have L0 := F.keepC h35 zl l0; have L1 := F.keepC h35 zl l1; have zl5 : w2.heap.size < w5.heap.size := (by omega); have HL5 : Hid (F.Lies w5 w5.heap.size (M.bt t 1) v5) := F.LiesP.lies (fun b h => h.2) _ _ hl5; clear hl5)
      | (go_simp; go_at_call 21; refine (HSp.out _ v5 HL5.out).mono ?_; rintro e w6 ⟨vT6, rfl, own6, hb6⟩; obtain ⟨ta6, tc6, hv6⟩ := F.own_form own6; subst hv6; have h36 : Below W3.heap.size W3 w6 := h35.trans (hb6.mono h35.size); have c46 := F.keepC h36 hq3 c4; have f46 := F.keepF h36 hq3 f4; have z6 := h36.size; have zq6 : q < w6.heap.size := (by omega); have OW : Hid (w6.ownsRow W3.heap.size 89 5 (.slice ta6 BS.2.length tc6) BS.2.length (F.spL BS.2)) := F.own_base own6 h35.size; have H36 : Hid (Below W3.heap.size W3 w6) := h36; clear own6))
    all_goals
      go_wp2_with fail
      go_meet
      case rel => exact ⟨rfl, _, w6, H36, OW, rfl⟩
  case rest =>
    obtain ⟨rfl, vT5, w5, H35, OW, rfl⟩ := hcut
    have h35 := H35.out
    have z5 := h35.size
    have hS5 := HS3.out.step h35
    have hTm : TmL w5 q vN vM vT5 BS.2 := TmL.own OW.out hq3 nlt3.out mlt3.out
    obtain ⟨s6, k6⟩ := hS5.retime (w' := w5.setCell ⟨q, 4, none⟩ vT5) (hd' := hd) (by simp) (fun b _ b2 => heap_setCell_other _ _ _ _ (by show b ≠ q; exact b2)) (by simp [go_sem, hS5.c0]) (by simp [go_sem, hS5.c1]) (by simp [go_sem, hS5.c2]) (by simp [go_sem, hS5.c3]) (by simp [go_sem, hS5.c4]) (by simp [go_sem, hS5.c5]) (by simp [go_sem, hS5.c6]) (fun i => by simp [go_sem, hS5.fz i]) hTm
    have S6 : Hid (Sg (w5.setCell ⟨q, 4, none⟩ vT5) q ns vo au ad BS.2 [] hd vN vM vT5) := s6
    have K6 : Hid (Kp w q vN vM (w5.setCell ⟨q, 4, none⟩ vT5) vN vM) := (KP3.out.trans (Kp.below h35)).trans k6
    have B6 : Hid (Below B w (w5.setCell ⟨q, 4, none⟩ vT5)) := (K3.out.trans (h35.mono (by omega))).setCell (p := ⟨q, 4, none⟩) hB _
    have hne1 : w.heap.size ≠ q := by omega
    have hne2 : w2.heap.size ≠ q := by omega
    have b6 : (w5.setCell ⟨q, 4, none⟩ vT5).cell? ⟨w.heap.size, 2, none⟩ = some (.slice ia t.n ic) := (World.cell?_setCell_other _ _ _ _ (by intro e; cases e)).trans (F.keepC h35 zb b3)
    have m0 : (w5.setCell ⟨q, 4, none⟩ vT5).cell? ⟨w2.heap.size, 0, none⟩ = some (.int .i64 mu) := (World.cell?_setCell_other _ _ _ _ (by intro e; cases e)).trans (F.keepC h35 zl l0)
    have m1 : (w5.setCell ⟨q, 4, none⟩ vT5).cell? ⟨w2.heap.size, 1, none⟩ = some (.int .i64 md) := (World.cell?_setCell_other _ _ _ _ (by intro e; cases e)).trans (F.keepC h35 zl l1)
    have zb6 : w.heap.size < (w5.setCell ⟨q, 4, none⟩ vT5).heap.size := by simp; omega
    have zl6 : w2.heap.size < (w5.setCell ⟨q, 4, none⟩ vT5).heap.size := by simp; omega
    clear h35 hS5 hTm s6 k6 H35 OW b3 l0 l1 c4 f4 HS3 K3 KP3 z5
    generalize w5.setCell ⟨q, 4, none⟩ vT5 = W6 at *
    by_cases hb0 : BS.1 = 0
    rotate_left
    · have hR : Hid (RB = ((ns, hd, (au, ad)), BS.1)) := by have := HBr.out; rw [if_pos hb0] at this; exact this
      have hb0' : (BS.1 != 0) = true := by simp [hb0]
      clear HBr HIt HG HSp HPl
      go_wp2_with fail
      go_ret
      exact ⟨by rw [hR.out]; rfl, fun h => absurd (by rw [hR.out] at h; exact h) hb0, B6.out⟩
    have HIt6 := HIt.out W6 vT5 B6.out hb0 S6.out
    have HBr2 : Hid (RB = if RS.2 ≠ 0 then ((ns, hd, (au, ad)), RS.2) else match F.M.pl (au, ad) (mu, md) with | none => ((ns, hd, (au, ad)), 4) | some a => ((RS.1.ns, RS.1.hd, a), 0)) := by have := HBr.out; rw [if_neg (by simp [hb0])] at this; exact this
    rw [hb0]
    clear HBr HIt HG HSp
    go_wp2_with fail
    refine HIt6.mono ?_
    rintro e w7 ⟨rfl, h1, h2⟩
    have B7 : Hid (Below B w w7) := B6.out.trans h2
    have H1 : Hid _ := h1
    clear HIt6 h1 h2
    by_cases hr0 : RS.2 = 0
    rotate_left
    · have hR : Hid (RB = ((ns, hd, (au, ad)), RS.2)) := by have := HBr2.out; rw [if_pos hr0] at this; exact this
      have hr0' : (RS.2 != 0) = true := by simp [hr0]
      clear HBr2 HPl
      go_wp2_with fail
      go_ret
      exact ⟨by rw [hR.out]; rfl, fun h => absurd (by rw [hR.out] at h; exact h) hr0, B7.out⟩
    obtain ⟨vN7, vM7, vT7, s7, k7⟩ := H1.out hr0
    have HBr3 : Hid (RB = match F.M.pl (au, ad) (mu, md) with | none => ((ns, hd, (au, ad)), 4) | some a => ((RS.1.ns, RS.1.hd, a), 0)) := by have := HBr2.out; rw [if_neg (by simp [hr0])] at this; exact this
    rw [hr0]
    have blk := k7.blk w2.heap.size zl6 hne2 (fun e => by have := HNl.out _ e; omega) (fun e => by have := HMl.out _ e; omega)
    have n0 := (cell_of (i := 0) blk).trans m0
    have n1 := (cell_of (i := 1) blk).trans m1
    have a2 := s7.c2
    have a3 := s7.c3
    have f2 := s7.fz 2
    have f3 := s7.fz 3
    have zq7 := s7.lt
    have zl7 : w2.heap.size < w7.heap.size := Nat.lt_of_lt_of_le zl6 k7.sz
    have S7 : Hid (Sg w7 q RS.1.ns vo au ad [] [] RS.1.hd vN7 vM7 vT7) := s7
    have K7 : Hid (Kp w q vN vM w7 vN7 vM7) := K6.out.trans k7
    clear HBr2 H1 s7 k7 blk b6 m0 m1 S6 K6 B6
    obtain ⟨PL, hPL⟩ : ∃ PL, F.M.pl (au, ad) (mu, md) = PL := ⟨_, rfl⟩
    rw [hPL] at HPl HBr3
    clear hPL
    obtain ⟨U, hU⟩ : ∃ u, F.M.tU PL = u := ⟨_, rfl⟩
    obtain ⟨D, hD⟩ : ∃ u, F.M.tD PL = u := ⟨_, rfl⟩
    obtain ⟨E, hE⟩ : ∃ u, F.M.tE PL = u := ⟨_, rfl⟩
    rw [hU, hD, hE] at HPl
    have HU : Hid (F.M.tU PL = U) := hU
    have HD : Hid (F.M.tD PL = D) := hD
    have HE : Hid (F.M.tE PL = E) := hE
    clear hU hD hE
    go_wp2_with fail
    go_cut [6] (fun e wx => e = .int .i64 E ∧ ∃ w8 : World, Hid (Below w7.heap.size w7 w8) ∧ wx = (w8.setCell ⟨q, 2, none⟩ (.int .i64 U)).setCell ⟨q, 3, none⟩ (.int .i64 D))
    case first =>
      go_region_law (first
        | (go_simp; go_at_call 24; refine (HPl _).mono ?_; rintro e w8 ⟨rfl, hb8⟩; have h8 : Below w7.heap.size w7 w8 := ((Below.refl _ _).drew).trans hb8; have z8 := h8.size; have P2 := F.keepC h8 zq7 a2; have P3 := F.keepC h8 zq7 a3; have F2 := F.keepF h8 zq7 f2; have F3 := F.keepF h8 zq7 f3; have Z8 : q < w8.heap.size := (by omega); have H8 : Hid (Below w7.heap.size w7 w8) := h8))
      all_goals
        go_wp2_with fail
        go_meet
        case rel => exact ⟨rfl, w8, H8, rfl⟩
    case rest =>
      obtain ⟨rfl, w8, H8, rfl⟩ := hcut
      clear HPl
      go_wp2_with fail
      go_ret
      have hS8 := S7.out.step H8.out
      have z8 := H8.out.size
      have B8 : Below B w ((w8.setCell ⟨q, 2, none⟩ (.int .i64 U)).setCell ⟨q, 3, none⟩ (.int .i64 D)) := ((B7.out.trans (H8.out.mono (by omega))).setCell (p := ⟨q, 2, none⟩) hB _).setCell (p := ⟨q, 3, none⟩) hB _
      cases PL with
      | none =>
        have e4 : E = 4 := HE.out.symm
        have hR : RB = ((ns, hd, (au, ad)), 4) := HBr3.out
        subst e4
        exact ⟨by rw [hR]; rfl, fun h => absurd (show (4 : Int) = 0 from (by rw [hR] at h; exact h)) (by decide), B8⟩
      | some a =>
        have e0 : E = 0 := HE.out.symm
        have eU : U = a.1 := HU.out.symm
        have eD : D = a.2 := HD.out.symm
        have hR : RB = ((RS.1.ns, RS.1.hd, a), 0) := HBr3.out
        subst e0 eU eD
        refine ⟨by rw [hR]; rfl, fun _ => ?_, B8⟩
        rw [hR]
        obtain ⟨y1, y2⟩ := hS8.numbers (w' := (w8.setCell ⟨q, 2, none⟩ (.int .i64 a.1)).setCell ⟨q, 3, none⟩ (.int .i64 a.2)) (vo' := vo) (au' := a.1) (ad' := a.2) (hd' := RS.1.hd) (by simp) (fun b _ b2 => (heap_setCell_other _ _ _ _ (by show b ≠ q; exact b2)).trans (heap_setCell_other _ _ _ _ (by show b ≠ q; exact b2))) (by simp [go_sem, hS8.c0]) (by simp [go_sem, hS8.c1]) (by simp [go_sem, hS8.c2]) (by simp [go_sem, hS8.c3]) (by simp [go_sem, hS8.c4]) (by simp [go_sem, hS8.c5]) (by simp [go_sem, hS8.c6]) (fun i => by simp [go_sem, hS8.fz i])
        exact ⟨vN7, vM7, vT7, y1, (K7.out.trans (Kp.below H8.out)).trans y2⟩
end Go.Proofs.YtaohahahhjkcdaeGreatDoor.G

/- What the program's Notes comes to, at every piece. -/
namespace Go.Proofs.YtaohahahhjkcdaeGreatDoor.G
open Go.RowKit
set_option linter.unusedVariables false
set_option linter.unusedSimpArgs false

theorem M.fe_le {f : Nat → Int} {n k : Nat} (h : M.fe f n = 0) (hk : k < n) : f k = 0 := M.fe_all h k hk
/-- What is right of a piece that has nothing wrong. -/
theorem M.pw_ok {nv : Nat} {s : Nat → ByteArray} {n : Nat → Nat} {up dn : Nat → Nat → Int} {t : Nat → Nat → M.It} (h : M.pw nv s n up dn t = 0) : nv ≤ 64 ∧ ∀ i, i < nv → n i ≤ 1024 ∧ ∀ j, j < n i → 1 ≤ up i j ∧ up i j ≤ 65536 ∧ 1 ≤ dn i j ∧ dn i j ≤ 65536 ∧ (M.ri (t i j) 1 0).1 = true := by
  unfold M.pw at h
  by_cases c1 : 64 < nv
  · rw [if_pos c1] at h; exact absurd h (by decide)
  · rw [if_neg c1] at h
    refine ⟨by omega, fun i hi => ?_⟩
    have h2 := M.fe_all h i hi
    unfold M.vw at h2
    by_cases c2 : M.nm (s i) = false
    · rw [if_pos c2] at h2; exact absurd h2 (by decide)
    · rw [if_neg c2] at h2
      by_cases c3 : 1024 < n i
      · rw [if_pos c3] at h2; exact absurd h2 (by decide)
      · rw [if_neg c3] at h2
        refine ⟨by omega, fun j hj => ?_⟩
        have h3 := M.fe_all h2 j hj
        unfold M.bw at h3
        by_cases c4 : up i j < 1 ∨ 65536 < up i j ∨ dn i j < 1 ∨ 65536 < dn i j
        · rw [if_pos c4] at h3; exact absurd h3 (by decide)
        · rw [if_neg c4] at h3
          refine ⟨by omega, by omega, by omega, by omega, ?_⟩
          cases hr : (M.ri (t i j) 1 0).1
          · rw [if_pos hr] at h3; exact absurd h3 (by decide)
          · rfl
theorem VL.mono {w : World} {B C : Nat} {ao : Option Addr} {nv : Nat} {s : Nat → ByteArray} {n : Nat → Nat} {up dn : Nat → Nat → Int} {t : Nat → Nat → M.It} (h : VL w B ao nv s n up dn t) (hb : B ≤ C) : VL w C ao nv s n up dn t :=
  ⟨fun hn => by
    obtain ⟨b, off, h1, h2, h3⟩ := h.at' hn
    refine ⟨b, off, h1, by omega, fun i hi => ?_⟩
    obtain ⟨ba, bc, c0, c1, c2, c3, c4⟩ := h3 i hi
    exact ⟨ba, bc, c0, c1, c2, c3, c4.mono hb⟩⟩
/-- A singer that has not sung yet. -/
theorem Sg.new (w : World) : Sg (w.alloc (Obj.cells #[.slice none 0 0, .int .i64 0, .int .i64 0, .int .i64 0, .slice none 0 0, .slice none 0 0, .int .i64 0] 54)) w.heap.size [] 0 0 0 [] [] 0 (.slice none 0 0) (.slice none 0 0) (.slice none 0 0) :=
  ⟨by simp, by simp [go_sem], by simp [go_sem], by simp [go_sem], by simp [go_sem], by simp [go_sem], by simp [go_sem], by simp [go_sem], fun i => by simp [go_sem], ⟨by simp [ntL], .inl ⟨rfl, rfl⟩⟩, ⟨by simp [ivL], .inl ⟨rfl, rfl⟩⟩, fun b e => by simp [Value.ownBlock] at e, ⟨none, 0, rfl, by simp, by omega, fun h => by simp at h⟩⟩
/-- The notes that are told, as a row of their own. -/
def NtQ (r : List M.Nt × Int) (w : World) (e : Ending) (w' : World) : Prop := ∃ v, e = .returned (.tuple #[v, .int .i64 r.2]) ∧ w'.ownsRow w.heap.size 43 9 v r.1.length (ntL r.1) ∧ Below w.heap.size w w'

set_option maxRecDepth 20000 in
set_option maxHeartbeats 8000000 in
theorem Notes_any (ao : Option Addr) (nv vc B : Nat) (s : Nat → ByteArray) (n : Nat → Nat) (up dn : Nat → Nat → Int) (t : Nat → Nat → M.It) (w : World) (hV : VL w B ao nv s n up dn t) (hg : GT w B) (hBs : B ≤ w.heap.size) (hn : nv ≤ vc) (hvc : vc ≤ 9223372036854775807) :
    Calls Tryz.prog 5 #[.slice ao nv vc] w fun e w' => NtQ (M.nts nv s n up dn t) w e w' := by
  have HW := Wrong_any ao nv vc B s n up dn t w hV hg hBs hn hvc
  by_cases hw : M.pw nv s n up dn t = 0
  rotate_left
  · have hR : M.nts nv s n up dn t = ([], M.pw nv s n up dn t) := by unfold M.nts; rw [if_pos hw]
    rw [hR]
    have hw' : (M.pw nv s n up dn t != 0) = true := by simp [hw]
    clear hR hw
    generalize M.pw nv s n up dn t = X at *
    go_enter Tryz.func5, Tryz.ntmps5
    go_wp2_with fail
    refine HW.mono ?_
    rintro e w1 ⟨rfl, hb1⟩
    go_wp2_with fail
    go_returns
    exact ⟨_, rfl, ⟨by simp [ntL], .inl ⟨rfl, rfl⟩⟩, hb1⟩
  obtain ⟨hnv, hok⟩ := M.pw_ok hw
  rw [hw] at HW
  have HR : Hid (M.nts nv s n up dn t = if (M.vf n up dn t nv).2 ≠ 0 then ([], (M.vf n up dn t nv).2) else ((M.vf n up dn t nv).1, 0)) := by show M.nts _ _ _ _ _ _ = _; unfold M.nts; rw [if_neg (by simp [hw])]
  have HO : Hid (∀ i, i < nv → n i ≤ 1024 ∧ ∀ j, j < n i → _) := hok
  generalize M.nts nv s n up dn t = RN at *
  have HV : Hid (∀ W, Below B w W → VL W B ao nv s n up dn t ∧ GT W B) := fun W h => ⟨hV.step h, hg.step h⟩
  clear hw hok hV hg
  go_enter Tryz.func5, Tryz.ntmps5
  go_wp2_with fail
  refine HW.mono ?_
  rintro e w1 ⟨rfl, hb1⟩
  have hbB := hb1.mono hBs
  have z1 := hb1.size
  clear HW
  go_wp2_with fail
  have hS0 := Sg.new w1
  have hb2 : Below w1.heap.size w1 (w1.alloc (Obj.cells #[.slice none 0 0, .int .i64 0, .int .i64 0, .int .i64 0, .slice none 0 0, .slice none 0 0, .int .i64 0] 54)) := by go_grown
  have HV1 : Hid (∀ W, Below w1.heap.size w1 W → VL W w1.heap.size ao nv s n up dn t ∧ GT W w1.heap.size) := fun W h => by
    obtain ⟨x1, x2⟩ := HV.out w1 hbB
    exact ⟨(x1.mono (by omega)).step h, (x2.mono (by omega)).step h⟩
  have HS0 : Hid (Sg (w1.alloc (Obj.cells #[.slice none 0 0, .int .i64 0, .int .i64 0, .int .i64 0, .slice none 0 0, .slice none 0 0, .int .i64 0] 54)) w1.heap.size [] 0 0 0 [] [] 0 (.slice none 0 0) (.slice none 0 0) (.slice none 0 0)) := hS0
  clear HV hS0 hbB
  go_loopw [18] (fun i wr => ∃ (k hd : Nat) (vo au ad : Int) (vN vM vT : Value), k ≤ nv ∧ i = .int .i64 (k : Int) ∧ Hid ((M.vf n up dn t k).2 = 0) ∧ Hid (Sg wr w1.heap.size (M.vf n up dn t k).1 vo au ad [] [] hd vN vM vT) ∧ Hid (∀ x ∈ (M.vf n up dn t k).1, F.M.Ok x.lg) ∧ Hid ((M.vf n up dn t k).1.length ≤ k * 67108864) ∧ Below w1.heap.size w1 wr) (fun i _ => nv - (intOf i).toNat)
  case atStart => exact ⟨0, 0, 0, 0, 0, _, _, _, by omega, rfl, rfl, HS0, fun x hx => by simp [M.vf] at hx, by show List.length _ ≤ _; simp [M.vf], hb2⟩
  case round =>
    clear HS0 hb2
    obtain ⟨k, hd, vo, au, ad, vN, vM, vT, hk, rfl, hE, hS, hOk, hLen, hbr⟩ := hrel
    have hqr := hS.out.lt
    by_cases hlt : k < nv
    rotate_left
    · obtain rfl : k = nv := by omega
      have hR : Hid (RN = ((M.vf n up dn t k).1, 0)) := by have := HR.out; rw [if_neg (by simp [hE.out])] at this; exact this
      have c0 := hS.out.c0
      clear HR HV1 HO hE hOk hLen
      go_wp2_with fail
      refine bodyPost_ret (v := .tuple #[vN, .int .i64 0]) (by simp [results, Tryz.results5, go_sem]) rfl ?_
      show NtQ RN w _ _
      rw [hR.out]
      exact ⟨vN, rfl, F.own_base hS.out.n (by omega), hb1.trans (hbr.mono z1)⟩
    obtain ⟨hVr, hgr⟩ := HV1.out wr hbr
    obtain ⟨b, off, rfl, hbl, hcs⟩ := hVr.at' (by omega)
    obtain ⟨ba, bc, c0, c1, c2, c3, hBL⟩ := hcs k hlt
    have hbz : b < wr.heap.size := by omega
    obtain ⟨hn1, hbars⟩ := HO.out k hlt
    have HBa : Hid (∀ j, j < n k → _) := hbars
    have w3 : IntKind.i64.wrap ((k : Int) + 1) = (k : Int) + 1 := gwid (by omega) (by omega)
    have hba : Below wr.heap.size wr (wr.alloc (Obj.cells #[.string (s k), .slice ba (n k) bc] 24)) := by go_grown
    have hbA : Below w1.heap.size w1 (wr.alloc (Obj.cells #[.string (s k), .slice ba (n k) bc] 24)) := hbr.trans (hba.mono (by omega))
    have HBg := begin_any (k : Int) (wr.alloc (Obj.cells #[.string (s k), .slice ba (n k) bc] 24)) w1.heap.size w1.heap.size (M.vf n up dn t k).1 vo au ad [] [] hd vN vM vT (Nat.le_refl _) (hS.out.step hba)
    have HVf : Hid (M.vf n up dn t (k + 1) = ((M.bf k ((M.vf n up dn t k).1, 0, (0, 1)) (up k) (dn k) (t k) (n k)).1.1, (M.bf k ((M.vf n up dn t k).1, 0, (0, 1)) (up k) (dn k) (t k) (n k)).2)) := M.vf_on hE.out
    have HSt : Hid ((M.vf n up dn t (k + 1)).2 ≠ 0 → RN = ([], (M.vf n up dn t (k + 1)).2)) := fun h => by
      have h2 := M.vf_stop h nv (by omega)
      have := HR.out
      rw [h2, if_pos h] at this
      exact this
    have hBo : Hid (M.Bo ((M.vf n up dn t k).1, 0, (0, 1)) (k * 67108864)) := ⟨Nat.zero_le _, hOk.out, (show F.M.Ok (0, 1) from by unfold F.M.Ok F.M.ok; decide), hLen.out⟩
    have e1 : (wr.alloc (Obj.cells #[.string (s k), .slice ba (n k) bc] 24)).cell? ⟨wr.heap.size, 1, none⟩ = some (.slice ba (n k) bc) := by simp [go_sem]
    have vlt : Hid (∀ x, vN.ownBlock = some x → x < wr.heap.size) := F.own_lt hS.out.n
    have mlt : Hid (∀ x, vM.ownBlock = some x → x < wr.heap.size) := F.own_lt hS.out.m
    have HBL : Hid (BL wr w1.heap.size ba (n k) (up k) (dn k) (t k)) := hBL
    have HGT : Hid (GT wr w1.heap.size) := hgr
    clear hS hOk hLen hcs hbars HO hVr hgr hBL hE
    go_wp2_with fail
    refine HBg.mono ?_
    rintro e w2 ⟨rfl, s2, k2, hb2'⟩
    have f1 : w2.cell? ⟨wr.heap.size, 1, none⟩ = some (.slice ba (n k) bc) := (cell_of (k2.blk wr.heap.size (by simp) (by omega) (fun e => by have := vlt.out _ e; omega) (fun e => by have := mlt.out _ e; omega))).trans e1
    have z2 : wr.heap.size < w2.heap.size := by have := k2.sz; simp at this; omega
    have hbo2 : Below w1.heap.size wr w2 := (hba.mono (by omega)).trans hb2'
    have S2 : Hid (Sg w2 w1.heap.size (M.vf n up dn t k).1 (k : Int) 0 1 [] [] 0 vN vM vT) := s2
    clear HBg s2 k2 hb2' e1 hba hbA vlt mlt
    obtain ⟨G, hG⟩ : ∃ G : Nat → (List M.Nt × Nat × (Int × Int)) × Int, G = M.bf k ((M.vf n up dn t k).1, 0, (0, 1)) (up k) (dn k) (t k) := ⟨_, rfl⟩
    rw [← hG] at HVf
    have G0 : G 0 = (((M.vf n up dn t k).1, 0, (0, 1)), 0) := by rw [hG]; rfl
    have HGon : Hid (∀ j, (G j).2 = 0 → G (j + 1) = M.br k (G j).1 (up k j) (dn k j) (t k j)) := fun j h => by rw [hG] at h ⊢; exact M.bf_on h
    have HGst : Hid (∀ j m, (G j).2 ≠ 0 → j ≤ m → G m = G j) := fun j m h hm => by rw [hG] at h ⊢; exact M.bf_stop h m hm
    have HGS : Hid ((G 0).2 = 0 ∧ Sg w2 w1.heap.size (G 0).1.1 (k : Int) (G 0).1.2.2.1 (G 0).1.2.2.2 [] [] (G 0).1.2.1 vN vM vT ∧ M.Bo (G 0).1 (k * 67108864)) := by rw [G0]; exact ⟨rfl, S2.out, hBo.out⟩
    have HBF : Hid (∀ j, j < n k → (G (j + 1)).2 ≠ 0 → RN = ([], (G (j + 1)).2)) := fun j hj h => by
      have h2 : (M.vf n up dn t (k + 1)).2 = (G (j + 1)).2 := by rw [HVf.out]; show (G (n k)).2 = _; rw [HGst.out (j + 1) (n k) h (by omega)]
      have := HSt.out (by rw [h2]; exact h)
      rw [h2] at this; exact this
    have HVF : Hid (M.vf n up dn t (k + 1) = ((G (n k)).1.1, (G (n k)).2)) := HVf.out
    clear hG G0 S2 hBo HSt HVf
    obtain ⟨wo, hwo⟩ : ∃ x, x = wr := ⟨wr, rfl⟩
    subst hwo
    have hn64 : k < 64 := by omega
    go_wp2_with fail
    go_loopw [28] (fun i wr => ∃ (j : Nat) (vN vM vT : Value), j ≤ n k ∧ i = .int .i64 (j : Int) ∧ Hid ((G j).2 = 0) ∧ Hid (Sg wr w1.heap.size (G j).1.1 (k : Int) (G j).1.2.2.1 (G j).1.2.2.2 [] [] (G j).1.2.1 vN vM vT) ∧ Hid (M.Bo (G j).1 (k * 67108864 + j * 65536)) ∧ Below w1.heap.size wo wr) (fun i _ => n k - (intOf i).toNat)
    case atStart => exact ⟨0, vN, vM, vT, by omega, rfl, HGS.out.1, HGS.out.2.1, (by show M.Bo _ _; simpa using HGS.out.2.2), hbo2⟩
    case round =>
      clear HGS hbo2 f1 z2 vN vM vT
      obtain ⟨j, vN, vM, vT, hj, rfl, hE, hS, hBo, hbo⟩ := hrel
      have hqr2 := hS.out.lt
      have hbw := hbr.trans hbo
      by_cases hjl : j < n k
      rotate_left
      · obtain rfl : j = n k := by omega
        have hE2 : Hid ((M.vf n up dn t (k + 1)).2 = 0) := by show _ = _; rw [HVF.out]; exact hE.out
        have hS2 : Hid (Sg wr w1.heap.size (M.vf n up dn t (k + 1)).1 (k : Int) (G (n k)).1.2.2.1 (G (n k)).1.2.2.2 [] [] (G (n k)).1.2.1 vN vM vT) := by rw [HVF.out]; exact hS.out
        have hO2 : Hid (∀ x ∈ (M.vf n up dn t (k + 1)).1, F.M.Ok x.lg) := by rw [HVF.out]; exact hBo.out.ok
        have hL2 : Hid ((M.vf n up dn t (k + 1)).1.length ≤ (k + 1) * 67108864) := by rw [HVF.out]; have := hBo.out.len; show List.length _ ≤ _; simp only; omega
        clear hE hS hBo HVF HBF HGst HGon HBa HBL HGT
        go_wp2_with fail
        go_roundw
        case rel => exact ⟨k + 1, _, _, _, _, vN, vM, vT, by omega, by go_num, hE2, hS2, hO2, hL2, hbw⟩
        case measure => simp [intOf]; omega
      obtain ⟨b5, off5, rfl, hbl5, hcs5⟩ := (HBL.out.step hbo).at' (by omega)
      obtain ⟨ia, ic, d0, d1, d2, d3, d4, d5⟩ := hcs5 j hjl
      obtain ⟨g1, g2, g3, g4, g5⟩ := HBa.out j hjl
      have hbz5 : b5 < wr.heap.size := by omega
      have w5 : IntKind.i64.wrap ((j : Int) + 1) = (j : Int) + 1 := gwid (by omega) (by omega)
      have hba : Below wr.heap.size wr (wr.alloc (Obj.cells #[.int .i64 (up k j), .int .i64 (dn k j), .slice ia (t k j).n ic] 34)) := by go_grown
      have hbaq := hba.mono (show w1.heap.size ≤ wr.heap.size by omega)
      obtain ⟨hme, hf⟩ := M.foot g1 g2 g3 g4
      have HB := bar_any (t k j) (up k j) (dn k j) ia ic (wr.alloc (Obj.cells #[.int .i64 (up k j), .int .i64 (dn k j), .slice ia (t k j).n ic] 34)) w1.heap.size w1.heap.size (k * 67108864 + j * 65536) (G j).1.1 (G j).1.2.1 (k : Int) (G j).1.2.2.1 (G j).1.2.2.2 [] vN vM vT (LL.step _ _ d5 hbaq) ((HGT.out.step hbo).step hbaq) (Nat.le_refl _) d3 d4 g1 g2 g3 g4 g5 (hS.out.step hba) hBo.out (by omega)
      have eG : ((G j).1.1, (G j).1.2.1, ((G j).1.2.2.1, (G j).1.2.2.2)) = (G j).1 := rfl
      rw [eG, ← HGon.out j hE.out] at HB
      have HBo2 : Hid ((G (j + 1)).2 = 0 → M.Bo (G (j + 1)).1 (k * 67108864 + (j + 1) * 65536)) := fun h => by
        have h2 := HGon.out j hE.out
        rw [h2] at h ⊢
        have := M.br_ok hBo.out hf (by omega) (by omega) g5 h
        rw [show k * 67108864 + (j + 1) * 65536 = k * 67108864 + j * 65536 + 65536 by omega]
        exact this
      have HBFj : Hid ((G (j + 1)).2 ≠ 0 → RN = ([], (G (j + 1)).2)) := HBF.out j hjl
      have HBq : Hid (Below w1.heap.size wo (wr.alloc (Obj.cells #[.int .i64 (up k j), .int .i64 (dn k j), .slice ia (t k j).n ic] 34))) := hbo.trans hbaq
      clear hE hS hBo hcs5 d5 g5 hba hbaq hme hf eG g1 g2 g3 g4
      generalize hGJ : G (j + 1) = GJ at *
      have HGJ : Hid (G (j + 1) = GJ) := hGJ
      clear hGJ
      generalize up k j = uu at *
      generalize dn k j = dd at *
      generalize (t k j).n = tn at *
      go_wp2_with fail
      refine HB.mono ?_
      rintro e w6 ⟨rfl, h1, h2⟩
      have H1 : Hid _ := h1
      have hb6 : Below w1.heap.size wo w6 := HBq.out.trans h2
      clear h1 h2 HB HBq
      by_cases he : GJ.2 = 0
      · obtain ⟨vN', vM', vT', s1, k1⟩ := H1.out he
        have hE2 : Hid ((G (j + 1)).2 = 0) := by rw [HGJ.out]; exact he
        have hS2 : Hid (Sg w6 w1.heap.size (G (j + 1)).1.1 (k : Int) (G (j + 1)).1.2.2.1 (G (j + 1)).1.2.2.2 [] [] (G (j + 1)).1.2.1 vN' vM' vT') := by rw [HGJ.out]; exact s1
        have hB2 : Hid (M.Bo (G (j + 1)).1 (k * 67108864 + (j + 1) * 65536)) := by rw [HGJ.out]; exact HBo2.out he
        rw [he]
        clear H1 HBo2 HBFj s1 k1 HGJ he
        go_wp2_with fail
        go_roundw
        case rel => exact ⟨j + 1, vN', vM', vT', by omega, by go_num, hE2, hS2, hB2, hb6⟩
        case measure => simp [intOf]; omega
      · have hR : Hid (RN = ([], GJ.2)) := HBFj.out he
        have he' : (GJ.2 != 0) = true := by simp [he]
        clear HBFj H1 HBo2 HBF
        go_wp2_with fail
        refine bodyPost_ret (v := .tuple #[.slice none 0 0, .int .i64 GJ.2]) (by simp [results, Tryz.results5, go_sem]) rfl ?_
        show NtQ RN w _ _
        rw [hR.out]
        exact ⟨_, rfl, ⟨by simp [ntL], .inl ⟨rfl, rfl⟩⟩, hb1.trans ((hbr.trans hb6).mono z1)⟩
end Go.Proofs.YtaohahahhjkcdaeGreatDoor.G

/- A piece whose bars are put into ones that move them: its notes are the notes moved, or one of them can't be moved. -/
namespace Go.Proofs.YtaohahahhjkcdaeGreatDoor.G.M
set_option linter.unusedVariables false
set_option linter.unusedSimpArgs false

/-- A bar's items put into one that moves them. -/
def wr2 (i : Int × Int) : It → It
  | ⟨false, _, _, _, _, _, _, _, _, _, n, kid⟩ => wrp i n kid
  | ⟨true, k, s, np, pl, pa, po, b1, b2, ly, n, sub⟩ => ⟨true, k, s, np, pl, pa, po, b1, b2, ly, n, sub⟩
theorem pw_of {nv : Nat} {sn : Nat → ByteArray} {n : Nat → Nat} {up dn : Nat → Nat → Int} {t : Nat → Nat → It} (h0 : (nts nv sn n up dn t).2 = 0) : pw nv sn n up dn t = 0 := by
  unfold nts at h0
  by_cases c1 : pw nv sn n up dn t ≠ 0
  · rw [if_pos c1] at h0; exact h0
  · simpa using c1
theorem nts_wr {i : Int × Int} {nv : Nat} {sn : Nat → ByteArray} {n : Nat → Nat} {up dn : Nat → Nat → Int} {t : Nat → Nat → It} (h0 : (nts nv sn n up dn t).2 = 0) (hw : pw nv sn n up dn (fun a b => wr2 i (t a b)) = 0) :
    (Mv i.1 i.2 (nts nv sn n up dn t).1 → nts nv sn n up dn (fun a b => wr2 i (t a b)) = ((nts nv sn n up dn t).1.map (nmv i.1 i.2), 0)) ∧ (¬ Mv i.1 i.2 (nts nv sn n up dn t).1 → (nts nv sn n up dn (fun a b => wr2 i (t a b))).2 ≠ 0) := by
  refine nts_mv (fun a ha b hb => ?_) h0 hw
  obtain ⟨_, q1⟩ := pw_ok (pw_of h0)
  obtain ⟨_, q2⟩ := q1 a ha
  obtain ⟨u1, u2, d1, d2, r1⟩ := q2 b hb
  obtain ⟨_, p1⟩ := pw_ok hw
  obtain ⟨_, p2⟩ := p1 a ha
  obtain ⟨_, _, _, _, r2⟩ := p2 b hb
  generalize t a b = x at *
  obtain ⟨z, k, s, np, pl, pa, po, b1, b2, ly, m, sub⟩ := x
  cases z with
  | true => simp [ri] at r1
  | false => exact br_mv a r1 r2 u1 u2 d1 d2
end Go.Proofs.YtaohahahhjkcdaeGreatDoor.G.M

/- All pitches of a right piece's notes are right. -/
namespace Go.Proofs.YtaohahahhjkcdaeGreatDoor.G.M
set_option linter.unusedVariables false
set_option linter.unusedSimpArgs false

def RtN (l : List Nt) : Prop := ∀ x ∈ l, Proofs.YtaohahahhjkcdaeGreatDoor.M.rt x.pl x.pa x.po = true
theorem mv1_rt {p : Int × Int × Int} {s h : Int} (h0 : (mv1 p s h).2 = 0) : Proofs.YtaohahahhjkcdaeGreatDoor.M.rt (mv1 p s h).1.1 (mv1 p s h).1.2.1 (mv1 p s h).1.2.2 = true := by
  unfold mv1 at *
  split at h0
  · cases h0
  · rename_i c1
    split at h0
    · cases h0
    · rename_i c2
      rw [if_neg c1, if_neg c2]
      simp only at h0 ⊢
      have hm : Proofs.YtaohahahhjkcdaeGreatDoor.M.mk p.1 p.2.1 p.2.2 s h = true := by
        cases hk : Proofs.YtaohahahhjkcdaeGreatDoor.M.mk p.1 p.2.1 p.2.2 s h
        · rw [Proofs.YtaohahahhjkcdaeGreatDoor.M.me_no hk (by simpa using c1)] at h0; cases h0
        · rfl
      rw [Proofs.YtaohahahhjkcdaeGreatDoor.M.ml_yes hm, Proofs.YtaohahahhjkcdaeGreatDoor.M.ma_yes hm, Proofs.YtaohahahhjkcdaeGreatDoor.M.mo_yes hm]
      exact Proofs.YtaohahahhjkcdaeGreatDoor.M.rt_pl (Proofs.YtaohahahhjkcdaeGreatDoor.M.mk_yes hm).2.2
theorem mvd_rt {ms mh : Nat → Int} : ∀ {k : Nat} {p : Int × Int × Int}, Proofs.YtaohahahhjkcdaeGreatDoor.M.rt p.1 p.2.1 p.2.2 = true → (mvd ms mh k p).2 = 0 → Proofs.YtaohahahhjkcdaeGreatDoor.M.rt (mvd ms mh k p).1.1 (mvd ms mh k p).1.2.1 (mvd ms mh k p).1.2.2 = true
  | 0, p, h, _ => h
  | k + 1, p, h, h0 => by
    rw [mvd] at h0 ⊢
    split at h0
    · rename_i c; exact absurd h0 c
    · rename_i c
      rw [if_neg c]
      exact mvd_rt (mv1_rt (by simpa using c)) h0
theorem mvp_rt {mv : List (Int × Int)} {p : Int × Int × Int} (h : Proofs.YtaohahahhjkcdaeGreatDoor.M.rt p.1 p.2.1 p.2.2 = true) (h0 : (mvp mv p).2 = 0) : Proofs.YtaohahahhjkcdaeGreatDoor.M.rt (mvp mv p).1.1 (mvp mv p).1.2.1 (mvp mv p).1.2.2 = true := mvd_rt h h0
theorem tl_rt {lg : Int × Int} : ∀ {l l' : List Nt}, tl lg l = some l' → RtN l → RtN l'
  | [], l', h, _ => by simp [tl] at h; subst h; intro x hx; simp at hx
  | x :: l, l', h, hr => by
    rw [tl] at h
    cases hp : F.M.pl x.lg lg with
    | none => rw [hp] at h; simp at h
    | some f =>
      rw [hp] at h
      simp only [Option.bind_some] at h
      cases ht : tl lg l with
      | none => rw [ht] at h; simp at h
      | some l2 =>
        rw [ht] at h
        simp only [Option.map_some, Option.some.injEq] at h
        subst h
        have h2 := tl_rt ht (fun y hy => hr y (by simp [hy]))
        intro y hy
        rcases List.mem_cons.1 hy with rfl | hy
        · exact hr x (by simp)
        · exact h2 y hy
theorem ra_ch {t : It} (h : raI t = true) (hk : t.k = 1) : ch t.np t.pl t.pa t.po = true := by
  unfold raI ra at h
  split at h
  · cases h
  · simp only [Bool.and_eq_true] at h
    exact h.1.1.1.2
theorem ch_at {np : Nat} {pl pa po : Nat → Int} (h : ch np pl pa po = true) {j : Nat} (hj : j < np) : Proofs.YtaohahahhjkcdaeGreatDoor.M.rt (pl j) (pa j) (po j) = true := by
  unfold ch at h
  rw [List.all_eq_true] at h
  exact h j (by simpa using hj)
theorem lf_rt {vo : Int} {av : Int × Int} {mv : List (Int × Int)} {t : It} {z : Zs} (hr : raI t = true) (hz : RtN z.ns) (h0 : (lf vo av mv t z).2 = 0) : RtN (lf vo av mv t z).1.ns := by
  unfold lf at *
  cases htm : z.tm with
  | nil => rw [htm] at h0; cases h0
  | cons sp tm =>
    rw [htm] at h0
    simp only at h0 ⊢
    cases hp : F.M.pl av sp.1 with
    | none => rw [hp] at h0; cases h0
    | some st =>
      rw [hp] at h0
      simp only at h0 ⊢
      by_cases hk : t.k = 1
      · rw [if_pos hk] at h0 ⊢
        simp only at h0 ⊢
        unfold cdn at h0 ⊢
        obtain ⟨c1, c2⟩ := cdl_all h0
        rw [c2]
        intro x hx
        rcases List.mem_append.1 hx with hx | hx
        · exact hz x hx
        · obtain ⟨j, hj, rfl⟩ := List.mem_map.1 hx
          have hj' := List.mem_range.1 hj
          exact mvp_rt (p := (t.pl j, t.pa j, t.po j)) (ch_at (ra_ch hr hk) hj') (c1 j hj')
      · rw [if_neg hk] at h0 ⊢
        by_cases hk3 : t.k = 3
        · rw [if_pos hk3] at h0 ⊢
          cases ht : tl sp.2.1 (z.ns.drop (z.ns.length - z.hd)) with
          | none => rw [ht] at h0; cases h0
          | some l =>
            simp only
            intro x hx
            rcases List.mem_append.1 hx with hx | hx
            · exact hz x (List.mem_of_mem_take hx)
            · exact tl_rt ht (fun y hy => hz y (List.mem_of_mem_drop hy)) x hx
        · rw [if_neg hk3]; exact hz
theorem sk_rt {f : Nat → Zs → Zs × Int} {n : Nat} (hf : ∀ j, j < n → ∀ z, RtN z.ns → (f j z).2 = 0 → RtN (f j z).1.ns) : ∀ (c i : Nat), i + c ≤ n → ∀ z, RtN z.ns → (sk f c i z).2 = 0 → RtN (sk f c i z).1.ns
  | 0, i, _, z, hz, _ => hz
  | c + 1, i, hi, z, hz, h0 => by
    rw [sk] at h0 ⊢
    split at h0
    · rename_i q; exact absurd h0 q
    · rename_i q
      rw [if_neg q]
      exact sk_rt hf c (i + 1) (by omega) _ (hf i (by omega) z hz (by simpa using q)) h0
theorem sg_rt (vo : Int) (av : Int × Int) (t : It) : ∀ (lev m : Int), 0 ≤ m → m ≤ 4095 → (ri t lev m).1 = true → ∀ (mv : List (Int × Int)) (z : Zs), RtN z.ns → (sg vo av t mv z).2 = 0 → RtN (sg vo av t mv z).1.ns := by
  induction t using It.ind with
  | nil => intro lev m _ _ h; simp [ri] at h
  | mk k s np pl pa po b1 b2 ly n kid ih =>
    intro lev m h1 h2 h mv z hz h0
    obtain ⟨_, _, hk⟩ := ri_kids _ _ _ _ _ _ _ _ _ _ _ _ _ h1 h2 h
    rw [sg_mk] at h0 ⊢
    refine sk_rt (n := n) (fun j hj z hz h0 => ?_) n 0 (by omega) z hz h0
    obtain ⟨r1, r2⟩ := hk j hj
    unfold s1 at h0 ⊢
    by_cases c4 : (kid j).k = 4
    · rw [if_pos c4] at h0 ⊢
      obtain ⟨m', q1, q2, q3⟩ := r2 (Or.inl c4)
      exact ih j _ _ q1 q2 q3 _ _ hz h0
    · rw [if_neg c4] at h0 ⊢
      by_cases c5 : (kid j).k = 5
      · rw [if_pos c5] at h0 ⊢
        obtain ⟨m', q1, q2, q3⟩ := r2 (Or.inr c5)
        exact ih j _ _ q1 q2 q3 _ _ hz h0
      · rw [if_neg c5] at h0 ⊢
        exact lf_rt r1 hz h0
theorem br_rt {vo : Int} {x : List Nt × Nat × (Int × Int)} {u d : Int} {t : It} (hr : (ri t 1 0).1 = true) (hx : RtN x.1) (h0 : (br vo x u d t).2 = 0) : RtN (br vo x u d t).1.1 := by
  unfold br at *
  split at h0
  · rename_i q; exact absurd h0 q
  · rename_i q1
    rw [if_neg q1]
    split at h0
    · rename_i q; exact absurd h0 q
    · rename_i q2
      rw [if_neg q2]
      cases hp : F.M.pl x.2.2 (F.M.mu u d, F.M.md u d) with
      | none => rw [hp] at h0; cases h0
      | some a =>
        simp only
        exact sg_rt vo _ t 1 0 (by omega) (by omega) hr [] _ hx (by simpa using q2)
theorem bf_rt {vo : Int} {x : List Nt × Nat × (Int × Int)} {up dn : Nat → Int} {t : Nat → It} {n : Nat} (hr : ∀ j, j < n → (ri (t j) 1 0).1 = true) (hx : RtN x.1) : ∀ k, k ≤ n → (bf vo x up dn t k).2 = 0 → RtN (bf vo x up dn t k).1.1
  | 0, _, _ => hx
  | k + 1, hk, h0 => by
    rw [bf] at h0 ⊢
    split at h0
    · rename_i q; exact absurd h0 q
    · rename_i q
      rw [if_neg q]
      exact br_rt (hr k (by omega)) (bf_rt hr hx k (by omega) (by simpa using q)) h0
theorem vf_rt {n : Nat → Nat} {up dn : Nat → Nat → Int} {t : Nat → Nat → It} {nv : Nat} (hr : ∀ i, i < nv → ∀ j, j < n i → (ri (t i j) 1 0).1 = true) : ∀ k, k ≤ nv → (vf n up dn t k).2 = 0 → RtN (vf n up dn t k).1
  | 0, _, _ => by intro x hx; simp [vf] at hx
  | k + 1, hk, h0 => by
    rw [vf] at h0 ⊢
    split at h0
    · rename_i q; exact absurd h0 q
    · rename_i q
      rw [if_neg q]
      exact bf_rt (hr k (by omega)) (vf_rt hr k (by omega) (by simpa using q)) (n k) (Nat.le_refl _) h0
theorem nts_rt {nv : Nat} {sn : Nat → ByteArray} {n : Nat → Nat} {up dn : Nat → Nat → Int} {t : Nat → Nat → It} (h0 : (nts nv sn n up dn t).2 = 0) : RtN (nts nv sn n up dn t).1 := by
  have hp := pw_of h0
  obtain ⟨_, q⟩ := pw_ok hp
  unfold nts at h0 ⊢
  rw [if_neg (by simp [hp])] at h0 ⊢
  by_cases c : (vf n up dn t nv).2 ≠ 0
  · rw [if_pos c] at h0; exact absurd h0 c
  · rw [if_neg c]
    exact vf_rt (fun i hi j hj => ((q i hi).2 j hj).2.2.2.2) nv (Nat.le_refl _) (by simpa using c)
end Go.Proofs.YtaohahahhjkcdaeGreatDoor.G.M

/- The second half of a voice alone: the same notes, as much earlier xs the first half lasts. -/
namespace Go.Proofs.YtaohahahhjkcdaeGreatDoor.G.M
set_option linter.unusedVariables false
set_option linter.unusedSimpArgs false

theorem pl_val {a b f : Int × Int} (h : F.M.pl a b = some f) (ha : 1 ≤ a.2) (hb : 1 ≤ b.2) : f.1 * (a.2 * b.2) = (a.1 * b.2 + b.1 * a.2) * f.2 ∧ 1 ≤ f.2 := by
  unfold F.M.pl at h
  have hd : 1 ≤ a.2 * b.2 := F.M.mul_pos' _ _ ha hb
  obtain ⟨e, hl, _⟩ := F.M.tell_some h hd
  have h1 := F.M.lu_mul (a.1 * b.2 + b.1 * a.2) (a.2 * b.2)
  have h2 := F.M.ld_mul (a.1 * b.2 + b.1 * a.2) (a.2 * b.2)
  refine ⟨?_, hl.1⟩
  rw [e]
  simp only
  generalize F.M.gi (a.1 * b.2 + b.1 * a.2) (a.2 * b.2) = g at *
  generalize F.M.lu (a.1 * b.2 + b.1 * a.2) (a.2 * b.2) = u at *
  generalize F.M.ld (a.1 * b.2 + b.1 * a.2) (a.2 * b.2) = d at *
  rw [← h1, ← h2]
  grind
/-- Sums in another order: where all of them can be told. -/
theorem pl_shift {a B A s x y : Int × Int} (ha : 1 ≤ a.2) (hB : 1 ≤ B.2) (hs : 1 ≤ s.2) (h0 : F.M.pl a B = some A) (h1 : F.M.pl a s = some x) (h2 : F.M.pl A s = some y) : F.M.pl x B = some y := by
  obtain ⟨e0, d0⟩ := pl_val h0 ha hB
  obtain ⟨e1, d1⟩ := pl_val h1 ha hs
  rw [← h2]
  unfold F.M.pl
  refine F.M.tell_congr (F.M.mul_pos' _ _ d1 hB) (F.M.mul_pos' _ _ d0 hs) ?_
  have key : a.2 * ((x.1 * B.2 + B.1 * x.2) * (A.2 * s.2)) = a.2 * ((A.1 * s.2 + s.1 * A.2) * (x.2 * B.2)) := by grind
  exact Int.eq_of_mul_eq_mul_left (by omega) key
/-- A note, as much later. -/
def sft (B : Int × Int) (x : Nt) : Nt := { x with st := (F.M.pl x.st B).getD (0, 0) }
def Tol (B : Int × Int) (l : List Nt) : Prop := ∀ x ∈ l, ∃ y, F.M.pl x.st B = some y
theorem tl_sft (B lg : Int × Int) : ∀ l : List Nt, tl lg (l.map (sft B)) = (tl lg l).map (List.map (sft B))
  | [] => rfl
  | x :: l => by
    rw [List.map_cons, tl, tl, tl_sft B lg l]
    show (F.M.pl x.lg lg).bind _ = _
    cases F.M.pl x.lg lg with
    | none => rfl
    | some f =>
      simp only [Option.bind_some]
      cases tl lg l with
      | none => rfl
      | some l' => rfl
theorem tl_tol {B lg : Int × Int} : ∀ {l l' : List Nt}, tl lg l = some l' → Tol B l → Tol B l'
  | [], l', h, _ => by simp [tl] at h; subst h; intro x hx; simp at hx
  | x :: l, l', h, hr => by
    rw [tl] at h
    cases hp : F.M.pl x.lg lg with
    | none => rw [hp] at h; simp at h
    | some f =>
      rw [hp] at h
      simp only [Option.bind_some] at h
      cases ht : tl lg l with
      | none => rw [ht] at h; simp at h
      | some l2 =>
        rw [ht] at h
        simp only [Option.map_some, Option.some.injEq] at h
        subst h
        have h2 := tl_tol (B := B) ht (fun y hy => hr y (by simp [hy]))
        intro y hy
        rcases List.mem_cons.1 hy with rfl | hy
        · exact hr x (by simp)
        · exact h2 y hy
/-- Two singers: the whole voice's and the second half's. -/
structure Tw (B : Int × Int) (xs : List Nt) (zw z2 : Zs) : Prop where
  ns : zw.ns = xs ++ z2.ns.map (sft B)
  tol : Tol B z2.ns
  tm : zw.tm = z2.tm
  ok : ∀ p ∈ z2.tm, 1 ≤ p.1.2
/-- What a tie makes longer is the same. -/
def Hd (zw z2 : Zs) : Prop := zw.hd = z2.hd ∧ z2.hd ≤ z2.ns.length
theorem lf_tw {B : Int × Int} {xs : List Nt} {zw z2 : Zs} {vo : Int} {a A : Int × Int} {mv : List (Int × Int)} {t : It} (ha : 1 ≤ a.2) (hB : 1 ≤ B.2) (hA : F.M.pl a B = some A) (h : Tw B xs zw z2) (hh : t.k = 3 → Hd zw z2) (h0 : (lf vo A mv t zw).2 = 0) :
    (lf vo a mv t z2).2 = 4 ∨ ((lf vo a mv t z2).2 = 0 ∧ Tw B xs (lf vo A mv t zw).1 (lf vo a mv t z2).1 ∧ Hd (lf vo A mv t zw).1 (lf vo a mv t z2).1) := by
  obtain ⟨nsw, hdw, tmw⟩ := zw
  obtain ⟨ns2, hd2, tm2⟩ := z2
  obtain ⟨e1, e2, e3, e4⟩ := h
  simp only at e1 e2 e3 e4
  subst e1 e3
  unfold lf at h0 ⊢
  simp only at h0 ⊢
  cases tmw with
  | nil => simp at h0
  | cons sp tm =>
    simp only at h0 ⊢
    cases hp : F.M.pl A sp.1 with
    | none => rw [hp] at h0; simp at h0
    | some st =>
      rw [hp] at h0
      simp only at h0 ⊢
      cases hq : F.M.pl a sp.1 with
      | none => left; rfl
      | some st2 =>
        right
        simp only
        have hst := pl_shift ha hB (e4 sp (by simp)) hA hq hp
        have ok2 : ∀ p ∈ tm, 1 ≤ p.1.2 := fun p hp => e4 p (by simp [hp])
        by_cases hk : t.k = 1
        · simp only [if_pos hk] at h0 ⊢
          unfold cdn at h0 ⊢
          obtain ⟨c1, c2⟩ := cdl_all h0
          have c3 := cdl_of (f := fun p => (⟨vo, st2, sp.2.1, p.1, p.2.1, p.2.2, t.ly⟩ : Nt)) c1
          rw [c2, c3]
          refine ⟨rfl, ⟨?_, ?_, rfl, ok2⟩, rfl, by simp⟩
          · simp only [List.map_append, List.append_assoc, List.map_map]
            congr 2
            refine List.map_congr_left (fun j hj => ?_)
            simp [sft, hst]
          · intro x hx
            rcases List.mem_append.1 hx with hx | hx
            · exact e2 x hx
            · obtain ⟨j, _, rfl⟩ := List.mem_map.1 hx
              exact ⟨st, hst⟩
        · simp only [if_neg hk] at h0 ⊢
          by_cases hk3 : t.k = 3
          · obtain ⟨q1, q2⟩ := hh hk3
            simp only at q1 q2
            subst q1
            simp only [if_pos hk3] at h0 ⊢
            have hl : (xs ++ ns2.map (sft B)).length - hdw = xs.length + (ns2.length - hdw) := by simp; omega
            rw [hl] at h0 ⊢
            have hdr : (xs ++ ns2.map (sft B)).drop (xs.length + (ns2.length - hdw)) = (ns2.drop (ns2.length - hdw)).map (sft B) := by
              rw [List.drop_append, List.drop_eq_nil_of_le (by omega), List.nil_append, List.map_drop]
              congr 1; omega
            have htk : (xs ++ ns2.map (sft B)).take (xs.length + (ns2.length - hdw)) = xs ++ (ns2.take (ns2.length - hdw)).map (sft B) := by
              rw [List.take_append, List.take_of_length_le (by omega), List.map_take]
              congr 2; omega
            rw [hdr, tl_sft] at h0
            rw [hdr, htk, tl_sft]
            cases ht : tl sp.2.1 (ns2.drop (ns2.length - hdw)) with
            | none => rw [ht] at h0; simp at h0
            | some l =>
              simp only [Option.map_some]
              have hlen := tl_len ht
              refine ⟨trivial, ⟨?_, ?_, rfl, ok2⟩, rfl, ?_⟩
              · simp
              · intro x hx
                rcases List.mem_append.1 hx with hx | hx
                · exact e2 x (List.mem_of_mem_take hx)
                · exact tl_tol ht (fun y hy => e2 y (List.mem_of_mem_drop hy)) x hx
              · simp [hlen]; omega
          · simp only [if_neg hk3] at h0 ⊢
            exact ⟨trivial, ⟨rfl, e2, rfl, ok2⟩, rfl, by simp⟩
theorem sk_tw {B : Int × Int} {xs : List Nt} {f g : Nat → Zs → Zs × Int} {n : Nat} (hf : ∀ j, j < n → ∀ zw z2, Tw B xs zw z2 → Hd zw z2 → (f j zw).2 = 0 → (g j z2).2 = 4 ∨ ((g j z2).2 = 0 ∧ Tw B xs (f j zw).1 (g j z2).1 ∧ Hd (f j zw).1 (g j z2).1)) :
    ∀ (c i : Nat), i + c ≤ n → ∀ zw z2, Tw B xs zw z2 → Hd zw z2 → (sk f c i zw).2 = 0 → (sk g c i z2).2 = 4 ∨ ((sk g c i z2).2 = 0 ∧ Tw B xs (sk f c i zw).1 (sk g c i z2).1 ∧ Hd (sk f c i zw).1 (sk g c i z2).1)
  | 0, i, _, zw, z2, h, hh, _ => Or.inr ⟨rfl, h, hh⟩
  | c + 1, i, hi, zw, z2, h, hh, h0 => by
    rw [sk] at h0
    rw [sk, sk]
    by_cases q : (f i zw).2 ≠ 0
    · rw [if_pos q] at h0; exact absurd h0 q
    · rw [if_neg q] at h0 ⊢
      rcases hf i (by omega) zw z2 h hh (by simpa using q) with h4 | ⟨h1, h2, h3⟩
      · left; rw [if_pos (by omega)]; exact h4
      · rw [if_neg (by omega)]
        exact sk_tw hf c (i + 1) (by omega) _ _ h2 h3 h0
theorem sg_tw {B : Int × Int} {xs : List Nt} {vo : Int} {a A : Int × Int} (ha : 1 ≤ a.2) (hB : 1 ≤ B.2) (hA : F.M.pl a B = some A) (t : It) : ∀ (mv : List (Int × Int)) (zw z2 : Zs), Tw B xs zw z2 → Hd zw z2 → (sg vo A t mv zw).2 = 0 → (sg vo a t mv z2).2 = 4 ∨ ((sg vo a t mv z2).2 = 0 ∧ Tw B xs (sg vo A t mv zw).1 (sg vo a t mv z2).1 ∧ Hd (sg vo A t mv zw).1 (sg vo a t mv z2).1) := by
  induction t using It.ind with
  | nil => intro mv zw z2 _ _ h; simp [sg] at h
  | mk k s np pl pa po b1 b2 ly n kid ih =>
    intro mv zw z2 h hh h0
    rw [sg_mk] at h0
    rw [sg_mk, sg_mk]
    refine sk_tw (n := n) (fun j hj zw z2 h hh h0 => ?_) n 0 (by omega) zw z2 h hh h0
    unfold s1 at h0 ⊢
    by_cases c4 : (kid j).k = 4
    · simp only [if_pos c4] at h0 ⊢
      exact ih j _ _ _ h hh h0
    · simp only [if_neg c4] at h0 ⊢
      by_cases c5 : (kid j).k = 5
      · simp only [if_pos c5] at h0 ⊢
        exact ih j _ _ _ h hh h0
      · simp only [if_neg c5] at h0 ⊢
        exact lf_tw ha hB hA h (fun _ => hh) h0
/-- Does the list of kids begin with a tie. -/
def td : It → Bool
  | ⟨true, _, _, _, _, _, _, _, _, _, _, _⟩ => false
  | ⟨false, _, _, _, _, _, _, _, _, _, n, kid⟩ => if n = 0 then false else if (kid 0).k = 3 then true else td (kid 0)
theorem td_mk (k s : Int) (np : Nat) (pl pa po : Nat → Int) (b1 b2 : Int) (ly : ByteArray) (n : Nat) (kid : Nat → It) : td (.mk k s np pl pa po b1 b2 ly n kid) = if n = 0 then false else if (kid 0).k = 3 then true else td (kid 0) := by rw [td]
theorem sg_first {B : Int × Int} {xs : List Nt} {vo : Int} {a A : Int × Int} (ha : 1 ≤ a.2) (hB : 1 ≤ B.2) (hA : F.M.pl a B = some A) (t : It) : ∀ (lev m : Int), 0 ≤ m → m ≤ 4095 → (ri t lev m).1 = true → td t = false → ∀ (mv : List (Int × Int)) (zw z2 : Zs), Tw B xs zw z2 → (sg vo A t mv zw).2 = 0 → (sg vo a t mv z2).2 = 4 ∨ ((sg vo a t mv z2).2 = 0 ∧ Tw B xs (sg vo A t mv zw).1 (sg vo a t mv z2).1 ∧ Hd (sg vo A t mv zw).1 (sg vo a t mv z2).1) := by
  induction t using It.ind with
  | nil => intro lev m _ _ h; simp [ri] at h
  | mk k s np pl pa po b1 b2 ly n kid ih =>
    intro lev m h1 h2 hr htd mv zw z2 h h0
    obtain ⟨n1, _, hk⟩ := ri_kids _ _ _ _ _ _ _ _ _ _ _ _ _ h1 h2 hr
    obtain ⟨r1, r2⟩ := hk 0 (by omega)
    rw [td_mk, if_neg (by omega)] at htd
    have hk3 : ¬ (kid 0).k = 3 := fun q => by rw [if_pos q] at htd; cases htd
    rw [if_neg hk3] at htd
    obtain ⟨c, rfl⟩ : ∃ c, n = c + 1 := ⟨n - 1, by omega⟩
    rw [sg_mk] at h0
    rw [sg_mk, sg_mk]
    rw [sk] at h0
    rw [sk, sk]
    have one : (s1 vo A mv (kid 0) zw).2 = 0 → (s1 vo a mv (kid 0) z2).2 = 4 ∨ ((s1 vo a mv (kid 0) z2).2 = 0 ∧ Tw B xs (s1 vo A mv (kid 0) zw).1 (s1 vo a mv (kid 0) z2).1 ∧ Hd (s1 vo A mv (kid 0) zw).1 (s1 vo a mv (kid 0) z2).1) := fun h0 => by
      unfold s1 at h0 ⊢
      by_cases c4 : (kid 0).k = 4
      · simp only [if_pos c4] at h0 ⊢
        obtain ⟨m', q1, q2, q3⟩ := r2 (Or.inl c4)
        exact ih 0 _ _ q1 q2 q3 htd _ _ _ h h0
      · simp only [if_neg c4] at h0 ⊢
        by_cases c5 : (kid 0).k = 5
        · simp only [if_pos c5] at h0 ⊢
          obtain ⟨m', q1, q2, q3⟩ := r2 (Or.inr c5)
          exact ih 0 _ _ q1 q2 q3 htd _ _ _ h h0
        · simp only [if_neg c5] at h0 ⊢
          exact lf_tw ha hB hA h (fun q => absurd q hk3) h0
    by_cases q : (s1 vo A mv (kid 0) zw).2 ≠ 0
    · rw [if_pos q] at h0; exact absurd h0 q
    · rw [if_neg q] at h0 ⊢
      rcases one (by simpa using q) with h4 | ⟨g1, g2, g3⟩
      · left; rw [if_pos (by omega)]; exact h4
      · rw [if_neg (by omega)]
        refine sk_tw (n := c + 1) (fun j hj zw z2 h hh h0 => ?_) c (0 + 1) (by omega) _ _ g2 g3 h0
        unfold s1 at h0 ⊢
        by_cases c4 : (kid j).k = 4
        · simp only [if_pos c4] at h0 ⊢
          exact sg_tw ha hB hA (kid j) _ _ _ h hh h0
        · simp only [if_neg c4] at h0 ⊢
          by_cases c5 : (kid j).k = 5
          · simp only [if_pos c5] at h0 ⊢
            exact sg_tw ha hB hA (kid j) _ _ _ h hh h0
          · simp only [if_neg c5] at h0 ⊢
            exact lf_tw ha hB hA h (fun _ => hh) h0
end Go.Proofs.YtaohahahhjkcdaeGreatDoor.G.M
