/- The document's Bits. -/
import Derived.Test.YtdlcnbfiklbiiaaCo11
import Derived.Test.YtdlcnbfiklbiiaaCoMath2
namespace Go.Proofs.Ytdlcnbfiklbiiaa.Co
open Go.RowKit Go.Maps Go.Sort
set_option linter.unusedVariables false
set_option linter.unusedSimpArgs false

/-- Numbers in a block of their own are a row of one's own. -/
theorem FR.own {w : World} {nb n base : Nat} {f : Nat → Int} {l : List Int} (h : FR w nb n f) (hl : l.length = n) (he : ∀ i, i < n → f i = l.getD i 0) (hb : base ≤ nb) (hn : n ≤ 17592186044416) : w.ownsRow base 3 1 (.slice (some ⟨nb, 0, none⟩) n n) n (ints l) := by
  obtain ⟨cur, hg, hcs, hcv⟩ := h
  refine ⟨by rw [ints_len]; omega, .inr ⟨nb, n, cur, rfl, hb, hg, Nat.le_refl _, by unfold maxLen; omega, by omega, ?_⟩⟩
  refine List.ext_getElem? (fun i => ?_)
  by_cases c : i < n
  · rw [List.getElem?_take_of_lt (by omega)]
    have := hcv i c
    rw [Array.getElem?_toList, this]
    unfold ints
    show some (Value.int .i64 (f i)) = _
    rw [List.getElem?_map, he i c, List.getD_eq_getElem?_getD, List.getElem?_eq_getElem (by omega)]; rfl
  · rw [List.getElem?_eq_none (by rw [List.length_take]; omega), List.getElem?_eq_none (by rw [ints_len]; omega)]
/-- Bits from the end on. -/
def fbn (N long t : Nat) (j : Nat) : Int := if long - t ≤ j then ((N / 2 ^ (long - 1 - j) % 2 : Nat) : Int) else 0
theorem fbn_step (N long t : Nat) (h : t < long) (j : Nat) (hj : j < long) : fbn N long (t + 1) j = if j = long - 1 - t then ((N / 2 ^ t % 2 : Nat) : Int) else fbn N long t j := by
  unfold fbn
  by_cases c : j = long - 1 - t
  · rw [if_pos c, if_pos (by omega), show long - 1 - j = t by omega]
  · rw [if_neg c]
    by_cases d : long - t ≤ j
    · rw [if_pos (by omega), if_pos d]
    · rw [if_neg (by omega), if_neg d]
set_option maxRecDepth 8000 in
set_option maxHeartbeats 8000000 in
theorem bits_any (N long : Nat) (w : World) (hN : N < 4611686018427387904) (hl : long ≤ 62) :
    Calls Try.prog 36 #[.int .i64 (N : Int), .int .i64 (long : Int)] w fun e w' => ∃ v, e = .returned v ∧ w'.ownsRow w.heap.size 3 1 v long (ints (nts (bn N long))) ∧ Below w.heap.size w w' := by
  have mk : (Instr.makeSlice 23 (.int .i64 (long : Int)) (.int .i64 (long : Int))).run Try.prog w = .ok (.slice (some ⟨w.heap.size, 0, none⟩) long long) (w.alloc (.cells (madeCells #[.int .i64 0] long) 3)) := run_make_row' (P := Try.prog) 23 3 (.int .i64 0) 8 Try.underlying23 infoI rfl .i64 .i64 long (by omega) (by omega) w
  have hb0 : Below w.heap.size w (w.alloc (.cells (madeCells #[.int .i64 0] long) 3)) := (Below.refl _ _).alloc (Nat.le_refl _) _
  have hF0 : FR (w.alloc (.cells (madeCells #[.int .i64 0] long) 3)) w.heap.size long (fbn N long 0) := World.rowIs.congr (World.rowIs_made w (.int .i64 0) long 3) (fun i hi => by unfold fbn; rw [if_neg (by omega)])
  have hz0 : w.heap.size < (w.alloc (.cells (madeCells #[.int .i64 0] long) 3)).heap.size := by simp
  have w1 : IntKind.i64.wrap ((long : Int) - 1) = (long : Int) - 1 := wid (by omega) (by omega)
  go_enter Try.func36, Try.ntmps36
  go_wp2_with (simp only [mk])
  have HF0 : Hid (FR (w.alloc (.cells (madeCells #[.int .i64 0] long) 3)) w.heap.size long (fbn N long 0)) := hF0
  have HB0 : Hid (Below w.heap.size w (w.alloc (.cells (madeCells #[.int .i64 0] long) 3))) := hb0
  generalize w.alloc (.cells (madeCells #[.int .i64 0] long) 3) = w0 at *
  clear mk hb0 hF0
  go_loopw [6, 0] (fun i a wr => ∃ (t I A : Nat), t ≤ long ∧ I + t = long ∧ i = .int .i64 ((I : Int) - 1) ∧ a = .int .i64 (A : Int) ∧ A < 4611686018427387904 ∧ Hid (A = N / 2 ^ t) ∧ Hid (FR wr w.heap.size long (fbn N long t)) ∧ Hid (Below w.heap.size w wr)) (fun i _ _ => (intOf i + 1).toNat)
  case atStart => exact ⟨0, long, N, by omega, by omega, rfl, rfl, hN, by show N = _; simp, HF0, HB0⟩
  case round =>
    obtain ⟨t, I, A, ht, hI, rfl, rfl, hAb, hA, hF, hB⟩ := hrel
    cases I with
    | zero =>
      have e : t = long := by omega
      subst e
      have hlt' : ¬ (0 : Int) ≤ ((0 : Nat) : Int) - 1 := by omega
      have hown := hF.out.own (l := nts (bn N t)) (base := w.heap.size) (by rw [nts_len, bn_len]) (fun i hi => by
        unfold fbn nts
        rw [if_pos (by omega), List.getD_eq_getElem?_getD, List.getElem?_map, bn_get N t i hi]; rfl) (Nat.le_refl _) (by omega)
      have HO : Hid (wr.ownsRow w.heap.size 3 1 (.slice (some ⟨w.heap.size, 0, none⟩) t t) t (ints (nts (bn N t)))) := hown
      clear hF hA hown
      go_wp2_with fail
      go_ret
      exact ⟨_, rfl, HO.out, hB.out⟩
    | succ I =>
      have e0 : (((I + 1 : Nat) : Int) - 1) = (I : Int) := by omega
      rw [e0]
      have hlt' : (0 : Int) ≤ (I : Int) := by omega
      have hIl : I < long := by omega
      obtain ⟨R, hR⟩ : ∃ R, R = A % 2 := ⟨_, rfl⟩
      obtain ⟨D, hD⟩ : ∃ D, D = A / 2 := ⟨_, rfl⟩
      have cs := World.rowIs.cell hF.out hIl
      have cf := World.rowIs.frozen hF.out I
      have lz : w.heap.size < wr.heap.size := lt_cell cs
      have hst := World.rowIs.set hF.out I (.int .i64 (R : Int))
      have hFn : Hid (FR (wr.setCell ⟨w.heap.size, I, none⟩ (.int .i64 (R : Int))) w.heap.size long (fbn N long (t + 1))) := by
        refine World.rowIs.congr hst (fun i hi => ?_)
        rw [fbn_step N long t (by omega) i hi, show long - 1 - t = I by omega, ← hA.out, ← hR]
        by_cases q : i = I
        · rw [if_pos q, if_pos q]
        · rw [if_neg q, if_neg q]
      have hBn : Hid (Below w.heap.size w (wr.setCell ⟨w.heap.size, I, none⟩ (.int .i64 (R : Int)))) := hB.out.setCell (p := ⟨w.heap.size, I, none⟩) (Nat.le_refl _) _
      have HA2 : Hid (D = N / 2 ^ (t + 1)) := by show _ = _; rw [hD, hA.out, Nat.div_div_eq_div_mul, Nat.pow_succ]
      have hm : (A : Int) % 2 = (R : Int) := by omega
      have hd : (A : Int) / 2 = (D : Int) := by omega
      have hDb : D < 4611686018427387904 := by omega
      have HIt : Hid (I + (t + 1) = long) := by show _ = _; omega
      have w4 : IntKind.i64.wrap ((I : Int) - 1) = (I : Int) - 1 := wid (by omega) (by omega)
      clear hst hF hA hB hR hD e0 hI
      go_wp2_with (simp only [hm, hd])
      go_roundw
      case rel => exact ⟨t + 1, I, D, by have := HIt.out; omega, HIt.out, rfl, rfl, hDb, HA2, hFn, hBn⟩
      case measure => simp [intOf]
theorem nts_app (a b : List Nat) : ints (nts (a ++ b)) = ints (nts a) ++ ints (nts b) := by unfold ints nts; rw [List.map_append, List.map_append]
/-- append(bits, bits...). -/
theorem wpList_append_nts {w : World} {ops : Array Oper} {rest : List Oper} {o : Oper} {a : Act} {Q : Exit → Act → World → Prop} (hgd : o.guard = none) (s y : Operand)
    (ho : o.op = .call { callee := .builtin .append, args := #[s, y], argTypes := #[23, 23] })
    (base b2 : Nat) (v v2 : Value) (l r : List Nat) (hs : a.eval s = v) (hown : w.ownsRow base 3 1 v l.length (ints (nts l))) (hx : a.eval y = v2) (hr : w.ownsRow b2 3 1 v2 r.length (ints (nts r)))
    (h63 : l.length + r.length ≤ 17592186044416) (hbase : base ≤ w.heap.size)
    (h : ∀ v' w', w'.ownsRow base 3 1 v' (l ++ r).length (ints (nts (l ++ r))) → Gw w w' v v' → wpList Try.prog ops Q rest (a.put o.dst v') w') :
    wpList Try.prog ops Q (o :: rest) a w := by
  obtain ⟨xa, xc, hv, x1, x2, x3, x4⟩ := IL.own hr (nts_len r)
  refine wpList_append_il hgd s y ho base v l.length (ints (nts l)) hs hown _ (nts r) r.length (nts_len r) xa xc (by rw [hx, hv]) x1 x3 x4 h63 hbase (fun v' w' k1 k2 => h v' w' ?_ k2)
  rw [nts_app, List.length_append]; exact k1
/-- append(bits, bit). -/
theorem wpList_append_nt {w : World} {ops : Array Oper} {rest : List Oper} {o : Oper} {a : Act} {Q : Exit → Act → World → Prop} (hgd : o.guard = none) (s y : Operand)
    (ho : o.op = .call { callee := .builtin .append, args := #[s, y], argTypes := #[23, 23] })
    (base g b : Nat) (v : Value) (l : List Nat) (hs : a.eval s = v) (hown : w.ownsRow base 3 1 v l.length (ints (nts l))) (hx : a.eval y = .slice (some ⟨g, 0, none⟩) 1 1) (hc : w.cell? ⟨g, 0, none⟩ = some (.int .i64 (b : Int)))
    (h63 : l.length < 17592186044415) (hbase : base ≤ w.heap.size)
    (h : ∀ v' w', w'.ownsRow base 3 1 v' (l ++ [b]).length (ints (nts (l ++ [b]))) → Gw w w' v v' → wpList Try.prog ops Q rest (a.put o.dst v') w') :
    wpList Try.prog ops Q (o :: rest) a w := by
  refine wpList_append_1 23 3 (.int .i64 0) 8 Try.underlying23 infoI rfl hgd s y ho base v l.length _ hs hown g (.int .i64 (b : Int)) hx hc rfl (by omega) (by omega) hbase (fun v' w' k1 k2 => h v' w' ?_ k2)
  rw [nts_app, List.length_append]; exact k1
end Go.Proofs.Ytdlcnbfiklbiiaa.Co
