/- What Rest and Run come to. -/
import Derived.Test.YtjfmpgfpehnnjaiFi3
import Derived.Test.YtjfmpgfpehnnjaiFiMath3
namespace Go.Proofs.Ytjfmpgfpehnnjai.Fi
open Go.RowKit Go.Maps Go.Sort Fl
set_option linter.unusedSimpArgs false
set_option linter.unusedVariables false

theorem infoF : (Try.prog.info? 23).map (fun i => (i.zero, i.size, i.bytes)) = some (some (.float .f64 0), 1, 8) := by kernel_rfl
/-- Words in memory. -/
structure IL (w : World) (S : Nat → Prop) (ao : Option Addr) (l : List Nat) : Prop where
  at' : 0 < l.length → ∃ b off, ao = some ⟨b, off, none⟩ ∧ b < w.heap.size ∧ S b ∧ ∀ (j : Nat) x, l[j]? = some x → w.cell? ⟨b, off + j, none⟩ = some (.float .f64 x) ∧ x < 18446744073709551616
theorem IL.keep {w w' : World} {S S' : Nat → Prop} {ao : Option Addr} {l : List Nat} (h : IL w S ao l) (hk : ∀ b, S b → b < w.heap.size → w'.heap[b]? = w.heap[b]?) (hz : w.heap.size ≤ w'.heap.size) (hs : ∀ b, S b → b < w.heap.size → S' b) : IL w' S' ao l := ⟨fun hn => by
  obtain ⟨b, off, h1, h2, h3, h4⟩ := h.at' hn
  exact ⟨b, off, h1, by omega, hs b h3 h2, fun j x hj => ⟨(World.cell?_of_block (w := w) (w' := w') (a := ⟨b, off + j, none⟩) (hk b h3 h2)).trans (h4 j x hj).1, (h4 j x hj).2⟩⟩⟩
theorem IL.bel {w w' : World} {S : Nat → Prop} {ao : Option Addr} {l : List Nat} (h : IL w S ao l) (hb : Below w.heap.size w w') : IL w' S ao l := h.keep (fun b _ hl => hb.block b hl) hb.size (fun _ h _ => h)
/-- A filter's own cells, put anew. -/
theorem FL.put {w w' : World} {b : Nat} {c : Cf} {s s' : St} (h : FL w b c s) (hc : ∀ i, i < 5 → w'.cell? ⟨b, i, none⟩ = w.cell? ⟨b, i, none⟩) (h5 : FC w' b 5 s'.x1) (h6 : FC w' b 6 s'.x2) (h7 : FC w' b 7 s'.y1) (h8 : FC w' b 8 s'.y2) (hf : ∀ i, w'.frozen? ⟨b, i, none⟩ = w.frozen? ⟨b, i, none⟩) (hz : w'.heap.size = w.heap.size) : FL w' b c s' :=
  ⟨(hc 0 (by decide)).trans h.c0, (hc 1 (by decide)).trans h.c1, (hc 2 (by decide)).trans h.c2, (hc 3 (by decide)).trans h.c3, (hc 4 (by decide)).trans h.c4, h5, h6, h7, h8, fun i => (hf i).trans (h.f i), by have := h.lt; omega⟩
set_option maxHeartbeats 2000000 in
theorem Rest_any (c : Cf) (s : St) (b : Nat) (w : World) (hF : FL w b c s) :
    Calls Try.prog 21 #[.pointer (some ⟨b, 0, none⟩)] w fun e w' => e = .returned (.tuple #[]) ∧ FL w' b c rest0 ∧ Kn w b w.heap.size w' := by
  have HF : Hid (FL w b c s) := hF
  obtain ⟨c0, c1, c2, c3, c4, ⟨X1, c5, X1l, X1a⟩, ⟨X2, c6, X2l, X2a⟩, ⟨Y1, c7, Y1l, Y1a⟩, ⟨Y2, c8, Y2l, Y2a⟩, f, lt⟩ := hF
  have f0 := f 0
  have f1 := f 1
  have f2 := f 2
  have f3 := f 3
  have f4 := f 4
  have f5 := f 5
  have f6 := f 6
  have f7 := f 7
  have f8 := f 8
  have HfA : Hid (∀ i, w.frozen? ⟨b, i, none⟩ = false) := f
  clear f
  go_enter Try.func21, Try.ntmps21
  go_wp2_with fail
  go_end0
  refine ⟨rfl, ⟨?_, ?_, ?_, ?_, ?_, FC.new ?_, FC.new ?_, FC.new ?_, FC.new ?_, fun i => ?_, by simpa [World.setCell] using lt⟩, ?_⟩
  · simp [go_sem, c0]
  · simp [go_sem, c1]
  · simp [go_sem, c2]
  · simp [go_sem, c3]
  · simp [go_sem, c4]
  · simp [go_sem, c5]
  · simp [go_sem, c6]
  · simp [go_sem, c7]
  · simp [go_sem, c8]
  · simp only [World.frozen?_setCell]; exact HfA.out i
  · exact (((((((((Kn.put (.inl rfl) (Nat.le_refl _)).trans (Kn.put (.inl rfl) (Nat.le_refl _))).trans (Kn.put (.inl rfl) (Nat.le_refl _))).trans (Kn.put (.inl rfl) (Nat.le_refl _))).trans (Kn.put (.inl rfl) (Nat.le_refl _))).trans (Kn.put (.inl rfl) (Nat.le_refl _))).trans (Kn.put (.inl rfl) (Nat.le_refl _))).trans (Kn.put (.inl rfl) (Nat.le_refl _))).trans (Kn.put (.inl rfl) (Nat.le_refl _)))
/-- Floats in a block of their own. -/
def FR (w : World) (nb n : Nat) (f : Nat → Nat) : Prop := w.rowIs nb 23 n (fun i => .float .f64 (f i))
/-- What Run leaves. -/
structure RnQ (w : World) (b : Nat) (c : Cf) (s : St) (l : List Nat) (e : Ending) (w' : World) : Prop where
  ex : e = .returned (.slice (some ⟨w.heap.size, 0, none⟩) l.length l.length)
  fr : ∃ g : List Nat, g.length = l.length ∧ abs g = outs c s (abs l) ∧ (∀ x ∈ g, x < 18446744073709551616) ∧ FR w' w.heap.size l.length (fun i => g.getD i 0)
  v : FL w' b c (sts c s (abs l))
  k : Kn w b w.heap.size w'
  z : w.heap.size < w'.heap.size
theorem getD_snoc (g : List Nat) (y i : Nat) : (g ++ [y]).getD i 0 = if i = g.length then y else g.getD i 0 := by
  simp only [List.getD_eq_getElem?_getD]
  by_cases c : i < g.length
  · rw [List.getElem?_append_left c, if_neg (by omega)]
  · rw [List.getElem?_append_right (by omega)]
    by_cases d : i = g.length
    · subst d; simp
    · rw [if_neg d, List.getElem?_eq_none (by simp; omega), List.getElem?_eq_none (by omega)]
set_option maxHeartbeats 4000000 in
theorem Run_any (c : Cf) (s : St) (b : Nat) (S : Nat → Prop) (l : List Nat) (ao : Option Addr) (cp : Nat) (w : World) (hF : FL w b c s) (hL : IL w S ao l) (hS : ∀ k, S k → k ≠ b) (hc : l.length ≤ cp) (hcm : cp ≤ 9223372036854775807) (hl : l.length ≤ 17592186044416) :
    Calls Try.prog 22 #[.pointer (some ⟨b, 0, none⟩), .slice ao l.length cp] w fun e w' => RnQ w b c s l e w' := by
  obtain ⟨n, hn⟩ : ∃ n, n = l.length := ⟨_, rfl⟩
  rw [← hn] at hc hl ⊢
  have mk : (Instr.makeSlice 34 (.int .i64 (n : Int)) (.int .i64 (n : Int))).run Try.prog w = .ok (.slice (some ⟨w.heap.size, 0, none⟩) n n) (w.alloc (.cells (madeCells #[.float .f64 0] n) 23)) := run_make_row' (P := Try.prog) 34 23 (.float .f64 0) 8 Try.underlying34 infoF rfl .i64 .i64 n (by omega) (by omega) w
  have lt := hF.lt
  have HL : Hid (IL w S ao l) := hL
  have HS : Hid (∀ k, S k → k ≠ b) := hS
  have hbA : Below w.heap.size w (w.alloc (.cells (madeCells #[.float .f64 0] n) 23)) := (Below.refl _ _).alloc (Nat.le_refl _) _
  have HF : Hid (FR (w.alloc (.cells (madeCells #[.float .f64 0] n) 23)) w.heap.size n (fun i => ([] : List Nat).getD i 0)) := World.rowIs.congr (World.rowIs_made w (.float .f64 0) n 23) (fun i _ => rfl)
  have HV : Hid (FL (w.alloc (.cells (madeCells #[.float .f64 0] n) 23)) b c s) := hF.bel hbA
  have hzA : (w.alloc (.cells (madeCells #[.float .f64 0] n) 23)).heap.size = w.heap.size + 1 := by simp
  have Hn : Hid (n = l.length) := hn
  clear hF hn hL hS
  go_enter Try.func22, Try.ntmps22
  go_wp2_with (simp only [mk])
  generalize w.alloc (.cells (madeCells #[.float .f64 0] n) 23) = W0 at *
  clear mk
  go_loopw [14] (fun i ww => ∃ k : Nat, k ≤ n ∧ i = .int .i64 k ∧ Hid (FL ww b c (sts c s (abs (l.take k)))) ∧ Hid (∃ g : List Nat, g.length = k ∧ abs g = outs c s (abs (l.take k)) ∧ (∀ x ∈ g, x < 18446744073709551616) ∧ FR ww w.heap.size n (fun i => g.getD i 0)) ∧ Kn w b w.heap.size ww ∧ w.heap.size < ww.heap.size) (fun i _ => n - (intOf i).toNat)
  case atStart => exact ⟨0, by omega, rfl, HV, ⟨[], rfl, rfl, fun x hx => absurd hx (by simp), HF.out⟩, Kn.bel hbA (Nat.le_refl _) lt, by omega⟩
  case round =>
    obtain ⟨k, hk, rfl, hV, hG, hK, hz⟩ := hrel
    clear HV HF
    by_cases hlt : k < n
    · obtain ⟨x, hx⟩ : ∃ x, l[k]? = some x := ⟨_, List.getElem?_eq_getElem (by rw [← Hn.out]; exact hlt)⟩
      obtain ⟨nb, of, rfl, hnb, hSb, q0⟩ := HL.out.at' (by rw [← Hn.out]; omega)
      obtain ⟨r0, r1⟩ := q0 k x hx
      have hne0 := HS.out nb hSb
      have r0' : wr.cell? ⟨nb, of + k, none⟩ = some (.float .f64 x) := (World.cell?_of_block (w := w) (w' := wr) (a := ⟨nb, of + k, none⟩) (hK.k nb hnb hne0)).trans r0
      have HO : Hid (outs c s (abs (l.take (k + 1))) = outs c s (abs (l.take k)) ++ [nx c (sts c s (abs (l.take k))) (ab x)]) := outs_step c s hx
      have HT : Hid (sts c s (abs (l.take (k + 1))) = adv c (sts c s (abs (l.take k))) (ab x)) := sts_step c s hx
      have hlt' : (k : Int) < (n : Int) := by omega
      have w3 : IntKind.i64.wrap ((k : Int) + 1) = (k : Int) + 1 := wid (by omega) (by omega)
      have q1 := next_any c (sts c s (abs (l.take k))) b x wr r1 hV.out
      have hnb' : nb < wr.heap.size := by have := hK.z; omega
      generalize sts c s (abs (l.take k)) = SS at *
      clear q0 hx r0
      go_wp2_with fail
      refine q1.mono ?_
      rintro e w2 ⟨r, rfl, hr, hra, hb2⟩
      have HV2 : Hid (FL w2 b c SS) := hV.out.bel hb2
      obtain ⟨g, g1, g2, g3, g4⟩ := hG.out
      have HF2 : Hid (FR w2 w.heap.size n (fun i => g.getD i 0)) := World.rowIs.of_block g4 (hb2.block _ hz)
      have hz2 : w.heap.size < w2.heap.size := by have := hb2.size; omega
      obtain ⟨c0, c1, c2, c3, c4, ⟨X1, c5, X1l, X1a⟩, ⟨X2, c6, X2l, X2a⟩, ⟨Y1, c7, Y1l, Y1a⟩, ⟨Y2, c8, Y2l, Y2a⟩, f, lt2⟩ := HV2.out
      have f5 := f 5
      have f6 := f 6
      have f7 := f 7
      have f8 := f 8
      have y : w2.cell? ⟨w.heap.size, k, none⟩ = some (.float .f64 (g.getD k 0)) := World.rowIs.cell HF2.out hlt
      have yf := World.rowIs.frozen HF2.out k
      generalize g.getD k 0 = gk at *
      have hne : b ≠ w.heap.size := by omega
      have hne' : w.heap.size ≠ b := by omega
      have HX : Hid (X1l = X1l ∧ ab X1 = SS.x1 ∧ ab Y1 = SS.y1 ∧ ab r = nx c SS (ab x)) := ⟨rfl, X1a, Y1a, hra⟩
      have HG : Hid (g.length = k ∧ abs g = outs c s (abs (l.take k)) ∧ ∀ x ∈ g, x < 18446744073709551616) := ⟨g1, g2, g3⟩
      clear hV hG g1 g2 g3 g4 X1a X2a Y1a Y2a hra f q1 c0 c1 c2 c3 c4
      go_wp2_with fail
      go_roundw
      case measure => simp [intOf]; omega
      case rel =>
        have ob : ∀ (W : World) (v : Value) (i : Nat), (W.setCell ⟨w.heap.size, k, none⟩ v).cell? ⟨b, i, none⟩ = W.cell? ⟨b, i, none⟩ := fun W v i => World.cell?_setCell_other _ _ _ _ (fun e => hne' (congrArg Addr.block e))
        obtain ⟨_, ex1, ey1, er⟩ := HX.out
        obtain ⟨g1, g2, g3⟩ := HG.out
        refine ⟨k + 1, by omega, by go_num, ?_, ⟨g ++ [r], by rw [List.length_append, g1]; rfl, ?_, fun z hz => ?_, ?_⟩, ?_, ?_⟩
        · unfold Hid
          rw [HT.out]
          refine HV2.out.put (fun i hi => ?_) ⟨x, ?_, r1, rfl⟩ ⟨X1, ?_, X1l, ex1⟩ ⟨r, ?_, hr, er⟩ ⟨Y1, ?_, Y1l, ey1⟩ (fun i => ?_) (by simp [World.setCell])
          · rw [ob, oth _ (by omega), oth _ (by omega), oth _ (by omega), oth _ (by omega)]
          · rw [ob, oth _ (by omega), oth _ (by omega), oth _ (by omega)]; exact World.cell?_setCell_same _ _ _ c5
          · rw [ob, oth _ (by omega), oth _ (by omega)]; exact World.cell?_setCell_same _ _ _ (by rw [oth _ (by omega)]; exact c6)
          · rw [ob, oth _ (by omega)]; exact World.cell?_setCell_same _ _ _ (by rw [oth _ (by omega), oth _ (by omega)]; exact c7)
          · rw [ob]; exact World.cell?_setCell_same _ _ _ (by rw [oth _ (by omega), oth _ (by omega), oth _ (by omega)]; exact c8)
          · simp only [World.frozen?_setCell]
        · rw [HO.out, abs_app, g2, ← er]; rfl
        · rcases List.mem_append.1 hz with q | q
          · exact g3 z q
          · simp at q; subst q; exact hr
        · refine World.rowIs.congr (World.rowIs.set (World.rowIs.setOther (World.rowIs.setOther (World.rowIs.setOther (World.rowIs.setOther HF2.out hne' _) hne' _) hne' _) hne' _) k (.float .f64 r)) (fun i hi => ?_)
          show _ = Value.float .f64 ((g ++ [r]).getD i 0)
          rw [getD_snoc, g1]
          by_cases e : i = k
          · rw [if_pos e, if_pos e]
          · rw [if_neg e, if_neg e]
        · exact (((((hK.trans (Kn.bel hb2 (by omega) (by omega))).trans (Kn.put (.inl rfl) (Nat.le_refl _))).trans (Kn.put (.inl rfl) (Nat.le_refl _))).trans (Kn.put (.inl rfl) (Nat.le_refl _))).trans (Kn.put (.inl rfl) (Nat.le_refl _))).trans (Kn.put (.inr (Nat.le_refl _)) (by omega))
        · simpa [World.setCell] using hz2
    · obtain rfl : k = n := by omega
      go_wp2_with fail
      go_ret
      obtain ⟨g, g1, g2, g3, g4⟩ := hG.out
      have ht : l.take k = l := List.take_of_length_le (by rw [← Hn.out]; exact Nat.le_refl _)
      rw [ht] at g2
      have hv := hV.out
      rw [ht] at hv
      have Hn' := Hn.out
      exact ⟨by rw [← Hn']; rfl, ⟨g, by rw [g1, Hn'], g2, g3, by rw [← Hn']; exact g4⟩, hv, hK, hz⟩
end Go.Proofs.Ytjfmpgfpehnnjai.Fi
