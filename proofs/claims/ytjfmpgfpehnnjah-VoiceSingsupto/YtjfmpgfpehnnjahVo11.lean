/- What Render comes to. -/
import Derived.Test.YtjfmpgfpehnnjahVo10
namespace Go.Proofs.Ytjfmpgfpehnnjah.Vo
open Go.RowKit Go.Maps Go.Sort
set_option linter.unusedSimpArgs false
set_option linter.unusedVariables false

theorem infoF : (Try.prog.info? 47).map (fun i => (i.zero, i.size, i.bytes)) = some (some (.float .f64 0), 1, 8) := by kernel_rfl
/-- Floats in a block of their own. -/
def FR (w : World) (nb n : Nat) (f : Nat → Nat) : Prop := w.rowIs nb 47 n (fun i => .float .f64 (f i))
/-- What Render leaves. -/
structure RnQ (w : World) (b : Nat) (p : Pt) (T : Nat) (o : Option Nat) (n : Nat) (e : Ending) (w' : World) : Prop where
  ex : e = .returned (.tuple #[.slice (some ⟨w.heap.size, 0, none⟩) n n, .int .i64 0])
  fr : FR w' w.heap.size n (fun i => S p o (T + i))
  v : VL w' b p (T + n) o
  k : Kn w b w.heap.size w'
theorem Kn.drew (w : World) (b N : Nat) : Kn w b N w.drew := ⟨fun _ _ _ => rfl, Nat.le_refl _, (Below.refl _ _).drew⟩
theorem tm_step (T : Nat) (o : Option Nat) : tm (T + 1) o = tm T o + 1 := by
  cases o with
  | none => show ((T + 1 : Nat) : Int) = (T : Int) + 1; omega
  | some k => show ((T + 1 : Nat) : Int) - k = (T : Int) - k + 1; omega
theorem tm_bd (T : Nat) (o : Option Nat) (h : Off T o) : 0 ≤ tm T o ∧ tm T o ≤ T := by
  cases o with
  | none => show 0 ≤ (T : Int) ∧ (T : Int) ≤ T; omega
  | some k => have := h k rfl; show 0 ≤ (T : Int) - k ∧ (T : Int) - k ≤ T; omega
theorem Off.mono {T T' : Nat} {o : Option Nat} (h : Off T o) (h2 : T ≤ T') : Off T' o := fun k hk => Nat.le_trans (h k hk) h2
def fz (p : Pt) (o : Option Nat) (T k i : Nat) : Nat := if i < k then S p o (T + i) else 0
set_option maxHeartbeats 4000000 in
theorem Render_bad (b : Nat) (n : Int) (w : World) (hn : n < 0 ∨ 65536 < n) :
    Calls Try.prog 26 #[.pointer (some ⟨b, 0, none⟩), .int .i64 n] w fun e w' => e = .returned (.tuple #[.slice none 0 0, .int .i64 3]) ∧ w' = w := by
  rcases (show n < 0 ∨ (¬ n < 0 ∧ 65536 < n) by omega) with c | ⟨c, d⟩
  all_goals
    go_enter Try.func26, Try.ntmps26
    go_wp2_with fail
    go_returns
    exact ⟨rfl, rfl⟩
set_option maxHeartbeats 4000000 in
theorem Render_any (hC : CirC) (p : Pt) (h : Ok p) (hst : p.step < 4294967296) (b T : Nat) (o : Option Nat) (n : Nat) (w : World) (hV : VL w b p T o) (hn : n ≤ 65536) (hT : T + n ≤ 4611686018427387904) :
    Calls Try.prog 26 #[.pointer (some ⟨b, 0, none⟩), .int .i64 n] w fun e w' => RnQ w b p T o n e w' := by
  have mk : (Instr.makeSlice 55 (.int .i64 (n : Int)) (.int .i64 (n : Int))).run Try.prog w = .ok (.slice (some ⟨w.heap.size, 0, none⟩) n n) (w.alloc (.cells (madeCells #[.float .f64 0] n) 47)) := run_make_row' (P := Try.prog) 55 47 (.float .f64 0) 8 Try.underlying55 infoF rfl .i64 .i64 n (by omega) (by omega) w
  have n1 : ¬ (n : Int) < 0 := by omega
  have n2 : ¬ (65536 : Int) < n := by omega
  have lt := hV.lt
  have q := fun (w' : World) (T' : Nat) (hV : VL w' b p T' o) => sample_any hC p h b T' o w' hV
  have HO : Hid (Off T o) := hV.off
  have hbA : Below w.heap.size w (w.alloc (.cells (madeCells #[.float .f64 0] n) 47)) := (Below.refl _ _).alloc (Nat.le_refl _) _
  have HF : Hid (FR (w.alloc (.cells (madeCells #[.float .f64 0] n) 47)) w.heap.size n (fz p o T 0)) := World.rowIs.congr (World.rowIs_made w (.float .f64 0) n 47) (fun i _ => rfl)
  have HV : Hid (VL (w.alloc (.cells (madeCells #[.float .f64 0] n) 47)) b p T o) := hV.bel hbA
  have hzA : (w.alloc (.cells (madeCells #[.float .f64 0] n) 47)).heap.size = w.heap.size + 1 := by simp
  clear hV hC
  go_enter Try.func26, Try.ntmps26
  go_wp2_with (simp only [mk])
  generalize w.alloc (.cells (madeCells #[.float .f64 0] n) 47) = W0 at *
  clear mk
  go_loopw [18] (fun i ww => ∃ k : Nat, k ≤ n ∧ i = .int .i64 k ∧ Hid (VL ww b p (T + k) o) ∧ Hid (FR ww w.heap.size n (fz p o T k)) ∧ Kn w b w.heap.size ww ∧ w.heap.size < ww.heap.size) (fun i _ => n - (intOf i).toNat)
  case atStart => exact ⟨0, by omega, rfl, HV, HF, Kn.bel hbA (Nat.le_refl _) lt, by omega⟩
  case round =>
    obtain ⟨k, hk, rfl, hV, hF, hK, hz⟩ := hrel
    by_cases hlt : k < n
    · have q1 := q wr (T + k) hV.out
      generalize hS : S p o (T + k) = SV at *
      have HS : Hid (S p o (T + k) = SV) := hS
      clear hS q HV HF
      go_wp2_with fail
      refine q1.mono ?_
      rintro e w2 ⟨rfl, hb2⟩
      have HV2 : Hid (VL w2 b p (T + k) o) := hV.out.bel hb2
      have HF2 : Hid (FR w2 w.heap.size n (fz p o T k)) := World.rowIs.of_block hF.out (hb2.block _ hz)
      have hz2 : w.heap.size < w2.heap.size := by have := hb2.size; omega
      have lt2 : b < w2.heap.size := by omega
      have x1 := HV2.out.c1
      have x7 := HV2.out.c7
      have x9 := HV2.out.c9
      have z7 := HV2.out.fz 7
      have z9 := HV2.out.fz 9
      have y : w2.cell? ⟨w.heap.size, k, none⟩ = some (.float .f64 0) := (World.rowIs.cell HF2.out hlt).trans (by unfold fz; rw [if_neg (by omega)])
      have yf := World.rowIs.frozen HF2.out k
      have tb := tm_bd (T + k) o HV2.out.off
      have hne : b ≠ w.heap.size := by omega
      have hne' : w.heap.size ≠ b := by omega
      have HP : Hid (pha p (T + (k + 1)) = (pha p (T + k) + p.step) % 4294967296) := pha_step p (T + k)
      have HTm : Hid (tm (T + (k + 1)) o = tm (T + k) o + 1) := tm_step (T + k) o
      have phb := pha_lt p (T + k)
      have HV3 : Hid (VL (w2.setCell ⟨w.heap.size, k, none⟩ (.float .f64 SV)) b p (T + k) o) := HV2.out.keep (Below.heap_setCell _ _ _ _ hne) (by simp [World.setCell])
      have HF3 : Hid (FR (w2.setCell ⟨w.heap.size, k, none⟩ (.float .f64 SV)) w.heap.size n (fz p o T (k + 1))) := World.rowIs.congr (World.rowIs.set HF2.out k (.float .f64 SV)) (fun i hi => by
        unfold fz
        by_cases e : i = k
        · rw [if_pos e, if_pos (by omega), e, HS.out]
        · rw [if_neg e]
          by_cases e2 : i < k
          · rw [if_pos e2, if_pos (by omega)]
          · rw [if_neg e2, if_neg (by omega)])
      have hK3 : Kn w b w.heap.size (w2.setCell ⟨w.heap.size, k, none⟩ (.float .f64 SV)) := (hK.trans (Kn.bel hb2 (by omega) lt)).trans (Kn.put (.inr (Nat.le_refl _)) (by omega))
      have hz3 : w.heap.size < (w2.setCell ⟨w.heap.size, k, none⟩ (.float .f64 SV)).heap.size := by simpa [World.setCell] using hz2
      clear hV hF
      go_wp2_with fail
      clear x1 x7 x9 z7 z9 y yf HV2 HF2 hK hz2 lt2 q1
      generalize w2.setCell ⟨w.heap.size, k, none⟩ (.float .f64 SV) = W3 at *
      have x1 := HV3.out.c1
      have x7 := HV3.out.c7
      have x9 := HV3.out.c9
      have z7 := HV3.out.fz 7
      have z9 := HV3.out.fz 9
      have lt3 := HV3.out.lt
      clear hb2
      generalize pha p (T + k) = PH at *
      generalize tm (T + k) o = TM at *
      obtain ⟨st, hst'⟩ : ∃ st, st = p.step := ⟨_, rfl⟩
      rw [← hst'] at x1 hst
      have HSt : Hid (st = p.step) := hst'
      clear hst'
      go_region
      all_goals
        go_wp2_with fail
      have e7 : (((PH : Int) + (st : Int)) % 4294967296) = ((pha p (T + (k + 1)) : Nat) : Int) := by rw [HP.out, HSt.out]; omega
      have e9 : TM + 1 = tm (T + (k + 1)) o := HTm.out.symm
      refine ⟨⟨k + 1, by omega, by go_num, HV3.out.put (T' := T + (k + 1)) (o' := o) (fun i hi => ?_) ?_ ?_ ?_ ?_ (fun i => ?_) (by simp [World.setCell]) (HO.out.mono (by omega)) (by omega), ?_, ?_, by simpa [World.setCell] using hz3⟩, by simp [intOf]; omega⟩
      · show (World.setCell _ _ _).cell? _ = _
        rw [oth _ (by omega), oth _ (by omega)]
      · show (World.setCell _ _ _).cell? _ = _
        rw [oth _ (by omega), e7]; exact World.cell?_setCell_same _ _ _ x7
      · show (World.setCell _ _ _).cell? _ = _
        rw [oth _ (by omega), oth _ (by omega)]; exact HV3.out.c8
      · show (World.setCell _ _ _).cell? _ = _
        rw [e9]; exact World.cell?_setCell_same _ _ _ (by rw [oth _ (by omega)]; exact x9)
      · show (World.setCell _ _ _).cell? _ = _
        rw [oth _ (by omega), oth _ (by omega)]; exact HV3.out.c10
      · show (World.setCell _ _ _).frozen? _ = _
        rw [World.frozen?_setCell, World.frozen?_setCell]
      · exact World.rowIs.drew (World.rowIs.setOther (World.rowIs.setOther HF3.out hne' _) hne' _)
      · exact ((hK3.trans (Kn.put (.inl rfl) (Nat.le_refl _))).trans (Kn.put (.inl rfl) (Nat.le_refl _))).trans (Kn.drew _ _ _)
    · obtain rfl : k = n := by omega
      clear q HV HF
      go_wp2_with fail
      go_returns
      exact ⟨rfl, World.rowIs.congr hF.out (fun i hi => by unfold fz; rw [if_pos hi]), hV.out, hK⟩
end Go.Proofs.Ytjfmpgfpehnnjah.Vo
