/- What Encode and Decode answer is what the document asks. -/
import Derived.Test.YtdlcnbfiklbiiaaCo44
import Derived.Test.YtdlcnbfiklbiiaaCo25
namespace Go.Proofs.Ytdlcnbfiklbiiaa.Co
open Go.RowKit Go.Maps Go.Sort
set_option linter.unusedVariables false
set_option linter.unusedSimpArgs false

set_option maxRecDepth 8000 in
set_option maxHeartbeats 8000000 in
theorem writes_walk (l : List Int) (ao : Option Addr) (n c : Nat) (s : ByteArray) (w : World) (hI : IL w (fun b => b < w.heap.size) ao l) (hn : l.length = n) (hc : n ≤ c) (hc2 : c ≤ 9223372036854775807) (hs : s.size ≤ 2097152) :
    Calls Try.prog 7 #[.slice ao n c, .string s] w fun e w' => e = .returned (.bool true) ∧ Below w.heap.size w w' := by
  have hq := Encode_any l (fun b => b < w.heap.size) ao n c w hI (fun b hb => hb) hn hc hc2
  have hq2 : ∀ w', Below w.heap.size w w' → _ := fun w' (h : Below w.heap.size w w') => refEncode_any l ao n c w' (hI.keep (fun b hb _ => h.block b hb) h.size (fun b hb _ => Nat.lt_of_lt_of_le hb h.size)) hn hc hc2
  have hq3 := fun w' => Decode_any s w' (by omega)
  have hq4 := fun w' => refDecode_any s w' hs
  generalize bt (eb l) = EB at *
  generalize ee l = E at *
  generalize dc (tb s) = D at *
  obtain ⟨x, F⟩ := D
  simp only at hq3 hq4
  clear hI hn
  go_enter Try.func7, Try.ntmps7
  go_wp2_with fail
  refine hq.mono ?_
  rintro e w1 ⟨rfl, hb1⟩
  have hr2 := hq2 w1 hb1
  have HB1 : Hid (Below w.heap.size w w1) := hb1
  clear hq hq2 hb1
  go_wp2_with fail
  refine hr2.mono ?_
  rintro e w2 ⟨rfl, hb2⟩
  have HB2 : Hid (Below w.heap.size w w2) := HB1.out.trans (hb2.mono HB1.out.size)
  clear hr2 hb2 HB1
  go_wp2_with fail
  refine (hq3 _).mono ?_
  rintro e w3 ⟨⟨v, rfl, hv⟩, hb3⟩
  have HB23 : Hid (Below w2.heap.size w2 w3) := hb3
  have HB3 : Hid (Below w.heap.size w w3) := HB2.out.trans (hb3.mono HB2.out.size)
  obtain ⟨xa, xc, rfl, x1, x2, x3, x4⟩ := IL.own hv rfl
  have hlt3 : ∀ b, some b = (Value.slice xa x.length xc).ownBlock → b < w3.heap.size := fun b hb => own_lt hv b hb.symm
  have HX : Hid (IL w3 (fun b => b < w3.heap.size) xa x) := x4.keep (fun _ _ _ => rfl) (Nat.le_refl _) (fun b hb _ => hlt3 b hb)
  clear hq3 hb3 hv x4 hlt3 x3
  obtain ⟨m, hm⟩ : ∃ m, m = x.length := ⟨_, rfl⟩
  have HM : Hid (m = x.length) := hm
  rw [← hm] at x1 ⊢
  clear hm
  go_wp2_with fail
  refine (hq4 _).mono ?_
  rintro e w4 ⟨⟨v4, rfl, hv4⟩, hb4⟩
  have HB34 : Hid (Below w3.heap.size w3 w4) := hb4
  have HB4 : Hid (Below w.heap.size w w4) := HB3.out.trans (hb4.mono HB3.out.size)
  obtain ⟨ya, yc, rfl, y1, y2, y3, y4⟩ := IL.own hv4 rfl
  have hsm := fun q => Same_q (w4.drewN q) (fun b => b < w3.heap.size) _ xa ya x m xc yc (HX.out.keep (fun b hb _ => (below_drewN HB34.out q).block b hb) (below_drewN HB34.out q).size (fun _ h _ => h)) (y4.bel (below_drewN (Below.refl _ _) q)) HM.out.symm x1 x2 (by rw [HM.out]; exact y1) y2
  rw [← HM.out]
  clear hq4 hb4 hv4 y4 HX y1 y3
  go_wp2_with fail
  have hsm2 := hsm 0
  refine (hsm 0).mono ?_
  rintro e w8 ⟨rfl, q8, hw8⟩
  have HB8 : Hid (Below w.heap.size w w8) := by rw [hw8]; exact below_drewN HB4.out _
  clear hsm hw8
  go_wp2_with fail
  go_ret
  exact ⟨rfl, HB8.out⟩
end Go.Proofs.Ytdlcnbfiklbiiaa.Co
