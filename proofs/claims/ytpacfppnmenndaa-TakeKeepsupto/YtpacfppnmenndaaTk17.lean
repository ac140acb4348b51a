/- Tones of a take. -/
import Derived.Test.YtpacfppnmenndaaTk16
namespace Go.Proofs.Ytpacfppnmenndaa.Tk
open Go.RowKit Go.Maps Go.Sort Go.Proofs.Ytpacfppnmenndaa.Rg
open Go.Proofs.Ytpacfppnmenndaa.Y (Tn lt okT wr fst cod bfr OkL TL tab tc rows)
set_option linter.unusedVariables false
set_option linter.unusedSimpArgs false


/-- What Tones answers. -/
structure ToQ (w : World) (L : List Tn) (z : Int) (e : Ending) (w' : World) : Prop where
  b : Below w.heap.size w w'
  o : ∃ ao c, e = .returned (.tuple #[.slice ao L.length c, .int .i64 z]) ∧ L.length ≤ c ∧ c ≤ 9223372036854775807 ∧ (ao = none → c = 0) ∧ LN w' (fun k => w.heap.size ≤ k) ao L
set_option maxRecDepth 20000 in
set_option maxHeartbeats 4000000 in
theorem tones_any (S : Nat → Prop) (tb db : Nat) (s : Ta) (w : World) (hT : TB w S tb db s) :
    Calls Try.prog 16 #[.pointer (some ⟨tb, 0, none⟩)] w fun e w' => ToQ w (if s.br = true then [] else s.h.line) (if s.br = true then 9 else 0) e w' := by
  obtain ⟨va, vc, hr, hv⟩ := hT.ex
  have htl := hT.lt
  have c0 := World.rowIs.cell hr (i := 0) (by omega)
  have c1 := World.rowIs.cell hr (i := 1) (by omega)
  have c4 := World.rowIs.cell hr (i := 4) (by omega)
  have e0 : tk va vc db s 0 = .slice va s.h.vs.length vc := rfl
  have e1 : tk va vc db s 1 = .int .i64 s.h.st := rfl
  have e4 : tk va vc db s 4 = .bool s.br := rfl
  rw [e0] at c0
  rw [e1] at c1
  rw [e4] at c4
  clear e0 e1 e4 hr
  cases hbr : s.br
  · rw [hbr] at c4
    rw [if_neg (by decide), if_neg (by decide)]
    have hst : s.h.st ≤ 1024 := by have := hT.ok.h.st; have := hT.ok.v; have := hT.ok.d; omega
    have hln := line_any (fun b => b < w.heap.size) va vc s.h w (hv.keep (fun _ _ _ => rfl) (Nat.le_refl _) (fun b _ h => h)) hT.ok.h hst
    have HM : Hid (s.h.line.length ≤ 1024) := hT.ok.h.line.1
    clear hT hv
    generalize s.h.line = L at *
    go_enter Try.func16, Try.ntmps16
    go_wp2_with fail
    refine hln.mono ?_
    rintro e w2 ⟨⟨ao, c, rfl, l1, l2, l3, l4⟩, hb2⟩
    have mk2 := make_any L.length HM.out w2
    obtain ⟨W3, hW3⟩ : ∃ X, X = w2.alloc (.cells (madeCells #[.int .i64 0, .int .i64 0, .int .i64 0, .int .i64 0, .int .i64 0] (L.length * 5)) 38) := ⟨_, rfl⟩
    have hR3 : Row W3 w2.heap.size L.length (fun _ => ⟨0, 0, 0, 0, 0⟩) := by rw [hW3]; exact row_made w2 L.length
    have hb3 : Below w2.heap.size w2 W3 := by rw [hW3]; exact (Below.refl _ _).alloc (Nat.le_refl _) _
    rw [← hW3] at mk2
    clear hW3
    have hL3 : LN W3 (fun b => b < w.heap.size) ao L := l4.bel hb3
    obtain ⟨w4, hcp, hW4⟩ := copy_ex (w := W3) (some ⟨w2.heap.size, 0, none⟩) ao L.length L.length L.length c w2.heap.size 0 L.length _ hR3 L (by show L.length = min L.length L.length; omega) (fun h0 => by
      obtain ⟨b, off, e1, _, _, e2⟩ := hL3.cells h0
      exact ⟨by rw [Nat.zero_mul], b, off, e1, e2⟩) (by omega)
    have hz2 := hb2.size
    have HQ : Hid (ToQ w L 0 (.returned (.tuple #[.slice (some ⟨w2.heap.size, 0, none⟩) L.length L.length, .int .i64 0])) w4) := by
      refine ⟨hb2.trans ((hb3.trans (hW4.bel (Nat.le_refl _))).mono hz2), some ⟨w2.heap.size, 0, none⟩, L.length, rfl, Nat.le_refl _, by have := HM.out; omega, (fun h => by cases h), hW4.r.ln hz2 rfl (fun j hj => ?_)⟩
      unfold layT
      rw [if_pos ⟨Nat.zero_le _, by omega⟩, Nat.sub_zero]
    clear hR3 hb3 hL3 hW4 l1 l2 l3 l4 hln hb2
    go_wp2_with fail
    go_returns
    exact HQ.out
  · rw [hbr] at c4
    rw [if_pos rfl, if_pos rfl]
    have HQ : Hid (ToQ w [] 9 (.returned (.tuple #[.slice none 0 0, .int .i64 9])) w) := ⟨Below.refl _ _, none, 0, rfl, Nat.le_refl _, by omega, fun _ => rfl, LN.nil _ _ _⟩
    clear hT hv
    go_enter Try.func16, Try.ntmps16
    go_wp2_with fail
    go_returns
    exact HQ.out
end Go.Proofs.Ytpacfppnmenndaa.Tk
