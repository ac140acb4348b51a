/- Sum and Round of anything. -/
import Derived.Test.YtdlcnbfiklbiiaaMx12
import Derived.Test.YtdlcnbfiklbiiaaMx13
import Derived.Test.YtdlcnbfiklbiiaaMx19
import Derived.Test.YtdlcnbfiklbiiaaDb12
namespace Go.Proofs.Ytdlcnbfiklbiiaa.Mx
open Go.RowKit Go.Maps Go.Sort
set_option linter.unusedVariables false
set_option linter.unusedSimpArgs false

set_option maxRecDepth 8000 in
set_option maxHeartbeats 8000000 in
theorem msums_walk (P : List (List Int)) (ao : Option Addr) (n cp : Nat) (G : List Int) (bo : Option Addr) (m cg : Nat) (x : Nat) (w : World) (hP : PL w w.heap.size ao P) (hn : P.length = n) (hc1 : n ≤ cp) (hc2 : cp ≤ 9223372036854775807) (hlen : ∀ p ∈ P, p.length ≤ 17592186044416) (hG : IL w (fun b => b < w.heap.size) bo G) (hm : G.length = m) (hg1 : m ≤ cg) (hg2 : cg ≤ 9223372036854775807) :
    Calls Try.prog 3 #[.slice ao n cp, .slice bo m cg, .float .f64 x] w fun e w' => e = .returned (.bool true) ∧ Below w.heap.size w w' := by
  have hq1 := Sum_any P G (fun k => k < w.heap.size) ao bo n m cp cg w hP hG (fun _ h => h) hn hm hc1 hc2 hg1 hg2 hlen
  have hq2 : ∀ w1, Below w.heap.size w w1 → Calls Try.prog 10 #[.slice ao n cp, .slice bo m cg] w1 fun e w' => SrQ w1 P G e w' := fun w1 hb1 =>
    refSum_any P G ao bo n m cp cg w1 (hP.keep (fun b hb _ => hb1.block b hb) hb1.size (fun b hb _ => by have := hb1.size; omega)) (hG.keep (fun b hb _ => hb1.block b hb) hb1.size (fun b hb _ => by have := hb1.size; omega)) hn hm hc1 hc2 hg1 hg2 hlen
  obtain ⟨k, hr1, hr2⟩ := Db.agree_any x
  clear hP hG hlen hn hm
  go_enter Try.func3, Try.ntmps3
  go_wp2_with fail
  refine hq1.mono ?_
  rintro e w1 ⟨⟨sa, sc, rfl, s1, s2, s3, s4⟩, hb1⟩
  have hr := hq2 w1 hb1
  have HB1 : Hid (Below w.heap.size w w1) := hb1
  clear hq1 hq2 hb1
  go_wp2_with fail
  refine hr.mono ?_
  rintro e w2 ⟨⟨v, base, rfl, hbase, hv⟩, hb2⟩
  obtain ⟨ta, tc, rfl, t1, t2, t3, t4⟩ := IL.own hv rfl
  have HB2 : Hid (Below w.heap.size w w2) := HB1.out.trans (hb2.mono HB1.out.size)
  have hsm := fun q => Same_q (w2.drewN q) _ _ sa ta (so P G) (so P G).length sc tc ((s4.bel hb2).bel (below_drewN (Below.refl _ _) q)) (t4.bel (below_drewN (Below.refl _ _) q)) rfl s1 s2 t1 t2
  generalize se P G = E at *
  generalize (so P G).length = N at *
  clear hr hb2 hv s4 t4 s3 t3
  go_wp2_with fail
  refine (hsm 0).mono ?_
  rintro e w3 ⟨rfl, q, hw3⟩
  have HB3 : Hid (Below w.heap.size w w3) := by rw [hw3]; exact below_drewN HB2.out _
  clear hsm hw3
  go_wp2_with fail
  refine (hr1 _).mono ?_
  rintro e w4 ⟨rfl, hb4⟩
  have HB4 : Hid (Below w.heap.size w w4) := HB3.out.trans (hb4.mono HB3.out.size)
  clear hb4
  go_wp2_with fail
  refine (hr2 _).mono ?_
  rintro e w5 ⟨rfl, hb5⟩
  have HB5 : Hid (Below w.heap.size w w5) := HB4.out.trans (hb5.mono HB4.out.size)
  clear hb5
  go_wp2_with fail
  go_ret
  exact ⟨rfl, HB5.out⟩
end Go.Proofs.Ytdlcnbfiklbiiaa.Mx
