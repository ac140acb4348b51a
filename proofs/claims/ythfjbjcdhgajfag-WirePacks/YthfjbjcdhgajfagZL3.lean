/- The law WirePacks: its walk (the document's Unpack as a premise). -/
import Derived.Test.YthfjbjcdhgajfagZ14
import Derived.Test.YthfjbjcdhgajfagZL2
namespace Go.Proofs.Ythfjbjcdhgajfag.Z
open Go.RowKit Go.Maps
set_option linter.unusedVariables false
set_option linter.unusedSimpArgs false

set_option maxRecDepth 20000 in
set_option maxHeartbeats 4000000 in
theorem packs_walk (l : List M.Ev) (ao : Option Addr) (c : Nat) (b : ByteArray) (w : World) (hp : LE w ao l) (hc : l.length ≤ c) (hcm : c ≤ 9223372036854775807) (hbd : ∀ e ∈ l, e.t ≤ 9223372036854775807) (hs : b.size ≤ maxLen)
    (HR : ∀ w, Calls Try.prog 23 #[.string b] w fun e w' => (∃ v, e = .returned (.tuple #[v, .agg #[.int .i64 (M.un 4096 M.z0 (tx b)).2.1, .int .i64 (fa b (M.un 4096 M.z0 (tx b)))]]) ∧ OE w' w.heap.size v (M.un 4096 M.z0 (tx b)).1) ∧ Below w.heap.size w w') :
    Calls Try.prog 6 #[.slice ao l.length c, .string b] w fun e w' => e = .returned (.bool true) ∧ Below w.heap.size w w' := by
  have HW := fun w hp => Wrong_any l ao c w hp hc hcm hbd
  have HX := fun w hp => refWrong_any l ao c w hp hc hcm hbd
  have HP := fun w hp => Pack_any l ao c w hp hc hcm hbd
  have HQ := fun w hp => refPack_any l ao c w hp hc hcm hbd
  have HU := fun w => Unpack_any b w hs
  generalize M.un 4096 M.z0 (tx b) = U at *
  generalize fa b U = FA at *
  obtain ⟨es, er, r⟩ := U
  simp only at HU HR
  generalize M.wr l = X at *
  generalize pa l = PL at *
  go_enter Try.func6, Try.ntmps6
  go_wp2_with fail
  refine (HW _ hp).mono ?_
  rintro e w1 ⟨rfl, k1⟩
  go_wp2_with fail
  refine (HX _ (hp.step k1)).mono ?_
  rintro e w2 ⟨rfl, hb2⟩
  have k2 : Below w.heap.size w w2 := k1.trans (hb2.mono k1.size)
  clear HW HX hb2 k1
  go_wp2_with fail
  refine (HP _ (hp.step k2)).mono ?_
  rintro e w3 ⟨rfl, hb3⟩
  have k3 : Below w.heap.size w w3 := k2.trans (hb3.mono k2.size)
  clear HP hb3 k2
  go_wp2_with fail
  refine (HQ _ (hp.step k3)).mono ?_
  rintro e w4 ⟨rfl, hb4⟩
  have k4 : Below w.heap.size w w4 := k3.trans (hb4.mono k3.size)
  clear HQ hb4 k3
  go_wp2_with fail
  refine (HU _).mono ?_
  rintro e w5 ⟨⟨v, rfl, ho⟩, hb5⟩
  have k5 : Below w.heap.size w w5 := k4.trans (hb5.mono k4.size)
  obtain ⟨xo, xc, rfl, x1, x2, hle⟩ := ho.le
  have hb6 : ∀ os, Below w5.heap.size w5 (w5.alloc os) := fun os => by go_grown
  clear HU hb5 k4 ho
  go_wp2_with fail
  refine (HR _).mono ?_
  rintro e w7 ⟨⟨v, rfl, ho⟩, hb7⟩
  have z7 := hb7.size
  simp at z7
  have z7' : w5.heap.size < w7.heap.size := by omega
  have hb57 : Below w5.heap.size w5 w7 := (hb6 _).trans (hb7.mono (by simp))
  have k7 : Below w.heap.size w w7 := k5.trans (hb57.mono k5.size)
  have d0 : w7.cell? ⟨w5.heap.size, 0, none⟩ = some (.int .i64 er) := keepC hb7 (by simp) (by simp [go_sem])
  have d1 : w7.cell? ⟨w5.heap.size, 1, none⟩ = some (.int .i64 FA) := keepC hb7 (by simp) (by simp [go_sem])
  obtain ⟨yo, yc, rfl, y1, y2, hly⟩ := ho.le
  have hle7 := hle.step hb57
  have hb8 : ∀ os, Below w7.heap.size w7 (w7.alloc os) := fun os => by go_grown
  clear HR hb7 hb57 hb6 ho hle k5 z7
  go_wp2_with fail
  refine (Same_yes es xo yo xc yc _ (hle7.step (hb8 _)) x1 x2 (hly.step (hb8 _)) y1 y2).mono ?_
  rintro e w9 ⟨rfl, hb9⟩
  have z9 := hb9.size
  simp at z9
  have k9 : Below w.heap.size w w9 := k7.trans (((hb8 _).mono k7.size).trans (hb9.mono (by simp; have := k7.size; omega)))
  have e0 : w9.cell? ⟨w5.heap.size, 0, none⟩ = some (.int .i64 er) := keepC hb9 (by simp; omega) (keepC (hb8 _) z7' d0)
  have e1 : w9.cell? ⟨w5.heap.size, 1, none⟩ = some (.int .i64 FA) := keepC hb9 (by simp; omega) (keepC (hb8 _) z7' d1)
  have e2 : w9.cell? ⟨w7.heap.size, 0, none⟩ = some (.int .i64 er) := keepC hb9 (by simp) (by simp [go_sem])
  have e3 : w9.cell? ⟨w7.heap.size, 1, none⟩ = some (.int .i64 FA) := keepC hb9 (by simp) (by simp [go_sem])
  clear hb9 hb8 hle7 hly d0 d1 k7
  go_wp2_with fail
  go_ret
  exact ⟨rfl, k9⟩
end Go.Proofs.Ythfjbjcdhgajfag.Z
