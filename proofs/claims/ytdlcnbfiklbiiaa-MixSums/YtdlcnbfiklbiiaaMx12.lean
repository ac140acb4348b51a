/- What Sum and the law's own alive come to. -/
import Derived.Test.YtdlcnbfiklbiiaaMx11
namespace Go.Proofs.Ytdlcnbfiklbiiaa.Mx
open Go.RowKit Go.Maps Go.Sort
set_option linter.unusedVariables false
set_option linter.unusedSimpArgs false

theorem Sum_any (P : List (List Int)) (G : List Int) (S : Nat → Prop) (ao bo : Option Addr) (n m cp cg : Nat) (w : World) (hP : PL w w.heap.size ao P) (hG : IL w S bo G) (hS : ∀ b, S b → b < w.heap.size) (hn : P.length = n) (hm : G.length = m) (hc1 : n ≤ cp) (hc2 : cp ≤ 9223372036854775807) (hg1 : m ≤ cg) (hg2 : cg ≤ 9223372036854775807) (hlen : ∀ p ∈ P, p.length ≤ 17592186044416) :
    Calls Try.prog 9 #[.slice ao n cp, .slice bo m cg] w fun e w' => SmQ w P G e w' := by
  by_cases h1 : 256 < n
  · exact Sum_many P G ao bo n m cp cg w hn h1
  · by_cases h2 : m = n
    · subst h2; exact Sum_main P G S ao bo m cp cg w hP hG hS hn hm h1 hc1 hc2 hg1 hg2 hlen
    · exact Sum_fit P G ao bo n m cp cg w hn hm h1 h2
theorem se_alive : se [[3]] [5] = 0 := by decide
theorem so_alive : so [[3]] [5] = [15] := by
  unfold so; rw [if_pos se_alive]; decide
set_option maxHeartbeats 4000000 in
theorem alive_any (w : World) :
    Calls Try.prog 16 #[] w fun e w' => e = .returned (.bool true) ∧ Below w.heap.size w w' := by
  obtain ⟨W1, hW1⟩ : ∃ X, X = ((w.alloc (Obj.cells #[.int .i64 3] 3)).alloc (Obj.cells #[.slice (some ⟨w.heap.size, 0, none⟩) 1 1] 23)).alloc (Obj.cells #[.int .i64 5] 3) := ⟨_, rfl⟩
  have hb : Below w.heap.size w W1 := by rw [hW1]; exact (((Below.refl _ _).alloc (Nat.le_refl _) _).alloc (by simp) _).alloc (by simp; omega) _
  have hz : W1.heap.size = w.heap.size + 3 := by rw [hW1]; simp
  have c0 : W1.cell? ⟨w.heap.size, 0, none⟩ = some (.int .i64 3) := by rw [hW1]; simp [go_sem]
  have c1 : W1.cell? ⟨w.heap.size + 1, 0, none⟩ = some (.slice (some ⟨w.heap.size, 0, none⟩) 1 1) := by rw [hW1]; simp [go_sem]
  have c2 : W1.cell? ⟨w.heap.size + 2, 0, none⟩ = some (.int .i64 5) := by rw [hW1]; simp [go_sem]
  have i0 : IL W1 (fun b => b < W1.heap.size) (some ⟨w.heap.size, 0, none⟩) [3] := ⟨fun _ => ⟨w.heap.size, 0, rfl, by omega, by omega, fun j x hj => by
    match j, hj with
    | 0, hj => simp at hj; subst hj; exact c0⟩⟩
  have i2 : IL W1 (fun b => b < W1.heap.size) (some ⟨w.heap.size + 2, 0, none⟩) [5] := ⟨fun _ => ⟨w.heap.size + 2, 0, rfl, by omega, by omega, fun j x hj => by
    match j, hj with
    | 0, hj => simp at hj; subst hj; exact c2⟩⟩
  have p0 : PL W1 W1.heap.size (some ⟨w.heap.size + 1, 0, none⟩) [[3]] := ⟨fun _ => ⟨w.heap.size + 1, 0, rfl, by omega, by omega, fun j p hj => by
    match j, hj with
    | 0, hj => simp at hj; subst hj; exact ⟨_, _, c1, Nat.le_refl _, by decide, (fun q => by cases q), i0⟩⟩⟩
  have hq := Sum_any [[3]] [5] _ _ _ 1 1 1 1 W1 p0 i2 (fun b h => h) rfl rfl (Nat.le_refl _) (by decide) (Nat.le_refl _) (by decide) (fun p hp => by simp at hp; subst hp; decide)
  have Hb : Hid (Below w.heap.size w W1) := hb
  have Hz : Hid (W1.heap.size = w.heap.size + 3) := hz
  clear c0 c1 c2 i0 i2 p0 hb hz
  go_enter Try.func16, Try.ntmps16
  go_wp2_with fail
  rw [← hW1]
  clear hW1
  refine hq.mono ?_
  rintro e w2 ⟨⟨ao, c, rfl, q1, q2, q3, q4⟩, hb2⟩
  rw [se_alive, so_alive] at *
  obtain ⟨b, off, rfl, lb, _, q5⟩ := q4.at' (by decide)
  have d0 := q5 0 15 rfl
  rw [Nat.add_zero] at d0
  have e1 : ([15] : List Int).length = 1 := rfl
  rw [e1] at q1 ⊢
  have Hb2 : Hid (Below w.heap.size w w2) := Hb.out.trans (hb2.mono Hb.out.size)
  clear q4 q5 hq hb2 e1
  go_wp2_with fail
  go_ret
  exact ⟨rfl, Hb2.out⟩
end Go.Proofs.Ytdlcnbfiklbiiaa.Mx
