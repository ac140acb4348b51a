/- The document's Count and Same, over what its Ways answers. -/
import Derived.Test.YtmgkbnlmdhnjnaeUR5
import Derived.Test.YtmgkbnlmdhnjnaeU13
namespace Go.Proofs.Ytmgkbnlmdhnjnae.U
open Go.RowKit Go.Maps Go.Sort
set_option linter.unusedVariables false
set_option linter.unusedSimpArgs false

/-- What the document's Ways answers at every beginning of a line. -/
def WaysC (r : M.Ru) (ao : Option Addr) (n c : Nat) (g : Nat → Int) : Prop :=
  ∀ (bo : Option Addr) (l d : Nat) (x : Nat → Int) (w : World), LI w ao n g → LI w bo l x → l ≤ d → d ≤ 9223372036854775807 → l ≤ n → (∀ j, j < l → 0 ≤ x j ∧ x j ≤ 127) →
    Calls Try.prog 42 #[.agg #[.int .i64 r.low, .int .i64 r.high, .bool r.above, .int .i64 r.leap, .int .i64 r.classes], .slice ao n c, .slice bo l d] w fun e w' => e = .returned (.int .i64 (M.ct r g n (n - l) (M.stk x l) (M.sta x l))) ∧ Below w.heap.size w w'

set_option maxRecDepth 100000 in
set_option maxHeartbeats 4000000 in
theorem refCount_any (r : M.Ru) (ao : Option Addr) (n c : Nat) (g : Nat → Int) (w : World) (hp : LI w ao n g) (hc : n ≤ c) (hcm : c ≤ 9223372036854775807) (HWy : M.wr r g n = 0 → WaysC r ao n c g) :
    Calls Try.prog 22 #[.agg #[.int .i64 r.low, .int .i64 r.high, .bool r.above, .int .i64 r.leap, .int .i64 r.classes], .slice ao n c] w fun e w' => e = .returned (.tuple #[.int .i64 (M.cn r g n), .int .i64 (M.wr r g n)]) ∧ Below w.heap.size w w' := by
  have HW := fun w hp => refWrong_any r ao n c g w hp hc hcm
  by_cases hw : M.wr r g n = 0
  · have hcn : M.cn r g n = M.ct r g n n (-1) false := by unfold M.cn; rw [if_pos hw]
    have HY : ∀ w, LI w ao n g → Calls Try.prog 42 #[.agg #[.int .i64 r.low, .int .i64 r.high, .bool r.above, .int .i64 r.leap, .int .i64 r.classes], .slice ao n c, .slice none 0 0] w fun e w' => e = .returned (.int .i64 (M.ct r g n n (-1) false)) ∧ Below w.heap.size w w' := fun w hp => by
      have := HWy hw none 0 0 (fun _ => 0) w hp ⟨fun h => by omega⟩ (by omega) (by omega) (by omega) (fun j hj => by omega)
      exact this
    rw [hw] at HW ⊢
    rw [hcn]
    clear HWy hcn hw
    generalize M.ct r g n n (-1) false = CT at *
    go_enter Try.func22, Try.ntmps22
    go_wp2_with fail
    obtain ⟨W, hW⟩ : ∃ x, x = w.alloc (.cells #[.int .i64 r.low, .int .i64 r.high, .bool r.above, .int .i64 r.leap, .int .i64 r.classes] 38) := ⟨_, rfl⟩
    rw [← hW]
    have hK0 : WK w W r := by
      refine ⟨by rw [hW]; go_grown, by rw [hW]; simp, ?_, ?_, ?_, ?_, ?_⟩ <;> rw [hW] <;> simp [go_sem]
    clear hW
    refine (HW _ (hp.step hK0.bel)).mono ?_
    rintro e w1 ⟨rfl, hb1⟩
    have hK1 := hK0.step hb1
    have p0 := hK1.r0
    have p1 := hK1.r1
    have p2 := hK1.r2
    have p3 := hK1.r3
    have p4 := hK1.r4
    have ps := hK1.rs
    clear hb1 hK0 HW
    go_wp2_with fail
    refine (HY _ (hp.step hK1.bel)).mono ?_
    rintro e w2 ⟨rfl, hb2⟩
    go_wp2_with fail
    go_returns
    exact ⟨rfl, (hK1.step hb2).bel⟩
  · have hcn : M.cn r g n = 0 := by unfold M.cn; rw [if_neg hw]
    rw [hcn]
    have hw' : (M.wr r g n != 0) = true := by simp [hw]
    clear HWy
    generalize M.wr r g n = X at *
    go_enter Try.func22, Try.ntmps22
    go_wp2_with fail
    refine (HW _ (hp.step (by go_grown))).mono ?_
    rintro e w1 ⟨rfl, hb1⟩
    go_wp2_with fail
    go_returns
    exact ⟨rfl, Below.trans (by go_grown) (hb1.mono (by simp))⟩

theorem Same_yes (ao bo : Option Addr) (n c d : Nat) (x y : Nat → Int) (w : World) (hp : LI w ao n x) (hc : n ≤ c) (hcm : c ≤ 9223372036854775807) (hq : LI w bo n y) (hd : n ≤ d) (hdm : d ≤ 9223372036854775807) (he : ∀ i, i < n → x i = y i) :
    Calls Try.prog 25 #[.slice ao n c, .slice bo n d] w fun e w' => e = .returned (.bool true) ∧ Below w.heap.size w w' := by
  have H1 := fun w hp hq => Less_yes ao bo n c n d x y w hp hc hcm hq hd hdm (Nat.le_refl _) (fun i hi _ => by rw [he i hi]; exact Int.le_refl _)
  have H2 := fun w hp hq => Less_yes bo ao n d n c y x w hq hd hdm hp hc hcm (Nat.le_refl _) (fun i hi _ => by rw [he i hi]; exact Int.le_refl _)
  have hn : ((n : Int) == (n : Int)) = true := by simp
  go_enter Try.func25, Try.ntmps25
  go_wp2_with fail
  refine (H1 _ hp hq).mono ?_
  rintro e w1 ⟨rfl, hb1⟩
  go_wp2_with fail
  refine (H2 _ (hp.step hb1) (hq.step hb1)).mono ?_
  rintro e w2 ⟨rfl, hb2⟩
  go_wp2_with fail
  go_returns
  exact ⟨rfl, hb1.trans (hb2.mono hb1.size)⟩
end Go.Proofs.Ytmgkbnlmdhnjnae.U
