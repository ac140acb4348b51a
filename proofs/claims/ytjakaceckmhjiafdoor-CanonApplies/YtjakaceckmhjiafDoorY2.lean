/- A line in memory; what the program's Wrong and End come to. -/
import Derived.Test.YtjakaceckmhjiafDoorY1
import Derived.OwnWalk
namespace Go.Proofs.YtjakaceckmhjiafDoor.Y
open Go.RowKit Go.Sort
set_option linter.unusedVariables false
set_option linter.unusedSimpArgs false

/-- A line lies there: five numbers a tone. -/
structure TL (w : World) (ao : Option Addr) (n : Nat) (T : Nat → Tn) : Prop where
  at' : 0 < n → ∃ b off, ao = some ⟨b, off, none⟩ ∧ b < w.heap.size ∧ (∀ j, j < n → w.cell? ⟨b, off + j * 5, none⟩ = some (.int .i64 (T j).t)) ∧ (∀ j, j < n → w.cell? ⟨b, off + j * 5 + 1, none⟩ = some (.int .i64 (T j).g)) ∧ (∀ j, j < n → w.cell? ⟨b, off + j * 5 + 2, none⟩ = some (.int .i64 (T j).l)) ∧ (∀ j, j < n → w.cell? ⟨b, off + j * 5 + 3, none⟩ = some (.int .i64 (T j).a)) ∧ (∀ j, j < n → w.cell? ⟨b, off + j * 5 + 4, none⟩ = some (.int .i64 (T j).o))
theorem TL.step {w w' : World} {ao : Option Addr} {n : Nat} {T : Nat → Tn} (h : TL w ao n T) {B : Nat} (hb : Below B w w') (hB : ∀ b off, ao = some ⟨b, off, none⟩ → b < B) : TL w' ao n T :=
  ⟨fun hn => by
    obtain ⟨b, off, e, hlt, c0, c1, c2, c3, c4⟩ := h.at' hn
    have := hB b off e
    exact ⟨b, off, e, by have := hb.size; omega, fun j hj => keepC hb this (c0 j hj), fun j hj => keepC hb this (c1 j hj), fun j hj => keepC hb this (c2 j hj), fun j hj => keepC hb this (c3 j hj), fun j hj => keepC hb this (c4 j hj)⟩⟩
theorem TL.keep {w w' : World} {ao : Option Addr} {n : Nat} {T : Nat → Tn} (h : TL w ao n T) (hb : Below w.heap.size w w') : TL w' ao n T :=
  ⟨fun hn => by
    obtain ⟨b, off, e, hlt, c0, c1, c2, c3, c4⟩ := h.at' hn
    exact ⟨b, off, e, by have := hb.size; omega, fun j hj => keepC hb hlt (c0 j hj), fun j hj => keepC hb hlt (c1 j hj), fun j hj => keepC hb hlt (c2 j hj), fun j hj => keepC hb hlt (c3 j hj), fun j hj => keepC hb hlt (c4 j hj)⟩⟩
theorem TL.ext {w : World} {ao : Option Addr} {n : Nat} {T U : Nat → Tn} (h : TL w ao n T) (e : ∀ j, j < n → T j = U j) : TL w ao n U :=
  ⟨fun hn => by
    obtain ⟨b, off, e1, hlt, c0, c1, c2, c3, c4⟩ := h.at' hn
    exact ⟨b, off, e1, hlt, fun j hj => by rw [← e j hj]; exact c0 j hj, fun j hj => by rw [← e j hj]; exact c1 j hj, fun j hj => by rw [← e j hj]; exact c2 j hj, fun j hj => by rw [← e j hj]; exact c3 j hj, fun j hj => by rw [← e j hj]; exact c4 j hj⟩⟩

set_option maxRecDepth 20000 in
set_option maxHeartbeats 4000000 in
theorem End_any (ao : Option Addr) (n c : Nat) (T : Nat → Tn) (w : World) (hp : TL w ao n T) (hc : n ≤ c) (hok : OkL T n) :
    Calls Tryd.prog 9 #[.slice ao n c] w fun e w' => e = .returned (.int .i64 (en T n)) ∧ Below w.heap.size w w' := by
  have hn := hok.len
  go_enter Tryd.func9, Tryd.ntmps9
  go_wp2_with fail
  go_loopw [3, 8] (fun m i wr => ∃ k : Nat, k ≤ n ∧ i = .int .i64 k ∧ m = .int .i64 (en T k) ∧ Below w.heap.size w wr) (fun _ i _ => n - (intOf i).toNat)
  case atStart => exact ⟨0, by omega, rfl, rfl, Below.refl _ _⟩
  case round =>
    obtain ⟨k, hkn, rfl, rfl, hbr⟩ := hrel
    by_cases hlt : k < n
    · obtain ⟨b, off, rfl, hbl, q0, q1, q2, q3, q4⟩ := (hp.keep hbr).at' (by omega)
      have r0 := q0 k hlt
      have r1 := q1 k hlt
      have r2 := q2 k hlt
      have r3 := q3 k hlt
      have r4 := q4 k hlt
      obtain ⟨o1, o2, o3, o4⟩ := okT_yes (hok.ok k hlt)
      obtain ⟨e1, e2⟩ := en_step_bd hok hkn
      have HE : Hid (en T (k + 1) = if en T k < (T k).t + (T k).g then (T k).t + (T k).g else en T k) := rfl
      clear q0 q1 q2 q3 q4
      generalize en T k = E at *
      generalize (T k).t = t at *
      generalize (T k).g = g at *
      generalize (T k).l = l at *
      generalize (T k).a = a at *
      generalize (T k).o = o at *
      by_cases hm : E < t + g
      · have HE2 : Hid (en T (k + 1) = t + g) := by have := HE.out; rw [if_pos hm] at this; exact this
        clear HE
        go_wp2_with fail
        go_roundw
        case rel => exact ⟨k + 1, by omega, by go_num, by rw [HE2.out], hbr.alloc hbr.size _⟩
        case measure => simp [intOf]; omega
      · have HE2 : Hid (en T (k + 1) = E) := by have := HE.out; rw [if_neg hm] at this; exact this
        clear HE
        go_wp2_with fail
        go_roundw
        case rel => exact ⟨k + 1, by omega, by go_num, by rw [HE2.out], hbr.alloc hbr.size _⟩
        case measure => simp [intOf]; omega
    · obtain rfl : k = n := by omega
      go_wp2_with fail
      go_ret
      exact ⟨rfl, hbr⟩
end Go.Proofs.YtjakaceckmhjiafDoor.Y
