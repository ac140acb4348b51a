/- What within, NewDither, noise, split and clip come to. -/
import Derived.Test.YtdlcnbfiklbiiaaMxRow
namespace Go.Proofs.Ytdlcnbfiklbiiaa.Mx
open Go.RowKit Go.Maps Go.Sort
set_option linter.unusedVariables false
set_option linter.unusedSimpArgs false

theorem inR_take_no {m : Int} {l : List Int} {k : Nat} {x : Int} (hx : l[k]? = some x) (h : inB m x = false) : inR m l = false := by
  cases hc : inR m l with
  | false => rfl
  | true => rw [List.all_eq_true.1 hc x (List.mem_of_getElem? hx)] at h; cases h
theorem inB_no1 {m x : Int} (h : x < -m) : inB m x = false := by
  cases hc : inB m x with
  | false => rfl
  | true => have := inB_iff.1 hc; omega
theorem inB_no2 {m x : Int} (h : m < x) : inB m x = false := by
  cases hc : inB m x with
  | false => rfl
  | true => have := inB_iff.1 hc; omega
theorem inR_step {m : Int} {l : List Int} {k : Nat} {x : Int} (hx : l[k]? = some x) (h : inR m (l.take k) = true) (h2 : inB m x = true) : inR m (l.take (k + 1)) = true := by
  rw [take_one hx]; unfold inR at *; rw [List.all_append, h]; simp [h2]
set_option maxHeartbeats 2000000 in
theorem within_any (m : Int) (hm0 : 0 ≤ m) (hm1 : m ≤ 9007199254740992) (l : List Int) (S : Nat → Prop) (ao : Option Addr) (cp : Nat) (w : World) (hL : IL w S ao l) (hc : l.length ≤ cp) (hcm : cp ≤ 9223372036854775807) :
    Calls Try.prog 23 #[.int .i64 m, .slice ao l.length cp] w fun e w' => e = .returned (.bool (inR m l)) ∧ w' = w := by
  obtain ⟨n, hn⟩ : ∃ n, n = l.length := ⟨_, rfl⟩
  rw [← hn] at hc ⊢
  have Hn : Hid (n = l.length) := hn
  have HL : Hid (IL w S ao l) := hL
  have wm : IntKind.i64.wrap (-m) = -m := wid (by omega) (by omega)
  have HR : Hid (∀ v, inR m l = v → Ending.returned (.bool v) = .returned (.bool (inR m l))) := fun v h => by rw [h]
  clear hn hL
  go_enter Try.func23, Try.ntmps23
  go_wp2_with fail
  go_loopw [9] (fun i ww => ∃ k : Nat, k ≤ n ∧ i = .int .i64 k ∧ ww = w ∧ Hid (inR m (l.take k) = true)) (fun i _ => n - (intOf i).toNat)
  case atStart => exact ⟨0, by omega, rfl, rfl, rfl⟩
  case round =>
    obtain ⟨k, hk, rfl, rfl, hP⟩ := hrel
    by_cases hlt : k < n
    · obtain ⟨x, hx⟩ : ∃ x, l[k]? = some x := ⟨_, List.getElem?_eq_getElem (by rw [← Hn.out]; exact hlt)⟩
      obtain ⟨b, off, rfl, hb, _, q⟩ := HL.out.at' (by rw [← Hn.out]; omega)
      have cf := q k x hx
      have hlt' : (k : Int) < (n : Int) := by omega
      have w3 : IntKind.i64.wrap ((k : Int) + 1) = (k : Int) + 1 := wid (by omega) (by omega)
      by_cases c1 : x < -m
      · have HN : Hid (inR m l = false) := inR_take_no hx (inB_no1 c1)
        clear q hx
        go_wp2_with fail
        go_ret
        exact ⟨HR.out _ HN.out, rfl⟩
      · by_cases c2 : m < x
        · have HN : Hid (inR m l = false) := inR_take_no hx (inB_no2 c2)
          clear q hx
          go_wp2_with fail
          go_ret
          exact ⟨HR.out _ HN.out, rfl⟩
        · have HP : Hid (inR m (l.take (k + 1)) = true) := inR_step hx hP.out (inB_iff.2 (by omega))
          clear q hx
          go_wp2_with fail
          go_roundw
          case rel => exact ⟨k + 1, by omega, by go_num, trivial, HP⟩
          case measure => simp [intOf]; omega
    · obtain rfl : k = n := by omega
      have HN : Hid (inR m l = true) := by have := hP.out; rwa [Hn.out, List.take_length] at this
      go_wp2_with fail
      go_ret
      exact ⟨HR.out _ HN.out, rfl⟩
/-- All blocks but b are kept below N. -/
structure Kn (w : World) (b N : Nat) (w' : World) : Prop where
  k : ∀ j, j < N → j ≠ b → w'.heap[j]? = w.heap[j]?
  z : w.heap.size ≤ w'.heap.size
  b : Below b w w'
theorem Kn.refl (w : World) (b N : Nat) : Kn w b N w := ⟨fun _ _ _ => rfl, Nat.le_refl _, Below.refl _ _⟩
theorem Kn.trans {w w1 w2 : World} {b N : Nat} (h : Kn w b N w1) (h2 : Kn w1 b N w2) : Kn w b N w2 :=
  ⟨fun j hj hne => (h2.k j hj hne).trans (h.k j hj hne), Nat.le_trans h.z h2.z, h.b.trans h2.b⟩
theorem Kn.bel {w w' : World} {b N : Nat} (h : Below w.heap.size w w') (hN : N ≤ w.heap.size) (hb : b < w.heap.size) : Kn w b N w' :=
  ⟨fun j hj _ => h.block j (by omega), h.size, h.mono (by omega)⟩
theorem Kn.put {w : World} {b N c i : Nat} {v : Value} (hc : c = b ∨ N ≤ c) (hb : b ≤ c) : Kn w b N (w.setCell ⟨c, i, none⟩ v) :=
  ⟨fun j hj hne => Below.heap_setCell _ _ _ _ (by show j ≠ c; omega), by simp [World.setCell], (Below.refl _ _).setCell (p := ⟨c, i, none⟩) hb _⟩
theorem Kn.less {w w' : World} {b N M : Nat} (h : Kn w b N w') (hM : M ≤ N) : Kn w b M w' := ⟨fun j hj hne => h.k j (by omega) hne, h.z, h.b⟩
/-- A dither's cells. -/
def dv (s : Dt) (i : Nat) : Value := if i = 0 then .int .u32 s.seed else if i = 1 then .int .i64 s.rest else if i = 2 then .int .i64 s.loud else .int .i64 s.clip
def DL (w : World) (b : Nat) (s : Dt) : Prop := w.rowIs b 57 4 (dv s)
theorem DL.lt {w : World} {b : Nat} {s : Dt} (h : DL w b s) : b < w.heap.size := by
  obtain ⟨c, hb, _⟩ := h
  exact (Array.getElem?_eq_some_iff.1 hb).1
theorem DL.c0 {w : World} {b : Nat} {s : Dt} (h : DL w b s) : w.cell? ⟨b, 0, none⟩ = some (.int .u32 s.seed) := World.rowIs.cell h (by decide)
theorem DL.c1 {w : World} {b : Nat} {s : Dt} (h : DL w b s) : w.cell? ⟨b, 1, none⟩ = some (.int .i64 s.rest) := World.rowIs.cell h (by decide)
theorem DL.c2 {w : World} {b : Nat} {s : Dt} (h : DL w b s) : w.cell? ⟨b, 2, none⟩ = some (.int .i64 s.loud) := World.rowIs.cell h (by decide)
theorem DL.c3 {w : World} {b : Nat} {s : Dt} (h : DL w b s) : w.cell? ⟨b, 3, none⟩ = some (.int .i64 s.clip) := World.rowIs.cell h (by decide)
theorem DL.f {w : World} {b : Nat} {s : Dt} (h : DL w b s) (i : Nat) : w.frozen? ⟨b, i, none⟩ = false := World.rowIs.frozen h i
theorem DL.keep {w w' : World} {b : Nat} {s : Dt} (h : DL w b s) (hk : w'.heap[b]? = w.heap[b]?) : DL w' b s := World.rowIs.of_block h hk
theorem DL.bel {w w' : World} {b : Nat} {s : Dt} (h : DL w b s) (hb : Below w.heap.size w w') : DL w' b s := h.keep (hb.block b h.lt)
theorem DL.put0 {w : World} {b : Nat} {s : Dt} (h : DL w b s) (x : Nat) : DL (w.setCell ⟨b, 0, none⟩ (.int .u32 x)) b ⟨x, s.rest, s.loud, s.clip⟩ := World.rowIs.congr (World.rowIs.set h 0 _) (fun i hi => by
  match i, hi with
  | 0, _ => rfl
  | 1, _ => rfl
  | 2, _ => rfl
  | 3, _ => rfl)
theorem DL.put1 {w : World} {b : Nat} {s : Dt} (h : DL w b s) (x : Int) : DL (w.setCell ⟨b, 1, none⟩ (.int .i64 x)) b ⟨s.seed, x, s.loud, s.clip⟩ := World.rowIs.congr (World.rowIs.set h 1 _) (fun i hi => by
  match i, hi with
  | 0, _ => rfl
  | 1, _ => rfl
  | 2, _ => rfl
  | 3, _ => rfl)
theorem DL.put2 {w : World} {b : Nat} {s : Dt} (h : DL w b s) (x : Int) : DL (w.setCell ⟨b, 2, none⟩ (.int .i64 x)) b ⟨s.seed, s.rest, x, s.clip⟩ := World.rowIs.congr (World.rowIs.set h 2 _) (fun i hi => by
  match i, hi with
  | 0, _ => rfl
  | 1, _ => rfl
  | 2, _ => rfl
  | 3, _ => rfl)
theorem DL.put3 {w : World} {b : Nat} {s : Dt} (h : DL w b s) (x : Nat) : DL (w.setCell ⟨b, 3, none⟩ (.int .i64 x)) b ⟨s.seed, s.rest, s.loud, x⟩ := World.rowIs.congr (World.rowIs.set h 3 _) (fun i hi => by
  match i, hi with
  | 0, _ => rfl
  | 1, _ => rfl
  | 2, _ => rfl
  | 3, _ => rfl)
end Go.Proofs.Ytdlcnbfiklbiiaa.Mx
