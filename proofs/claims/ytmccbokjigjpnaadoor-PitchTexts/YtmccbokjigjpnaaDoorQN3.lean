/- What the program's cutQuality comes to, at every text. -/
import Derived.Test.YtmccbokjigjpnaaDoorQN2
import Derived.Test.YtmccbokjigjpnaaDoorQT8
import Derived.Test.YtmccbokjigjpnaaDoorQD16
namespace Go.Proofs.YtmccbokjigjpnaaDoor
open Go.RowKit Go.Lib
set_option linter.unusedVariables false
set_option linter.unusedSimpArgs false

theorem M.nl_isq : ∀ r, r < 128 → (M.nl r = false ↔ (r = 80 ∨ r = 77 ∨ r = 109 ∨ r = 65 ∨ r = 100)) := by decide +kernel

theorem IndexRune_none (r : Nat) (w : World) (h1 : 128 ≤ r) (h2 : r ≤ 1114111) :
    Calls Tryd.prog 81 #[.string ⟨#[80, 77, 109, 65, 100]⟩, .int .i32 r] w fun e w' => e = .returned (.int .i64 (-1)) ∧ Below w.heap.size w w' := by
  by_cases e : r = 65533
  · subst e; exact IndexRune_err w
  · exact IndexRune_high r w (by omega) (by omega) (by omega)
theorem ContainsRune_none (r : Nat) (w : World) (h1 : 128 ≤ r) (h2 : r ≤ 1114111) :
    Calls Tryd.prog 70 #[.string ⟨#[80, 77, 109, 65, 100]⟩, .int .i32 r] w fun e w' => e = .returned (.bool false) ∧ Below w.heap.size w w' := by
  go_enter Tryd.func70, Tryd.ntmps70
  go_wp2_with fail
  refine (IndexRune_none r _ h1 h2).mono ?_
  rintro e w1 ⟨rfl, hb1⟩
  go_wp2_with fail
  go_ret
  exact ⟨rfl, hb1⟩
theorem notLetter_high (r : Nat) (w : World) (h1 : 128 ≤ r) (h2 : r ≤ 1114111) :
    Calls Tryd.prog 69 #[.int .i32 r] w fun e w' => e = .returned (.bool true) ∧ Below w.heap.size w w' := by
  go_enter Tryd.func69, Tryd.ntmps69
  go_wp2_with fail
  refine (ContainsRune_none r _ h1 h2).mono ?_
  rintro e w1 ⟨rfl, hb1⟩
  go_wp2_with fail
  go_ret
  exact ⟨rfl, hb1⟩

/-- The letters that a text begins with: K of them. -/
structure M.Ltr (t : ByteArray) (K : Nat) : Prop where
  ks : K ≤ t.size
  q : ∀ j, j < K → M.isq (M.by t j)
  e : K < t.size → ¬ M.isq (M.by t K)
/-- Where the letters end, as the library tells it. -/
def M.endAt (t : ByteArray) (K : Nat) : Int := if K < t.size then (K : Int) else -1

set_option maxRecDepth 100000 in
set_option maxHeartbeats 2000000 in
theorem indexFunc_ltr (t : ByteArray) (K : Nat) (w : World) (hl : M.Ltr t K) :
    Calls Tryd.prog 80 #[.string t, .func (.func 69) #[] #[], .bool true] w fun e w' => e = .returned (.int .i64 (M.endAt t K)) ∧ Below w.heap.size w w' := by
  have eg : ∀ args w, (callFunc 69 args).run Tryd.prog w = .ok (.enter 69 args) w := fun args w => by kernel_rfl
  have HL : Hid (M.Ltr t K) := hl
  have hks := hl.ks
  have HE : Hid (M.endAt t K = if K < t.size then (K : Int) else -1) := rfl
  generalize M.endAt t K = V at *
  clear hl
  go_enter Tryd.func80, Tryd.ntmps80
  go_wp2_with fail
  go_loopw [] (fun w' => ∃ (pos : Nat), w' = w.iter t pos ∧ pos ≤ K) (fun w' => t.size - w'.iterPos w.heap.size)
  case atStart => exact ⟨0, rfl, by omega⟩
  case round =>
    obtain ⟨pos, rfl, hpk⟩ := hrel
    by_cases hq : pos < t.size
    · by_cases hlt : pos < K
      · have hisq := HL.out.q pos hlt
        rw [← M.by_is t pos hq] at hisq
        have ha : (t[pos]'hq).toNat < 128 := by unfold M.isq at hisq; omega
        have hn : M.nl (t[pos]'hq).toNat = false := (M.nl_isq _ ha).2 hisq
        have hnx : ∀ ty, (Instr.next (.pointer (some ⟨w.heap.size, 0, none⟩)) true ty).run Tryd.prog (w.iter t pos) = _ := fun ty => run_next_ascii w t pos ty hq ha
        clear hisq
        go_wp2_with (go_at_call 69; refine (notLetter_any _ _ ha).mono ?_; rintro e w' ⟨rfl, hw⟩; rw [hw, hn])
        go_roundw
        case rel => exact ⟨pos + 1, rfl, by omega⟩
        case measure =>
          simp
          omega
      · obtain rfl : pos = K := by omega
        have hnq := HL.out.e hq
        have HC : Hid (V = (pos : Int)) := by show _ = _; rw [HE.out, if_pos hq]
        clear HE HL
        by_cases ha : (t[pos]'hq).toNat < 128
        · have hn : M.nl (t[pos]'hq).toNat = true := by
            cases h : M.nl (t[pos]'hq).toNat with
            | true => rfl
            | false => exact absurd (by rw [← M.by_is t pos hq]; exact (M.nl_isq _ ha).1 h) hnq
          have hnx : ∀ ty, (Instr.next (.pointer (some ⟨w.heap.size, 0, none⟩)) true ty).run Tryd.prog (w.iter t pos) = _ := fun ty => run_next_ascii w t pos ty hq ha
          clear hnq
          go_wp2_with (go_at_call 69; refine (notLetter_any _ _ ha).mono ?_; rintro e w' ⟨rfl, hw⟩; rw [hw, hn])
          go_ret
          exact ⟨ret_int HC.out.symm, iter_below w t _⟩
        · have hnx : ∀ ty, (Instr.next (.pointer (some ⟨w.heap.size, 0, none⟩)) true ty).run Tryd.prog (w.iter t pos) = _ := fun ty => run_next_any w t pos ty hq
          have h1 := (decode_high t pos hq (by omega)).1
          have h2 := Lib.rune_le t pos
          have HN := fun W => notLetter_high (Utf8.decode t pos).1 W h1 h2
          clear hnq
          generalize (Utf8.decode t pos).1 = Rn at *
          go_wp2_with fail
          refine (HN _).mono ?_
          rintro e w1 ⟨rfl, hb1⟩
          have hz : Below w.heap.size w w1 := (iter_below w t _).trans (hb1.mono (by have := (iter_below w t (pos + (Utf8.decode t pos).2)).size; exact this))
          go_wp2_with fail
          go_ret
          exact ⟨ret_int HC.out.symm, hz⟩
    · obtain rfl : pos = K := by omega
      have hnx : ∀ ty, (Instr.next (.pointer (some ⟨w.heap.size, 0, none⟩)) true ty).run Tryd.prog (w.iter t pos) = _ := fun ty => run_next_end w t pos ty hq
      have HC : Hid (V = -1) := by show _ = _; rw [HE.out, if_neg hq]
      clear HE HL
      go_wp2_with fail
      go_ret
      exact ⟨ret_int HC.out.symm, iter_below w t _⟩

theorem IndexFunc_ltr (t : ByteArray) (K : Nat) (w : World) (hl : M.Ltr t K) :
    Calls Tryd.prog 68 #[.string t, .func (.func 69) #[] #[]] w fun e w' => e = .returned (.int .i64 (M.endAt t K)) ∧ Below w.heap.size w w' := by
  go_enter Tryd.func68, Tryd.ntmps68
  go_wp2_with fail
  refine (indexFunc_ltr t K _ hl).mono ?_
  rintro e w1 ⟨rfl, hb1⟩
  go_wp2_with fail
  go_ret
  exact ⟨rfl, hb1⟩

/-- Letters and what is behind them. -/
theorem cutQuality_any (t : ByteArray) (K : Nat) (w : World) (hl : M.Ltr t K) (hs : t.size ≤ 140737488355328) :
    Calls Tryd.prog 50 #[.string t] w fun e w' => e = .returned (.tuple #[.string (t.extract 0 K), .string (t.extract K t.size)]) ∧ Below w.heap.size w w' := by
  have HI := fun w => IndexFunc_ltr t K w hl
  have hks := hl.ks
  by_cases hk : K < t.size
  · have e : M.endAt t K = (K : Int) := by unfold M.endAt; rw [if_pos hk]
    rw [e] at HI
    clear e hl
    have h1 : (0 : Int) ≤ K := by omega
    have h2 : (K : Int) ≤ t.size := by omega
    go_enter Tryd.func50, Tryd.ntmps50
    go_wp2_with fail
    refine (HI _).mono ?_
    rintro e w1 ⟨rfl, hb1⟩
    go_wp2_with fail
    go_region
    go_wp2
    go_returns
    exact ⟨by first | rfl | simp, hb1.drew⟩
  · have e : M.endAt t K = -1 := by unfold M.endAt; rw [if_neg hk]
    obtain rfl : K = t.size := by omega
    have e1 : t.extract 0 t.size = t := by simp
    have e2 : t.extract t.size t.size = ⟨#[]⟩ := by
      apply ByteArray.ext
      rw [ByteArray.data_extract]
      apply Array.ext'
      simp
    rw [e1, e2]
    rw [e] at HI
    clear e hl e1 e2
    go_enter Tryd.func50, Tryd.ntmps50
    go_wp2_with fail
    refine (HI _).mono ?_
    rintro e w1 ⟨rfl, hb1⟩
    go_wp2_with fail
    go_returns
    exact ⟨rfl, hb1⟩
end Go.Proofs.YtmccbokjigjpnaaDoor
