/- Name of both sides, at every interval, in one word. -/
import Derived.Test.YtmccbokjigjpnaaDoorQD5
import Derived.Test.YtmccbokjigjpnaaDoorQT1
import Derived.Laws.Runes
import Derived.WalkMore
namespace Go.Proofs.YtmccbokjigjpnaaDoor
open Go.RowKit
set_option linter.unusedVariables false
set_option linter.unusedSimpArgs false

/-- An interval that goes down. -/
def M.dw (s h : Int) : Prop := s < 0 ∨ (s = 0 ∧ h < 0)
/-- What Name answers. -/
def M.NmQ (s h : Int) (t : ByteArray) (E : Int) : Prop :=
  (E = 3 ∧ t = ⟨#[]⟩ ∧ (M.inb s h = false ∨ (M.dw s h ∧ 6 < M.un (-s) (-h)) ∨ (¬ M.dw s h ∧ 6 < M.un s h))) ∨
  (E = 0 ∧ M.inb s h = true ∧ ((M.dw s h ∧ M.un (-s) (-h) ≤ 6 ∧ t = M.ndn s h) ∨ (¬ M.dw s h ∧ M.un s h ≤ 6 ∧ t = M.nup s h)))
theorem M.nm_some (s h : Int) : ∃ t E, M.NmQ s h t E := by
  cases hi : M.inb s h
  · exact ⟨_, _, .inl ⟨rfl, rfl, .inl hi⟩⟩
  · by_cases hd : M.dw s h
    · by_cases hq : M.un (-s) (-h) ≤ 6
      · exact ⟨_, _, .inr ⟨rfl, hi, .inl ⟨hd, hq, rfl⟩⟩⟩
      · exact ⟨_, _, .inl ⟨rfl, rfl, .inr (.inl ⟨hd, by omega⟩)⟩⟩
    · by_cases hq : M.un s h ≤ 6
      · exact ⟨_, _, .inr ⟨rfl, hi, .inr ⟨hd, hq, rfl⟩⟩⟩
      · exact ⟨_, _, .inl ⟨rfl, rfl, .inr (.inr ⟨hd, by omega⟩)⟩⟩
theorem M.NmQ.one {s h : Int} {t t' : ByteArray} {E E' : Int} (a : M.NmQ s h t E) (b : M.NmQ s h t' E') : t = t' ∧ E = E' := by
  rcases a with ⟨rfl, rfl, ha⟩ | ⟨rfl, hi, ha⟩ <;> rcases b with ⟨rfl, rfl, hb⟩ | ⟨rfl, hj, hb⟩
  · exact ⟨rfl, rfl⟩
  · exfalso
    rcases ha with x | ⟨x, y⟩ | ⟨x, y⟩
    · rw [x] at hj; cases hj
    · rcases hb with ⟨u, v, _⟩ | ⟨u, v, _⟩
      · omega
      · exact u x
    · rcases hb with ⟨u, v, _⟩ | ⟨u, v, _⟩
      · exact x u
      · omega
  · exfalso
    rcases hb with x | ⟨x, y⟩ | ⟨x, y⟩
    · rw [x] at hi; cases hi
    · rcases ha with ⟨u, v, _⟩ | ⟨u, v, _⟩
      · omega
      · exact u x
    · rcases ha with ⟨u, v, _⟩ | ⟨u, v, _⟩
      · exact x u
      · omega
  · rcases ha with ⟨u, v, rfl⟩ | ⟨u, v, rfl⟩ <;> rcases hb with ⟨u', v', rfl⟩ | ⟨u', v', rfl⟩
    · exact ⟨rfl, rfl⟩
    · exact absurd u u'
    · exact absurd u' u
    · exact ⟨rfl, rfl⟩
theorem M.NmQ.err {s h : Int} {t : ByteArray} {E : Int} (a : M.NmQ s h t E) : E = 0 ∨ E = 3 := by
  rcases a with ⟨rfl, _⟩ | ⟨rfl, _⟩
  · exact .inr rfl
  · exact .inl rfl
theorem Name_any (s h : Int) (t : ByteArray) (E : Int) (w : World) (ht : Tab w) (hpw : Pows w) (hn : M.NmQ s h t E) :
    Calls Tryd.prog 19 #[.agg #[.int .i64 s, .int .i64 h]] w fun e w' => e = .returned (.tuple #[.string t, .int .i64 E]) ∧ Below w.heap.size w w' := by
  rcases hn with ⟨rfl, rfl, ha⟩ | ⟨rfl, hi, ha⟩
  · cases hi : M.inb s h
    · exact Name_range s h w hi
    · rcases ha with x | ⟨x, y⟩ | ⟨x, y⟩
      · rw [x] at hi; cases hi
      · exact Name_dnx s h w ht hpw hi x y
      · unfold M.dw at x; exact Name_upx s h w ht hpw hi (by omega) (by omega) y
  · rcases ha with ⟨u, v, rfl⟩ | ⟨u, v, rfl⟩
    · exact Name_dn s h w ht hpw hi u v
    · unfold M.dw at u; exact Name_up s h w ht hpw hi (by omega) (by omega) v
theorem refName_any (s h : Int) (t : ByteArray) (E : Int) (w : World) (b1 : -9223372036854775808 ≤ s) (b2 : s ≤ 9223372036854775807) (b3 : -9223372036854775808 ≤ h) (b4 : h ≤ 9223372036854775807) (hn : M.NmQ s h t E) :
    Calls Tryd.prog 20 #[.agg #[.int .i64 s, .int .i64 h]] w fun e w' => e = .returned (.tuple #[.string t, .int .i64 E]) ∧ Below w.heap.size w w' := by
  rcases hn with ⟨rfl, rfl, ha⟩ | ⟨rfl, hi, ha⟩
  · cases hi : M.inb s h
    · exact refName_range s h w hi
    · rcases ha with x | ⟨x, y⟩ | ⟨x, y⟩
      · rw [x] at hi; cases hi
      · exact refName_dnx s h w hi x y
      · unfold M.dw at x; exact refName_upx s h w hi (by omega) (by omega) y
  · rcases ha with ⟨u, v, rfl⟩ | ⟨u, v, rfl⟩
    · exact refName_dn s h w hi u v
    · unfold M.dw at u; exact refName_up s h w hi (by omega) (by omega) v
end Go.Proofs.YtmccbokjigjpnaaDoor
/- What the library's IndexRune comes to at the five letters and a rune that is none of ASCII's; what the program's cutQuality asks of a rune. -/
namespace Go.Proofs.YtmccbokjigjpnaaDoor
open Go.RowKit
set_option linter.unusedVariables false
set_option linter.unusedSimpArgs false

theorem ValidRune_any (r : Int) (w : World) (h1 : 128 ≤ r) (h2 : r ≤ 1114111) :
    Calls Tryd.prog 93 #[.int .i32 r] w fun e w' => e = .returned (.bool (decide (r < 55296 ∨ 57343 < r))) ∧ w' = w := by
  by_cases c1 : r < 55296
  · rw [decide_eq_true (Or.inl c1)]
    go_enter Tryd.func93, Tryd.ntmps93
    go_wp2_with fail
    go_ret
    exact ⟨rfl, rfl⟩
  · by_cases c2 : 57343 < r
    · rw [decide_eq_true (Or.inr c2)]
      go_enter Tryd.func93, Tryd.ntmps93
      go_wp2_with fail
      go_ret
      exact ⟨rfl, rfl⟩
    · rw [decide_eq_false (by omega)]
      go_enter Tryd.func93, Tryd.ntmps93
      go_wp2_with fail
      go_ret
      exact ⟨rfl, rfl⟩

theorem M.ix_none (l : List UInt8) (n : Nat) (hl : ∀ x ∈ l, x.toNat < 128) (h1 : 128 ≤ n) (h2 : n < 256) : Lib.indexByte l ((n : Int).toNat.toUInt8) = -1 := by
  induction l with
  | nil => rfl
  | cons b r ih =>
    have hb := hl b (by simp)
    have hne : (b == ((n : Int).toNat.toUInt8)) = false := by
      apply beq_false_of_ne
      intro e
      have : b.toNat = n := by rw [e]; simp; omega
      omega
    unfold Lib.indexByte
    rw [hne, ih (fun x hx => hl x (by simp [hx]))]
    rfl
/-- The five letters. -/
def M.b5 : Nat → Nat
  | 0 => 80
  | 1 => 77
  | 2 => 109
  | 3 => 65
  | _ => 100
set_option maxRecDepth 100000 in
set_option maxHeartbeats 2000000 in
theorem IndexRune_err (w : World) :
    Calls Tryd.prog 81 #[.string ⟨#[80, 77, 109, 65, 100]⟩, .int .i32 65533] w fun e w' => e = .returned (.int .i64 (-1)) ∧ Below w.heap.size w w' := by
  have hd : ∀ pos, pos < 5 → Utf8.decode ⟨#[80, 77, 109, 65, 100]⟩ pos = (M.b5 pos, 1) := by decide +kernel
  have hne : ∀ pos, pos < 5 → (((M.b5 pos : Nat) : Int) == 65533) = false := by decide +kernel
  go_enter Tryd.func81, Tryd.ntmps81
  go_wp2_with fail
  go_loopw [5] (fun n w' => ∃ pos : Nat, pos ≤ 5 ∧ w' = w.iter ⟨#[80, 77, 109, 65, 100]⟩ pos) (fun _ w' => 5 - w'.iterPos w.heap.size)
  case atStart => exact ⟨0, by omega, rfl⟩
  case round =>
    obtain ⟨pos, hp, rfl⟩ := hrel
    by_cases hq : pos < 5
    · have hnx : ∀ ty, (Instr.next (.pointer (some ⟨w.heap.size, 0, none⟩)) true ty).run Tryd.prog (w.iter ⟨#[80, 77, 109, 65, 100]⟩ pos) = _ := fun ty => run_next_any w ⟨#[80, 77, 109, 65, 100]⟩ pos ty hq
      have h1 := hd pos hq
      have h2 := hne pos hq
      rw [h1] at hnx
      clear hd hne h1
      generalize M.b5 pos = B at *
      go_wp2_with fail
      go_roundw
      case rel => exact ⟨pos + 1, by omega, rfl⟩
      case measure => simp; omega
    · obtain rfl : pos = 5 := by omega
      have hnx : ∀ ty, (Instr.next (.pointer (some ⟨w.heap.size, 0, none⟩)) true ty).run Tryd.prog (w.iter ⟨#[80, 77, 109, 65, 100]⟩ 5) = _ := fun ty => run_next_end w ⟨#[80, 77, 109, 65, 100]⟩ 5 ty (by decide)
      clear hd hne
      go_wp2_with fail
      go_ret
      exact ⟨rfl, iter_below w _ _⟩

set_option maxRecDepth 100000 in
set_option maxHeartbeats 2000000 in
theorem IndexRune_high (r : Int) (w : World) (h1 : 128 ≤ r) (h2 : r ≤ 1114111) (h3 : r ≠ 65533) :
    Calls Tryd.prog 81 #[.string ⟨#[80, 77, 109, 65, 100]⟩, .int .i32 r] w fun e w' => e = .returned (.int .i64 (-1)) ∧ Below w.heap.size w w' := by
  have h4 : (r == 65533) = false := by simpa using h3
  have hV := fun w => ValidRune_any r w h1 h2
  by_cases hv : r < 55296 ∨ 57343 < r
  · rw [decide_eq_true hv] at hV
    have hval : Utf8.valid r = true := by rw [validRune_eq]; unfold validRune; exact decide_eq_true (by omega)
    obtain ⟨z1, z2, z3⟩ := encode_facts r hval h1
    have hconv : ∀ W, (convert 21 9 (.int .i32 r)).run Tryd.prog W = .ok (.string (Utf8.encode r)) W := fun W => run_convert_int_string W 21 9 .i32 r (by kernel_rfl) Tryd.underlying9
    generalize hR : Utf8.encode r = R at *
    have hcs : ∃ k : Nat, R.size = k + 1 ∧ 1 ≤ k ∧ k ≤ 3 := ⟨R.size - 1, by omega, by omega, by omega⟩
    obtain ⟨k, hk, hk1, hk2⟩ := hcs
    have hkl : k < R.size := by omega
    obtain ⟨B, hB⟩ : ∃ B, R[k]'hkl = B := ⟨_, rfl⟩
    have hB2 : 128 ≤ B.toNat := by
      have := z3 (by omega)
      rw [← hB]
      have e : R.size - 1 = k := by omega
      simp only [e] at this
      exact this
    obtain ⟨Bn, hBn⟩ : ∃ Bn : Nat, B.toNat = Bn := ⟨_, rfl⟩
    have hB3 : (R[k]'hkl).toNat = Bn := by rw [hB, hBn]
    rw [hBn] at hB2
    have hBu : Bn < 256 := by rw [← hBn]; exact B.toNat_lt
    have hx1 : ((⟨#[80, 77, 109, 65, 100]⟩ : ByteArray)[1]'(by decide)).toNat = 77 := rfl
    have hx2 : ((⟨#[80, 77, 109, 65, 100]⟩ : ByteArray)[2]'(by decide)).toNat = 109 := rfl
    have hx3 : ((⟨#[80, 77, 109, 65, 100]⟩ : ByteArray)[3]'(by decide)).toNat = 65 := rfl
    have hp2 : ∀ x ∈ ((⟨#[80, 77, 109, 65, 100]⟩ : ByteArray).extract 2 5).data.toList, x.toNat < 128 := by decide +kernel
    have hp3 : ∀ x ∈ ((⟨#[80, 77, 109, 65, 100]⟩ : ByteArray).extract 3 5).data.toList, x.toNat < 128 := by decide +kernel
    have hp4 : ∀ x ∈ ((⟨#[80, 77, 109, 65, 100]⟩ : ByteArray).extract 4 5).data.toList, x.toNat < 128 := by decide +kernel
    have c1 : ((77 : Int) != (Bn : Int)) = true := by simp; omega
    have c2 : ((109 : Int) != (Bn : Int)) = true := by simp; omega
    have c3 : ((65 : Int) != (Bn : Int)) = true := by simp; omega
    have HI : ∀ (l : ByteArray) (W : World), (∀ x ∈ l.data.toList, x.toNat < 128) → Calls Tryd.prog 44 #[.string l, .int .u8 Bn] W fun e w' => e = .returned (.int .i64 (-1)) ∧ w' = W := fun l W hl =>
      (Tryd.strings_IndexByte l Bn W).mono fun e w' ⟨a, b⟩ => ⟨by rw [a, M.ix_none l.data.toList Bn hl hB2 hBu], b⟩
    clear z3 hval hv h3 hB hBn B
    have hsz : (R.size : Int) = k + 1 := by omega
    rcases (show k = 1 ∨ k = 2 ∨ k = 3 by omega) with rfl | rfl | rfl
    · go_enter Tryd.func81, Tryd.ntmps81
      go_wp2_with (first | (go_at_call 93; refine (hV _).mono ?_; rintro e w' ⟨rfl, hw⟩; rw [hw]))
      go_step3
      go_wp2_with fail
      go_loopw [9, 10] (fun i f wr => i = .int .i64 1 ∧ f = .int .i64 0 ∧ wr = w) (fun _ _ _ => 0)
      case atStart => exact ⟨by first | rfl | go_num, rfl, rfl⟩
      case round =>
        obtain ⟨rfl, rfl, rfl⟩ := hrel
        go_wp2_with fail
        go_step3
        go_wp2_with fail
        go_quiet (fail)
        go_wp2_with fail
        go_quiet (first | (go_at_call 44; first | exact (HI _ _ hp2).mono fun _ _ ⟨he, hm⟩ => ⟨he, _, hm⟩ | exact (HI _ _ hp3).mono fun _ _ ⟨he, hm⟩ => ⟨he, _, hm⟩ | exact (HI _ _ hp4).mono fun _ _ ⟨he, hm⟩ => ⟨he, _, hm⟩))
        go_wp2_with fail
        first | rw [Exit.noGoto_ret] | skip
        simp +zetaDelta only [Exit.inBlock, Exit.then, Exit.noGoto]
        go_ret
        exact ⟨rfl, ⟨rfl, rfl, rfl, Nat.le_refl _, fun _ _ => rfl⟩⟩
    · go_enter Tryd.func81, Tryd.ntmps81
      go_wp2_with (first | (go_at_call 93; refine (hV _).mono ?_; rintro e w' ⟨rfl, hw⟩; rw [hw]))
      go_step3
      go_wp2_with fail
      go_loopw [9, 10] (fun i f wr => i = .int .i64 2 ∧ f = .int .i64 0 ∧ wr = w) (fun _ _ _ => 0)
      case atStart => exact ⟨by first | rfl | go_num, rfl, rfl⟩
      case round =>
        obtain ⟨rfl, rfl, rfl⟩ := hrel
        go_wp2_with fail
        go_step3
        go_wp2_with fail
        go_quiet (fail)
        go_wp2_with fail
        go_quiet (first | (go_at_call 44; first | exact (HI _ _ hp2).mono fun _ _ ⟨he, hm⟩ => ⟨he, _, hm⟩ | exact (HI _ _ hp3).mono fun _ _ ⟨he, hm⟩ => ⟨he, _, hm⟩ | exact (HI _ _ hp4).mono fun _ _ ⟨he, hm⟩ => ⟨he, _, hm⟩))
        go_wp2_with fail
        first | rw [Exit.noGoto_ret] | skip
        simp +zetaDelta only [Exit.inBlock, Exit.then, Exit.noGoto]
        go_ret
        exact ⟨rfl, ⟨rfl, rfl, rfl, Nat.le_refl _, fun _ _ => rfl⟩⟩
    · go_enter Tryd.func81, Tryd.ntmps81
      go_wp2_with (first | (go_at_call 93; refine (hV _).mono ?_; rintro e w' ⟨rfl, hw⟩; rw [hw]))
      go_step3
      go_wp2_with fail
      go_loopw [9, 10] (fun i f wr => i = .int .i64 3 ∧ f = .int .i64 0 ∧ wr = w) (fun _ _ _ => 0)
      case atStart => exact ⟨by first | rfl | go_num, rfl, rfl⟩
      case round =>
        obtain ⟨rfl, rfl, rfl⟩ := hrel
        go_wp2_with fail
        go_step3
        go_wp2_with fail
        go_quiet (fail)
        go_wp2_with fail
        go_quiet (first | (go_at_call 44; first | exact (HI _ _ hp2).mono fun _ _ ⟨he, hm⟩ => ⟨he, _, hm⟩ | exact (HI _ _ hp3).mono fun _ _ ⟨he, hm⟩ => ⟨he, _, hm⟩ | exact (HI _ _ hp4).mono fun _ _ ⟨he, hm⟩ => ⟨he, _, hm⟩))
        go_wp2_with fail
        first | rw [Exit.noGoto_ret] | skip
        simp +zetaDelta only [Exit.inBlock, Exit.then, Exit.noGoto]
        go_ret
        exact ⟨rfl, ⟨rfl, rfl, rfl, Nat.le_refl _, fun _ _ => rfl⟩⟩
  · rw [decide_eq_false hv] at hV
    go_enter Tryd.func81, Tryd.ntmps81
    go_wp2_with (first | (go_at_call 93; refine (hV _).mono ?_; rintro e w' ⟨rfl, hw⟩; rw [hw]))
    go_ret
    exact ⟨rfl, Below.refl _ _⟩
end Go.Proofs.YtmccbokjigjpnaaDoor
