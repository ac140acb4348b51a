/- What the program's cutQuality comes to, at every text. -/
import Derived.Test.YtmccbokjigjpnaaDoorQN12
import Derived.Test.YtmccbokjigjpnaaDoorQT8
import Derived.Test.YtmccbokjigjpnaaDoorQD16
import Derived.Test.YtmccbokjigjpnaaDoorQT10
namespace Go.Proofs.YtmccbokjigjpnaaDoor
open Go.RowKit Go.Lib
set_option linter.unusedVariables false
set_option linter.unusedSimpArgs false

theorem M.nl_isq : ∀ r, r < 128 → (M.nl r = false ↔ (r = 80 ∨ r = 77 ∨ r = 109 ∨ r = 65 ∨ r = 100)) := by decide +kernel

theorem IndexRune_none (r : Nat) (w : World) (h1 : 128 ≤ r) (h2 : r ≤ 1114111) :
    Calls Tryd.prog 81 #[.string ⟨#[80, 77, 109, 65, 100]⟩, .int .i32 r] w fun e w' => e = .returned (.int .i64 (-1)) ∧ Below w.heap.size w w' := by
  by_cases e : r = 65533
  · subst e; exact IndexRune_err w
  · exact IndexRune_high r w (by omega) (by omega) (by omega)
theorem ContainsRune_none (r : Nat) (w : World) (h1 : 128 ≤ r) (h2 : r ≤ 1114111) :
    Calls Tryd.prog 70 #[.string ⟨#[80, 77, 109, 65, 100]⟩, .int .i32 r] w fun e w' => e = .returned (.bool false) ∧ Below w.heap.size w w' := by
  go_enter Tryd.func70, Tryd.ntmps70
  go_wp2_with fail
  refine (IndexRune_none r _ h1 h2).mono ?_
  rintro e w1 ⟨rfl, hb1⟩
  go_wp2_with fail
  go_ret
  exact ⟨rfl, hb1⟩
theorem notLetter_high (r : Nat) (w : World) (h1 : 128 ≤ r) (h2 : r ≤ 1114111) :
    Calls Tryd.prog 69 #[.int .i32 r] w fun e w' => e = .returned (.bool true) ∧ Below w.heap.size w w' := by
  go_enter Tryd.func69, Tryd.ntmps69
  go_wp2_with fail
  refine (ContainsRune_none r _ h1 h2).mono ?_
  rintro e w1 ⟨rfl, hb1⟩
  go_wp2_with fail
  go_ret
  exact ⟨rfl, hb1⟩

/-- The letters that a text begins with: K of them. -/
structure M.Ltr (t : ByteArray) (K : Nat) : Prop where
  ks : K ≤ t.size
  q : ∀ j, j < K → M.isq (M.by t j)
  e : K < t.size → ¬ M.isq (M.by t K)
/-- Where the letters end, as the library tells it. -/
def M.endAt (t : ByteArray) (K : Nat) : Int := if K < t.size then (K : Int) else -1

set_option maxRecDepth 100000 in
set_option maxHeartbeats 2000000 in
theorem indexFunc_ltr (t : ByteArray) (K : Nat) (w : World) (hl : M.Ltr t K) :
    Calls Tryd.prog 80 #[.string t, .func (.func 69) #[] #[], .bool true] w fun e w' => e = .returned (.int .i64 (M.endAt t K)) ∧ Below w.heap.size w w' := by
  have eg : ∀ args w, (callFunc 69 args).run Tryd.prog w = .ok (.enter 69 args) w := fun args w => by kernel_rfl
  have HL : Hid (M.Ltr t K) := hl
  have hks := hl.ks
  have HE : Hid (M.endAt t K = if K < t.size then (K : Int) else -1) := rfl
  generalize M.endAt t K = V at *
  clear hl
  go_enter Tryd.func80, Tryd.ntmps80
  go_wp2_with fail
  go_loopw [] (fun w' => ∃ (pos : Nat), w' = w.iter t pos ∧ pos ≤ K) (fun w' => t.size - w'.iterPos w.heap.size)
  case atStart => exact ⟨0, rfl, by omega⟩
  case round =>
    obtain ⟨pos, rfl, hpk⟩ := hrel
    by_cases hq : pos < t.size
    · by_cases hlt : pos < K
      · have hisq := HL.out.q pos hlt
        rw [← M.by_is t pos hq] at hisq
        have ha : (t[pos]'hq).toNat < 128 := by unfold M.isq at hisq; omega
        have hn : M.nl (t[pos]'hq).toNat = false := (M.nl_isq _ ha).2 hisq
        have hnx : ∀ ty, (Instr.next (.pointer (some ⟨w.heap.size, 0, none⟩)) true ty).run Tryd.prog (w.iter t pos) = _ := fun ty => run_next_ascii w t pos ty hq ha
        clear hisq
        go_wp2_with (go_at_call 69; refine (notLetter_any _ _ ha).mono ?_; rintro e w' ⟨rfl, hw⟩; rw [hw, hn])
        go_roundw
        case rel => exact ⟨pos + 1, rfl, by omega⟩
        case measure =>
          simp
          omega
      · obtain rfl : pos = K := by omega
        have hnq := HL.out.e hq
        have HC : Hid (V = (pos : Int)) := by show _ = _; rw [HE.out, if_pos hq]
        clear HE HL
        by_cases ha : (t[pos]'hq).toNat < 128
        · have hn : M.nl (t[pos]'hq).toNat = true := by
            cases h : M.nl (t[pos]'hq).toNat with
            | true => rfl
            | false => exact absurd (by rw [← M.by_is t pos hq]; exact (M.nl_isq _ ha).1 h) hnq
          have hnx : ∀ ty, (Instr.next (.pointer (some ⟨w.heap.size, 0, none⟩)) true ty).run Tryd.prog (w.iter t pos) = _ := fun ty => run_next_ascii w t pos ty hq ha
          clear hnq
          go_wp2_with (go_at_call 69; refine (notLetter_any _ _ ha).mono ?_; rintro e w' ⟨rfl, hw⟩; rw [hw, hn])
          go_ret
          exact ⟨ret_int HC.out.symm, iter_below w t _⟩
        · have hnx : ∀ ty, (Instr.next (.pointer (some ⟨w.heap.size, 0, none⟩)) true ty).run Tryd.prog (w.iter t pos) = _ := fun ty => run_next_any w t pos ty hq
          have h1 := (decode_high t pos hq (by omega)).1
          have h2 := Lib.rune_le t pos
          have HN := fun W => notLetter_high (Utf8.decode t pos).1 W h1 h2
          clear hnq
          generalize (Utf8.decode t pos).1 = Rn at *
          go_wp2_with fail
          refine (HN _).mono ?_
          rintro e w1 ⟨rfl, hb1⟩
          have hz : Below w.heap.size w w1 := (iter_below w t _).trans (hb1.mono (by have := (iter_below w t (pos + (Utf8.decode t pos).2)).size; exact this))
          go_wp2_with fail
          go_ret
          exact ⟨ret_int HC.out.symm, hz⟩
    · obtain rfl : pos = K := by omega
      have hnx : ∀ ty, (Instr.next (.pointer (some ⟨w.heap.size, 0, none⟩)) true ty).run Tryd.prog (w.iter t pos) = _ := fun ty => run_next_end w t pos ty hq
      have HC : Hid (V = -1) := by show _ = _; rw [HE.out, if_neg hq]
      clear HE HL
      go_wp2_with fail
      go_ret
      exact ⟨ret_int HC.out.symm, iter_below w t _⟩

theorem IndexFunc_ltr (t : ByteArray) (K : Nat) (w : World) (hl : M.Ltr t K) :
    Calls Tryd.prog 68 #[.string t, .func (.func 69) #[] #[]] w fun e w' => e = .returned (.int .i64 (M.endAt t K)) ∧ Below w.heap.size w w' := by
  go_enter Tryd.func68, Tryd.ntmps68
  go_wp2_with fail
  refine (indexFunc_ltr t K _ hl).mono ?_
  rintro e w1 ⟨rfl, hb1⟩
  go_wp2_with fail
  go_ret
  exact ⟨rfl, hb1⟩

/-- Letters and what is behind them. -/
theorem cutQuality_any (t : ByteArray) (K : Nat) (w : World) (hl : M.Ltr t K) (hs : t.size ≤ 140737488355328) :
    Calls Tryd.prog 50 #[.string t] w fun e w' => e = .returned (.tuple #[.string (t.extract 0 K), .string (t.extract K t.size)]) ∧ Below w.heap.size w w' := by
  have HI := fun w => IndexFunc_ltr t K w hl
  have hks := hl.ks
  by_cases hk : K < t.size
  · have e : M.endAt t K = (K : Int) := by unfold M.endAt; rw [if_pos hk]
    rw [e] at HI
    clear e hl
    have h1 : (0 : Int) ≤ K := by omega
    have h2 : (K : Int) ≤ t.size := by omega
    go_enter Tryd.func50, Tryd.ntmps50
    go_wp2_with fail
    refine (HI _).mono ?_
    rintro e w1 ⟨rfl, hb1⟩
    go_wp2_with fail
    go_region
    go_wp2
    go_returns
    exact ⟨by first | rfl | simp, hb1.drew⟩
  · have e : M.endAt t K = -1 := by unfold M.endAt; rw [if_neg hk]
    obtain rfl : K = t.size := by omega
    have e1 : t.extract 0 t.size = t := by simp
    have e2 : t.extract t.size t.size = ⟨#[]⟩ := by
      apply ByteArray.ext
      rw [ByteArray.data_extract]
      apply Array.ext'
      simp
    rw [e1, e2]
    rw [e] at HI
    clear e hl e1 e2
    go_enter Tryd.func50, Tryd.ntmps50
    go_wp2_with fail
    refine (HI _).mono ?_
    rintro e w1 ⟨rfl, hb1⟩
    go_wp2_with fail
    go_returns
    exact ⟨rfl, hb1⟩
end Go.Proofs.YtmccbokjigjpnaaDoor
/- Plain facts on names: a text has one interval at most whose name it is, and its letters tell it. -/
namespace Go.Proofs.YtmccbokjigjpnaaDoor
open Go.RowKit Go.Lib
set_option linter.unusedVariables false
set_option linter.unusedSimpArgs false

theorem M.lets_pre {s : ByteArray} {F E : Nat} (h : M.Lets s F E) : Lib.hasPrefix s.data.toList [45] = decide (F = 1) := by
  rw [← h.sg]
  have h1 := M.sts_iff s 0 [45] (by simp)
  have h2 : (⟨[45].toArray⟩ : ByteArray) = ⟨#[45]⟩ := rfl
  rw [h2, M.stl_take] at h1
  unfold Lib.hasPrefix
  cases hb : M.sts s 0 ⟨#[45]⟩ with
  | true =>
    rcases h1.1 hb with ⟨a, b⟩ | b
    · cases hd : s.data.toList with
      | nil => rw [hd] at b; simp at b
      | cons x r => rw [hd] at b; simp at b; simp [b]
    · simp at b
  | false =>
    cases hd : s.data.toList with
    | nil => rfl
    | cons x r =>
      have : ¬ x = 45 := fun e => by
        have := h1.2 (.inl ⟨by have := M.len_data s; rw [hd] at this; simp at this; simp; omega, by rw [hd, e]; simp⟩)
        rw [hb] at this; cases this
      show ((45 : UInt8) == x && [].isPrefixOf r) = false
      rw [beq_false_of_ne (fun e => this e.symm)]
      rfl
theorem M.lets_cut {s : ByteArray} {F E : Nat} (h : M.Lets s F E) : Lib.trimPrefix s.data.toList [45] = (s.extract F s.size).data.toList := by
  have h1 := M.lets_pre h
  have h2 := h.f1
  have hz := M.len_data s
  unfold Lib.trimPrefix
  rw [h1]
  rcases (show F = 0 ∨ F = 1 by omega) with rfl | rfl
  · simp [ByteArray.data_extract]
  · have := M.ext_list s 1 (s.size - 1)
    have h3 : 1 ≤ s.size := by have := h.fe; have := h.es; omega
    rw [show 1 + (s.size - 1) = s.size by omega] at this
    rw [this]
    simp
    rw [List.take_of_length_le (by simp)]
theorem M.by_ext (s : ByteArray) (F j : Nat) (hj : F + j < s.size) : M.by (s.extract F s.size) j = M.by s (F + j) := by
  unfold M.by
  have := M.ext_list s F (s.size - F)
  rw [show F + (s.size - F) = s.size by omega] at this
  rw [this, List.take_of_length_le (by simp)]
  simp [List.getD_eq_getElem?_getD, List.getElem?_drop]
theorem M.lets_ltr {s : ByteArray} {F E : Nat} (h : M.Lets s F E) : M.Ltr (s.extract F s.size) (E - F) := by
  have h1 := h.fe
  have h2 := h.es
  have hz : (s.extract F s.size).size = s.size - F := by rw [ByteArray.size_extract]; omega
  refine ⟨by omega, fun j hj => ?_, fun hk => ?_⟩
  · rw [M.by_ext s F j (by omega)]; exact h.q (F + j) (by omega) (by omega)
  · rw [M.by_ext s F (E - F) (by omega), show F + (E - F) = E by omega]; exact h.e (by omega)
theorem M.lets_rest {s : ByteArray} {F E : Nat} (h : M.Lets s F E) : (s.extract F s.size).extract (E - F) (s.extract F s.size).size = s.extract E s.size := by
  have h1 := h.fe
  have h2 := h.es
  have hz : (s.extract F s.size).size = s.size - F := by rw [ByteArray.size_extract]; omega
  apply ByteArray.ext
  rw [hz]
  simp only [ByteArray.data_extract]
  apply Array.ext'
  simp
  rw [show F + (E - F) = E by omega, show F + (s.size - F) = s.size by omega]
  simp
theorem M.Ltr.one {t : ByteArray} {K L : Nat} (a : M.Ltr t K) (b : M.Ltr t L) : K = L := by
  have := a.ks
  have := b.ks
  rcases Nat.lt_trichotomy K L with h | h | h
  · exact absurd (b.q K h) (a.e (by omega))
  · exact h
  · exact absurd (a.q L h) (b.e (by omega))
theorem M.idx_ltr (t : ByteArray) (ha : ∀ i (h : i < t.size), (t[i]'h).toNat < 128) (k : Nat) : ∀ (b pos : Nat), Lib.idxFuncFrom M.nl true t b pos = (k : Int) → pos ≤ k ∧ k < t.size ∧ (∀ j, pos ≤ j → j < k → M.isq (M.by t j)) ∧ ¬ M.isq (M.by t k)
  | 0, pos, h => by unfold Lib.idxFuncFrom at h; omega
  | b + 1, pos, h => by
    unfold Lib.idxFuncFrom at h
    by_cases hq : pos < t.size
    · rw [if_pos hq, decode_ascii t pos hq (ha pos hq)] at h
      simp only at h
      by_cases hn : M.nl (t[pos]'hq).toNat = true
      · rw [if_pos hn] at h
        obtain rfl : pos = k := by omega
        refine ⟨Nat.le_refl _, hq, fun j a b => by omega, fun hh => ?_⟩
        rw [← M.by_is t pos hq] at hh
        have := (M.nl_isq _ (ha pos hq)).2 hh
        rw [hn] at this; cases this
      · rw [if_neg hn] at h
        obtain ⟨g1, g2, g3, g4⟩ := M.idx_ltr t ha k b (pos + 1) h
        refine ⟨by omega, g2, fun j a c => ?_, g4⟩
        by_cases e : j = pos
        · subst e
          rw [← M.by_is t j hq]
          exact (M.nl_isq _ (ha j hq)).1 (by simpa using hn)
        · exact g3 j (by omega) c
    · rw [if_neg hq] at h; omega
/-- What letters and steps tell. -/
def M.hz (c : UInt8) (n S : Int) : Int := if c = 65 then M.wh S + n else if c = 109 then M.wh S - 1 else if c = 100 then (if M.pf S = true then M.wh S - n else M.wh S - n - 1) else M.wh S
theorem M.name_parts {s : ByteArray} {F E : Nat} (hl : M.Lets s F E) {body q r d : ByteArray} {neg : Bool} {c : UInt8} {k : Nat} {S H : Int} (hx : IsName s body q r d neg c k S H) :
    neg = decide (F = 1) ∧ E - F = k ∧ q = (s.extract F s.size).extract 0 (E - F) ∧ H = M.hz c k S := by
  have h1 := M.lets_pre hl
  have h2 := M.lets_cut hl
  have hb : body = s.extract F s.size := by
    apply ByteArray.ext
    apply Array.ext'
    rw [← hx.cut, ← h2]
  subst hb
  obtain ⟨g1, g2, g3, g4⟩ := M.idx_ltr _ hx.plain k _ 0 hx.idx
  have hk := (M.lets_ltr hl).one ⟨by omega, fun j hj => g3 j (by omega) hj, fun _ => g4⟩
  exact ⟨by rw [← hx.pre, h1], hk, by rw [hk]; exact hx.letters.symm, hx.size⟩
theorem M.un_bd {S h : Int} (hq : M.un S h ≤ 6) : -7 ≤ h - M.wh S ∧ h - M.wh S ≤ 6 := by
  unfold M.un M.qn at hq
  repeat' split at hq
  all_goals omega
/-- The interval that goes the way of the sign. -/
def M.sg' (F : Nat) (x : Int) : Int := if F = 1 then -x else x
/-- If s is the name of an interval of S steps, its half tones are told by its letters. -/
theorem M.named_one {s : ByteArray} {F E : Nat} (hl : M.Lets s F E) {S h : Int} (s1 : 0 ≤ S) (s2 : S ≤ 200) (hn : M.NmQ (M.sg' F S) (M.sg' F h) s 0) :
    -7 ≤ h - M.wh S ∧ h - M.wh S ≤ 6 ∧ ∀ h0 : 0 < ((s.extract F s.size).extract 0 (E - F)).size, h = M.hz (((s.extract F s.size).extract 0 (E - F))[0]'h0) (((s.extract F s.size).extract 0 (E - F)).size : Int) S := by
  have fin : ∀ {body q r d : ByteArray} {c : UInt8} {k : Nat} {neg : Bool}, M.un S h ≤ 6 → IsName s body q r d neg c k S h → -7 ≤ h - M.wh S ∧ h - M.wh S ≤ 6 ∧ ∀ h0 : 0 < ((s.extract F s.size).extract 0 (E - F)).size, h = M.hz (((s.extract F s.size).extract 0 (E - F))[0]'h0) (((s.extract F s.size).extract 0 (E - F)).size : Int) S := by
    intro body q r d c k neg hq hx
    obtain ⟨a1, a2, a3, a4⟩ := M.name_parts hl hx
    obtain ⟨b1, b2⟩ := M.un_bd hq
    refine ⟨b1, b2, fun h0 => ?_⟩
    have m1 := hx.many
    have m2 := hx.first
    subst a3
    rw [m1, m2]
    exact a4
  have hf := hl.f1
  rcases hn with ⟨h3, _⟩ | ⟨_, hi, ha⟩
  · omega
  · rcases (show F = 0 ∨ F = 1 by omega) with rfl | rfl
    · have e1 : ∀ x, M.sg' 0 x = x := fun x => by unfold M.sg'; rw [if_neg (by omega)]
      rw [e1, e1] at hi ha
      rcases ha with ⟨u, v, rfl⟩ | ⟨u, v, rfl⟩
      · exfalso
        unfold M.dw at u
        have := (M.name_parts hl (isName_dn S h hi (by omega) v)).1
        simp at this
      · exact fin v (isName_up S h hi s1 v)
    · have e1 : ∀ x, M.sg' 1 x = -x := fun x => by unfold M.sg'; rw [if_pos rfl]
      rw [e1, e1] at hi ha
      rcases ha with ⟨u, v, rfl⟩ | ⟨u, v, rfl⟩
      · have hx := isName_dn (-S) (-h) hi (by omega) v
        simp only [Int.neg_neg] at hx v
        exact fin v hx
      · exfalso
        unfold M.dw at u
        have := (M.name_parts hl (isName_up (-S) (-h) hi (by omega) v)).1
        simp at this

/-- What Named answers. -/
def NamedR (s : ByteArray) (F E : Nat) (e : Ending) : Prop :=
  ((E = F ∨ M.isN (s.extract E s.size) = false ∨ M.valN (s.extract E s.size) < 1) ∧ e = .returned (.tuple #[.agg #[.int .i64 0, .int .i64 0], .int .i64 2])) ∨
  (¬ (E = F ∨ M.isN (s.extract E s.size) = false ∨ M.valN (s.extract E s.size) < 1) ∧ (201 < M.valN (s.extract E s.size) ∨ 6 < E - F) ∧ e = .returned (.tuple #[.agg #[.int .i64 0, .int .i64 0], .int .i64 3])) ∨
  (¬ (E = F ∨ M.isN (s.extract E s.size) = false ∨ M.valN (s.extract E s.size) < 1) ∧ ¬ (201 < M.valN (s.extract E s.size) ∨ 6 < E - F) ∧
    ((∃ h, M.NmQ (M.sg' F (M.valN (s.extract E s.size) - 1)) (M.sg' F h) s 0 ∧ e = .returned (.tuple #[.agg #[.int .i64 (M.sg' F (M.valN (s.extract E s.size) - 1)), .int .i64 (M.sg' F h)], .int .i64 0])) ∨
     ((∀ h, ¬ M.NmQ (M.sg' F (M.valN (s.extract E s.size) - 1)) (M.sg' F h) s 0) ∧ e = .returned (.tuple #[.agg #[.int .i64 0, .int .i64 0], .int .i64 2]))))
theorem NamedR.form {s : ByteArray} {F E : Nat} {e : Ending} (h : NamedR s F E e) : ∃ x y z : Int, e = .returned (.tuple #[.agg #[.int .i64 x, .int .i64 y], .int .i64 z]) := by
  rcases h with ⟨_, rfl⟩ | ⟨_, _, rfl⟩ | ⟨_, _, (⟨h, _, rfl⟩ | ⟨_, rfl⟩)⟩ <;> exact ⟨_, _, _, rfl⟩
theorem NamedR.one {s : ByteArray} {F E : Nat} {e e' : Ending} (hl : M.Lets s F E) (a : NamedR s F E e) (b : NamedR s F E e') : e = e' := by
  rcases a with ⟨a1, rfl⟩ | ⟨a1, a2, rfl⟩ | ⟨a1, a2, a3⟩ <;> rcases b with ⟨b1, rfl⟩ | ⟨b1, b2, rfl⟩ | ⟨b1, b2, b3⟩
  · rfl
  · exact absurd a1 b1
  · exact absurd a1 b1
  · exact absurd b1 a1
  · rfl
  · exact absurd a2 b2
  · exact absurd b1 a1
  · exact absurd b2 a2
  · rcases a3 with ⟨h, x, rfl⟩ | ⟨x, rfl⟩ <;> rcases b3 with ⟨h', x', rfl⟩ | ⟨x', rfl⟩
    · have hq : 0 < ((s.extract F s.size).extract 0 (E - F)).size := by
        have := hl.fe; have := hl.es
        rw [ByteArray.size_extract, ByteArray.size_extract]; omega
      have hS : 0 ≤ M.valN (s.extract E s.size) - 1 ∧ M.valN (s.extract E s.size) - 1 ≤ 200 := by omega
      have e1 := (M.named_one hl hS.1 hS.2 x).2.2 hq
      have e2 := (M.named_one hl hS.1 hS.2 x').2.2 hq
      rw [e1, e2]
    · exact absurd x (x' h)
    · exact absurd x' (x h')
    · rfl
end Go.Proofs.YtmccbokjigjpnaaDoor
