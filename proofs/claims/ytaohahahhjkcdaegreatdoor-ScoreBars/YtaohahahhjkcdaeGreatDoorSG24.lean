/- What the program asks of an item by itself: share, lyric, chord. -/
import Derived.Test.YtaohahahhjkcdaeGreatDoorSG22
import Derived.Test.YtaohahahhjkcdaeGreatDoorSG11
import Derived.LoopTactic
namespace Go.Proofs.YtaohahahhjkcdaeGreatDoor.G
open Go.RowKit
set_option linter.unusedVariables false
set_option linter.unusedSimpArgs false

theorem isE_no {q : ByteArray} (b1 : 0 < q.size) : q.toList.isEmpty = false := by
  rw [ByteArray.toList_eq]
  cases hc : q.data.toList with
  | nil => exact absurd b1 (by rw [Lib.size_eq, hc]; decide)
  | cons x r => rfl
theorem isE_yes {q : ByteArray} (b1 : q.size = 0) : q.toList.isEmpty = true := by
  rw [ByteArray.toList_eq]
  cases hc : q.data.toList with
  | nil => rfl
  | cons x r => exact absurd b1 (by rw [Lib.size_eq, hc]; simp)
/-- The two tables of the decoder lie where the program lays them. -/
structure UT (w : World) : Prop where
  s5 : 3 < w.heap.size
  s6 : 4 < w.heap.size
  t : Lib.Utf8Tabs 3 4 w
theorem UT.step {w w' : World} (h : UT w) (hb : Below w.heap.size w w') : UT w' :=
  ⟨Nat.lt_of_lt_of_le h.s5 hb.size, Nat.lt_of_lt_of_le h.s6 hb.size, fun c hc => F.keepC hb h.s5 (h.t.1 c hc), fun i hi => ⟨F.keepC hb h.s6 (h.t.2 i hi).1, F.keepC hb h.s6 (h.t.2 i hi).2⟩⟩

theorem isShare_yes (n : Int) (w : World) (h1 : 1 ≤ n) (h2 : n ≤ 65536) :
    Calls Tryz.prog 29 #[.int .i64 n] w fun e w' => e = .returned (.bool true) ∧ w' = w := by
  go_enter Tryz.func29, Tryz.ntmps29
  go_wp2_with fail
  go_ret
  exact ⟨rfl, rfl⟩
theorem isShare_no (n : Int) (w : World) (h : n < 1 ∨ 65536 < n) :
    Calls Tryz.prog 29 #[.int .i64 n] w fun e w' => e = .returned (.bool false) ∧ w' = w := by
  by_cases h1 : n < 1
  case' neg => have h2 : decide (n ≤ 65536) = false := by simp; omega
  all_goals
    go_enter Tryz.func29, Tryz.ntmps29
    go_wp2_with fail
    go_ret
    exact ⟨rfl, rfl⟩

theorem isSung_any (r : Nat) (w : World) :
    Calls Tryz.prog 97 #[.int .i32 r] w fun e w' => e = .returned (.bool (decide (32 ≤ r ∧ r ≠ 34 ∧ r ≠ 127))) ∧ w' = w := by
  by_cases c1 : 32 ≤ r
  · have d1 : (32 : Int) ≤ r := by omega
    by_cases c2 : r = 34
    · subst c2
      go_enter Tryz.func97, Tryz.ntmps97
      go_wp2_with fail
      go_ret
      exact ⟨rfl, rfl⟩
    · have d2 : ((r : Int) != 34) = true := by simp; omega
      by_cases c3 : r = 127
      · subst c3
        go_enter Tryz.func97, Tryz.ntmps97
        go_wp2_with fail
        go_ret
        exact ⟨rfl, rfl⟩
      · have d3 : ((r : Int) != 127) = true := by simp; omega
        rw [decide_eq_true ⟨c1, c2, c3⟩]
        clear c2 c3
        go_enter Tryz.func97, Tryz.ntmps97
        go_wp2_with fail
        go_ret
        exact ⟨by simp [d2, d3], rfl⟩
  · rw [decide_eq_false (by omega)]
    have d1 : ¬ (32 : Int) ≤ r := by omega
    have d2 : decide (32 ≤ r) = false := by simp; omega
    go_enter Tryz.func97, Tryz.ntmps97
    go_wp2_with fail
    go_ret
    exact ⟨by simp [d2], rfl⟩
end Go.Proofs.YtaohahahhjkcdaeGreatDoor.G

/- What the program asks of an item by itself: what may be sung; chords; kids. -/
namespace Go.Proofs.YtaohahahhjkcdaeGreatDoor.G
open Go.RowKit
set_option linter.unusedVariables false
set_option linter.unusedSimpArgs false

set_option maxHeartbeats 1000000 in
theorem sungSize_any (s : ByteArray) (w : World) (hu : UT w) :
    Calls Tryz.prog 78 #[.string s] w fun e w' => e = .returned (.int .i64 (M.sz s)) ∧ Below w.heap.size w w' := by
  have HD := fun w (h : UT w) => Tryz.utf8_DecodeRuneInString s w h.t
  have HS : Hid (M.sz s = if ((Lib.decodeGo s).1 = 65533 ∧ (Lib.decodeGo s).2 ≤ 1) ∨ ¬ (32 ≤ (Lib.decodeGo s).1 ∧ (Lib.decodeGo s).1 ≠ 34 ∧ (Lib.decodeGo s).1 ≠ 127) then 0 else (Lib.decodeGo s).2) := rfl
  have hsz := M.dec_le s
  generalize M.sz s = V at *
  generalize (Lib.decodeGo s).1 = R at *
  generalize (Lib.decodeGo s).2 = D at *
  have HI := fun w => isSung_any R w
  by_cases c1 : R = 65533 ∧ D ≤ 1
  · have HV : Hid (V = 0) := by show _ = _; rw [HS.out, if_pos (.inl c1)]
    obtain ⟨c2, c3⟩ := c1
    have d1 : ((R : Int) == 65533) = true := by simp; omega
    have d2 : (D : Int) ≤ 1 := by omega
    clear HS c2 c3 HI
    go_enter Tryz.func78, Tryz.ntmps78
    go_wp2_with fail
    refine (HD _ hu).mono ?_
    rintro e w1 ⟨rfl, hb1⟩
    go_wp2_with fail
    go_returns
    exact ⟨by rw [HV.out]; rfl, hb1⟩
  · have d0 : ((R : Int) == 65533 && decide ((D : Int) ≤ 1)) = false := by
      simp
      intro e
      have : R = 65533 := by omega
      have := fun x => c1 ⟨this, x⟩
      omega
    by_cases c2 : 32 ≤ R ∧ R ≠ 34 ∧ R ≠ 127
    · have HV : Hid (V = D) := by show _ = _; rw [HS.out, if_neg (by rintro (x | x); exact c1 x; exact x c2)]
      rw [decide_eq_true c2] at HI
      clear HS c2
      by_cases c3 : R = 65533
      · have d1 : ((R : Int) == 65533) = true := by simp; omega
        have d2 : ¬ (D : Int) ≤ 1 := by have := fun x => c1 ⟨c3, x⟩; omega
        have d3 : decide ((D : Int) ≤ 1) = false := by simp; omega
        clear c1 c3 d0
        go_enter Tryz.func78, Tryz.ntmps78
        go_wp2_with fail
        refine (HD _ hu).mono ?_
        rintro e w1 ⟨rfl, hb1⟩
        go_wp2_with fail
        refine (HI _).mono ?_
        rintro e w2 ⟨rfl, hw⟩
        rw [hw]
        go_wp2_with fail
        go_returns
        exact ⟨by rw [HV.out]; rfl, hb1⟩
      · have d1 : ((R : Int) == 65533) = false := by simp; omega
        clear c1 c3 d0
        go_enter Tryz.func78, Tryz.ntmps78
        go_wp2_with fail
        refine (HD _ hu).mono ?_
        rintro e w1 ⟨rfl, hb1⟩
        go_wp2_with fail
        refine (HI _).mono ?_
        rintro e w2 ⟨rfl, hw⟩
        rw [hw]
        go_wp2_with fail
        go_returns
        exact ⟨by rw [HV.out]; rfl, hb1⟩
    · have HV : Hid (V = 0) := by show _ = _; rw [HS.out, if_pos (.inr c2)]
      rw [decide_eq_false c2] at HI
      clear HS c2
      by_cases c3 : R = 65533
      · have d1 : ((R : Int) == 65533) = true := by simp; omega
        have d2 : ¬ (D : Int) ≤ 1 := by have := fun x => c1 ⟨c3, x⟩; omega
        have d3 : decide ((D : Int) ≤ 1) = false := by simp; omega
        clear c1 c3 d0
        go_enter Tryz.func78, Tryz.ntmps78
        go_wp2_with fail
        refine (HD _ hu).mono ?_
        rintro e w1 ⟨rfl, hb1⟩
        go_wp2_with fail
        refine (HI _).mono ?_
        rintro e w2 ⟨rfl, hw⟩
        rw [hw]
        go_wp2_with fail
        go_returns
        exact ⟨by rw [HV.out]; rfl, hb1⟩
      · have d1 : ((R : Int) == 65533) = false := by simp; omega
        clear c1 c3 d0
        go_enter Tryz.func78, Tryz.ntmps78
        go_wp2_with fail
        refine (HD _ hu).mono ?_
        rintro e w1 ⟨rfl, hb1⟩
        go_wp2_with fail
        refine (HI _).mono ?_
        rintro e w2 ⟨rfl, hw⟩
        rw [hw]
        go_wp2_with fail
        go_returns
        exact ⟨by rw [HV.out]; rfl, hb1⟩

set_option maxRecDepth 20000 in
set_option maxHeartbeats 2000000 in
theorem canBeSung_any (s : ByteArray) (w : World) (hu : UT w) (hs : s.size ≤ 140737488355328) :
    Calls Tryz.prog 61 #[.string s] w fun e w' => e = .returned (.bool (M.sung s)) ∧ Below w.heap.size w w' := by
  obtain ⟨V, hV⟩ : ∃ V, M.sung s = V := ⟨_, rfl⟩
  rw [hV]
  have HV : Hid (M.cs s.size 0 s = V) := hV
  clear hV
  go_enter Tryz.func61, Tryz.ntmps61
  go_wp2_with fail
  go_loopw [0, 3] (fun a b wr => ∃ (S : ByteArray) (r c : Nat), a = .string S ∧ b = .int .i64 r ∧ Hid (M.cs c r S = V) ∧ S.size ≤ c ∧ S.size ≤ 140737488355328 ∧ r ≤ 100 ∧ Below w.heap.size w wr) (fun a _ _ => match a with | .string S => S.size | _ => 0)
  case atStart => exact ⟨s, 0, s.size, rfl, rfl, HV, Nat.le_refl _, hs, by omega, by go_grown⟩
  case round =>
    obtain ⟨S, r, c, rfl, rfl, hc, h1, h2, h3, hbr⟩ := hrel
    by_cases h0 : S.size = 0
    · have hem := isE_yes h0
      have HR : Hid (V = true) := by show _ = _; rw [← hc.out]; exact M.cs_nil c r S h0
      go_wp2_with fail
      go_ret
      exact ⟨by rw [HR.out]; rfl, hbr⟩
    · have hem := isE_no (q := S) (by omega)
      have HS := fun w hu => sungSize_any S w hu
      have hle := M.sz_le S
      by_cases h4 : M.sz S = 0 ∨ r = 100
      · have HR : Hid (V = false) := by show _ = _; rw [← hc.out]; exact M.cs_no c r S h0 h1 h4
        by_cases h5 : M.sz S = 0
        · rw [h5] at HS
          clear h4 h5 hle
          go_wp2_with fail
          refine (HS _ (hu.step hbr)).mono ?_
          rintro e w1 ⟨rfl, hb1⟩
          go_wp2_with fail
          go_ret
          exact ⟨by rw [HR.out]; rfl, hbr.trans (hb1.mono hbr.size)⟩
        · obtain rfl : r = 100 := by omega
          have h6 : ((M.sz S : Int) == 0) = false := by simp; omega
          clear h4 h5
          generalize M.sz S = Z at *
          go_wp2_with fail
          refine (HS _ (hu.step hbr)).mono ?_
          rintro e w1 ⟨rfl, hb1⟩
          go_wp2_with fail
          go_ret
          exact ⟨by rw [HR.out]; rfl, hbr.trans (hb1.mono hbr.size)⟩
      · obtain ⟨c, rfl⟩ : ∃ c', c = c' + 1 := ⟨c - 1, by omega⟩
        have hc2 : Hid (M.cs c (r + 1) (S.extract (M.sz S) S.size) = V) := by show _ = _; rw [← hc.out, M.cs_on c r S h0 h4]
        have h6 : ((M.sz S : Int) == 0) = false := by simp; omega
        have h7 : ((r : Int) == 100) = false := by simp; omega
        have h8 : (S.extract (M.sz S) S.size).size = S.size - M.sz S := by rw [ByteArray.size_extract]; omega
        have h9 : 0 < M.sz S := by omega
        have h10 : (0 : Int) ≤ (M.sz S : Nat) := by omega
        have h11 : ((M.sz S : Nat) : Int) ≤ S.size := by omega
        have h12 : r + 1 ≤ 100 := by omega
        clear h4 hc
        generalize M.sz S = Z at *
        go_wp2_with fail
        refine (HS _ (hu.step hbr)).mono ?_
        rintro e w1 ⟨rfl, hb1⟩
        go_wp2_with fail
        go_roundw
        case rel => exact ⟨S.extract Z S.size, r + 1, c, rfl, by go_num, hc2, by omega, by omega, h12, hbr.trans (hb1.mono hbr.size)⟩
        case measure => simp only; omega
end Go.Proofs.YtaohahahhjkcdaeGreatDoor.G

/- What the program asks of an item by itself: a chord, kids, all of it. -/
namespace Go.Proofs.YtaohahahhjkcdaeGreatDoor.G
open Go.RowKit
set_option linter.unusedVariables false
set_option linter.unusedSimpArgs false

/-- Pitches as they lie, in a block below B. -/
structure PS (w : World) (B : Nat) (ao : Option Addr) (n : Nat) (L A O : Nat → Int) : Prop where
  at' : 0 < n → ∃ b off, ao = some ⟨b, off, none⟩ ∧ b < B ∧ (∀ j, j < n → w.cell? ⟨b, off + j * 3, none⟩ = some (.int .i64 (L j))) ∧ (∀ j, j < n → w.cell? ⟨b, off + j * 3 + 1, none⟩ = some (.int .i64 (A j))) ∧ (∀ j, j < n → w.cell? ⟨b, off + j * 3 + 2, none⟩ = some (.int .i64 (O j)))
theorem PS.step {w w' : World} {B : Nat} {ao : Option Addr} {n : Nat} {L A O : Nat → Int} (h : PS w B ao n L A O) (hb : Below B w w') : PS w' B ao n L A O := by
  refine ⟨fun hn => ?_⟩
  obtain ⟨b, off, h1, h2, h3, h4, h5⟩ := h.at' hn
  exact ⟨b, off, h1, h2, fun j hj => F.keepC hb h2 (h3 j hj), fun j hj => F.keepC hb h2 (h4 j hj), fun j hj => F.keepC hb h2 (h5 j hj)⟩

theorem hasKids_any (k s b1 b2 : Int) (p q : Value) (ly : ByteArray) (w : World) :
    Calls Tryz.prog 36 #[.agg #[.int .i64 k, .int .i64 s, p, .int .i64 b1, .int .i64 b2, .string ly, q]] w fun e w' => e = .returned (.bool (decide (k = 4 ∨ k = 5))) ∧ Below w.heap.size w w' := by
  by_cases h4 : k = 4
  · subst h4
    go_enter Tryz.func36, Tryz.ntmps36
    go_wp2_with fail
    go_returns
    exact ⟨rfl, by go_grown⟩
  · have d4 : (k == 4) = false := by simpa using h4
    by_cases h5 : k = 5
    · subst h5
      go_enter Tryz.func36, Tryz.ntmps36
      go_wp2_with fail
      go_returns
      exact ⟨rfl, by go_grown⟩
    · have d5 : (k == 5) = false := by simpa using h5
      rw [decide_eq_false (by omega)]
      clear h4 h5
      go_enter Tryz.func36, Tryz.ntmps36
      go_wp2_with fail
      go_returns
      exact ⟨rfl, by go_grown⟩

set_option maxHeartbeats 2000000 in
theorem isChord_any (ao : Option Addr) (n c B : Nat) (L A O : Nat → Int) (w : World) (hp : PS w B ao n L A O) (hB : B ≤ w.heap.size) (hc : n ≤ c) (hcm : c ≤ 9223372036854775807) :
    Calls Tryz.prog 60 #[.slice ao n c] w fun e w' => e = .returned (.bool (decide (1 ≤ n ∧ n ≤ 16) && M.ch n L A O)) ∧ Below w.heap.size w w' := by
  by_cases h1 : n < 1
  · rw [decide_eq_false (show ¬ (1 ≤ n ∧ n ≤ 16) by omega), Bool.false_and]
    have d1 : (n : Int) < 1 := by omega
    go_enter Tryz.func60, Tryz.ntmps60
    go_wp2_with fail
    go_returns
    exact ⟨rfl, by go_grown⟩
  have d1 : ¬ (n : Int) < 1 := by omega
  by_cases h2 : 16 < n
  · rw [decide_eq_false (show ¬ (1 ≤ n ∧ n ≤ 16) by omega), Bool.false_and]
    have d2 : (16 : Int) < n := by omega
    go_enter Tryz.func60, Tryz.ntmps60
    go_wp2_with fail
    go_returns
    exact ⟨rfl, by go_grown⟩
  have d2 : ¬ (16 : Int) < n := by omega
  rw [decide_eq_true (show 1 ≤ n ∧ n ≤ 16 by omega), Bool.true_and]
  obtain ⟨V, hV⟩ : ∃ V, M.ch n L A O = V := ⟨_, rfl⟩
  rw [hV]
  have HN : Hid (∀ j, j < n → M.rt (L j) (A j) (O j) = false → V = false) := fun j a b => by rw [← hV]; exact M.ch_no j a b
  have HY : Hid ((∀ j, j < n → M.rt (L j) (A j) (O j) = true) → V = true) := fun a => by rw [← hV]; exact M.ch_yes a
  clear hV
  obtain ⟨b, off, rfl, hbl, q0, q1, q2⟩ := hp.at' (by omega)
  go_enter Tryz.func60, Tryz.ntmps60
  go_wp2_with fail
  go_loopw [15] (fun i wr => ∃ k : Nat, k ≤ n ∧ i = .int .i64 k ∧ Hid (∀ j, j < k → M.rt (L j) (A j) (O j) = true) ∧ Below w.heap.size w wr) (fun i _ => n - (intOf i).toNat)
  case atStart => exact ⟨0, by omega, rfl, fun j hj => by omega, by go_grown⟩
  case round =>
    obtain ⟨k, hkn, rfl, hall, hbr⟩ := hrel
    have zr := hbr.size
    by_cases hlt : k < n
    · have r0 := F.keepC hbr (by omega) (q0 k hlt)
      have r1 := F.keepC hbr (by omega) (q1 k hlt)
      have r2 := F.keepC hbr (by omega) (q2 k hlt)
      have hbk : b < wr.heap.size := by omega
      have HR := fun w => Right_any (L k) (A k) (O k) w
      cases hr : M.rt (L k) (A k) (O k)
      · have hV : Hid (V = false) := HN.out k hlt hr
        rw [hr] at HR
        clear q0 q1 q2 HN HY hall hr
        go_wp2_with fail
        refine (HR _).mono ?_
        rintro e w1 ⟨rfl, hb1⟩
        have k1 : Below w.heap.size w w1 := (hbr.alloc hbr.size _).trans (hb1.mono (by simp; omega))
        go_wp2_with fail
        go_ret
        exact ⟨by rw [hV.out]; rfl, k1⟩
      · have hall2 : Hid (∀ j, j < k + 1 → M.rt (L j) (A j) (O j) = true) := fun j hj => by
          by_cases e : j = k
          · rw [e]; exact hr
          · exact hall.out j (by omega)
        rw [hr] at HR
        clear q0 q1 q2 HN HY hall hr
        go_wp2_with fail
        refine (HR _).mono ?_
        rintro e w1 ⟨rfl, hb1⟩
        have k1 : Below w.heap.size w w1 := (hbr.alloc hbr.size _).trans (hb1.mono (by simp; omega))
        go_wp2_with fail
        go_roundw
        case rel => exact ⟨k + 1, by omega, by first | rfl | go_num, hall2, k1⟩
        case measure => simp [intOf]; omega
    · obtain rfl : k = n := by omega
      have hV : Hid (V = true) := HY.out hall.out
      clear HN HY hall
      go_wp2_with fail
      go_ret
      exact ⟨by rw [hV.out]; rfl, hbr⟩
end Go.Proofs.YtaohahahhjkcdaeGreatDoor.G

/- What the program's rightAlone comes to. -/
namespace Go.Proofs.YtaohahahhjkcdaeGreatDoor.G
open Go.RowKit
set_option linter.unusedVariables false
set_option linter.unusedSimpArgs false

theorem nmd_yes {s h : Int} (hn : M.nmd s h = true) : M.inb s h = true ∧ ((s < 0 ∨ (s = 0 ∧ h < 0)) → M.un (-s) (-h) ≤ 6) ∧ (¬ (s < 0 ∨ (s = 0 ∧ h < 0)) → M.un s h ≤ 6) := by
  unfold M.nmd at hn
  rw [Bool.and_eq_true] at hn
  refine ⟨hn.1, fun c => ?_, fun c => ?_⟩
  · have := hn.2; rw [if_pos c] at this; simpa using this
  · have := hn.2; rw [if_neg c] at this; simpa using this
theorem nmd_no {s h : Int} (hn : M.nmd s h = false) (hi : M.inb s h = true) : ((s < 0 ∨ (s = 0 ∧ h < 0)) → 6 < M.un (-s) (-h)) ∧ (¬ (s < 0 ∨ (s = 0 ∧ h < 0)) → 6 < M.un s h) := by
  unfold M.nmd at hn
  rw [hi, Bool.true_and] at hn
  refine ⟨fun c => ?_, fun c => ?_⟩
  · rw [if_pos c] at hn; simp at hn; omega
  · rw [if_neg c] at hn; simp at hn; omega
/-- Which of the two Name answers. -/
theorem NameE_any (s h : Int) : ∃ T : ByteArray, ∀ w, Tab w → Pows w → Calls Tryz.prog 62 #[.agg #[.int .i64 s, .int .i64 h]] w fun e w' => e = .returned (.tuple #[.string T, .int .i64 (if M.nmd s h = true then 0 else 3)]) ∧ Below w.heap.size w w' := by
  cases hn : M.nmd s h
  · cases hi : M.inb s h
    · exact ⟨_, fun w _ _ => Name_range s h w hi⟩
    · obtain ⟨g1, g2⟩ := nmd_no hn hi
      by_cases c : s < 0 ∨ (s = 0 ∧ h < 0)
      · exact ⟨_, fun w a b => Name_dnx s h w a b hi c (g1 c)⟩
      · exact ⟨_, fun w a b => Name_upx s h w a b hi (by omega) (by omega) (g2 c)⟩
  · obtain ⟨hi, g1, g2⟩ := nmd_yes hn
    by_cases c : s < 0 ∨ (s = 0 ∧ h < 0)
    · exact ⟨_, fun w a b => Name_dn s h w a b hi c (g1 c)⟩
    · exact ⟨_, fun w a b => Name_up s h w a b hi (by omega) (by omega) (g2 c)⟩

set_option maxRecDepth 20000 in
set_option maxHeartbeats 2000000 in
theorem ra_share (k s b1 b2 : Int) (pa0 ka : Option Addr) (np pc n kc B : Nat) (L P O : Nat → Int) (ly : ByteArray) (w : World) (hp : PS w B pa0 np L P O) (hB : B ≤ w.heap.size) (hc : np ≤ pc) (hcm : pc ≤ 9223372036854775807) (hn : n ≤ kc) (hkm : kc ≤ 9223372036854775807) (hl : ly.size ≤ 140737488355328) (ht : Tab w) (hpw : Pows w) (hu : UT w) (hsh : s < 1 ∨ 65536 < s) :
    Calls Tryz.prog 45 #[.agg #[.int .i64 k, .int .i64 s, .slice pa0 np pc, .int .i64 b1, .int .i64 b2, .string ly, .slice ka n kc]] w fun e w' => e = .returned (.bool (M.ra k s np L P O b1 b2 ly n)) ∧ Below w.heap.size w w' := by
  have hR : M.ra k s np L P O b1 b2 ly n = false := by unfold M.ra; rw [if_pos hsh]
  rw [hR]
  go_enter Tryz.func45, Tryz.ntmps45
  go_wp2_with fail
  refine (isShare_no s _ hsh).mono ?_
  rintro e w1 ⟨rfl, hw⟩
  rw [hw]
  go_wp2_with fail
  go_returns
  exact ⟨rfl, by go_grown⟩
set_option maxRecDepth 20000 in
set_option maxHeartbeats 2000000 in
theorem ra_other (k s b1 b2 : Int) (pa0 ka : Option Addr) (np pc n kc B : Nat) (L P O : Nat → Int) (ly : ByteArray) (w : World) (hp : PS w B pa0 np L P O) (hB : B ≤ w.heap.size) (hc : np ≤ pc) (hcm : pc ≤ 9223372036854775807) (hn : n ≤ kc) (hkm : kc ≤ 9223372036854775807) (hl : ly.size ≤ 140737488355328) (ht : Tab w) (hpw : Pows w) (hu : UT w) (hs1 : 1 ≤ s) (hs2 : s ≤ 65536) (hk : k < 1 ∨ 5 < k) :
    Calls Tryz.prog 45 #[.agg #[.int .i64 k, .int .i64 s, .slice pa0 np pc, .int .i64 b1, .int .i64 b2, .string ly, .slice ka n kc]] w fun e w' => e = .returned (.bool (M.ra k s np L P O b1 b2 ly n)) ∧ Below w.heap.size w w' := by
  have hR : M.ra k s np L P O b1 b2 ly n = false := by unfold M.ra; rw [if_neg (by omega), if_neg (by omega), if_neg (by omega), if_neg (by omega), if_neg (by omega)]
  rw [hR]
  have d1 : (k == 1) = false := by simp; omega
  have d2 : (k == 2) = false := by simp; omega
  have d3 : (k == 3) = false := by simp; omega
  have d4 : (k == 4) = false := by simp; omega
  have d5 : (k == 5) = false := by simp; omega
  clear hR
  go_enter Tryz.func45, Tryz.ntmps45
  go_wp2_with fail
  refine (isShare_yes s _ hs1 hs2).mono ?_
  rintro e w1 ⟨rfl, hw⟩
  rw [hw]
  go_wp2_with fail
  go_returns
  exact ⟨rfl, by go_grown⟩
set_option maxRecDepth 20000 in
set_option maxHeartbeats 2000000 in
theorem ra_2 (k s b1 b2 : Int) (pa0 ka : Option Addr) (np pc n kc B : Nat) (L P O : Nat → Int) (ly : ByteArray) (w : World) (hp : PS w B pa0 np L P O) (hB : B ≤ w.heap.size) (hc : np ≤ pc) (hcm : pc ≤ 9223372036854775807) (hn : n ≤ kc) (hkm : kc ≤ 9223372036854775807) (hl : ly.size ≤ 140737488355328) (ht : Tab w) (hpw : Pows w) (hu : UT w) (hs1 : 1 ≤ s) (hs2 : s ≤ 65536) (hk : k = 2) :
    Calls Tryz.prog 45 #[.agg #[.int .i64 k, .int .i64 s, .slice pa0 np pc, .int .i64 b1, .int .i64 b2, .string ly, .slice ka n kc]] w fun e w' => e = .returned (.bool (M.ra k s np L P O b1 b2 ly n)) ∧ Below w.heap.size w w' := by
  subst hk
  by_cases x1 : np ≠ 0
  · have t1 : ((np : Int) == 0) = false := by simp; omega
    have hR : M.ra 2 s np L P O b1 b2 ly n = false := by unfold M.ra; rw [if_neg (by omega)]; simp; first | done | (simp_all; done) | (intros; simp_all; done) | (intros; omega)
    rw [hR]
    clear hR
    go_enter Tryz.func45, Tryz.ntmps45
    go_wp2_with fail
    refine (isShare_yes s _ hs1 hs2).mono ?_
    rintro e w1 ⟨rfl, hw⟩
    rw [hw]
    go_wp2_with fail
    go_returns
    exact ⟨rfl, by go_grown⟩
  replace x1 : np = 0 := by omega
  have t1 : ((np : Int) == 0) = true := by simp; omega
  by_cases x2 : b1 ≠ 0
  · have t2 : (b1 == 0) = false := by simpa using x2
    have hR : M.ra 2 s np L P O b1 b2 ly n = false := by unfold M.ra; rw [if_neg (by omega)]; simp; first | done | (simp_all; done) | (intros; simp_all; done) | (intros; omega)
    rw [hR]
    clear hR
    go_enter Tryz.func45, Tryz.ntmps45
    go_wp2_with fail
    refine (isShare_yes s _ hs1 hs2).mono ?_
    rintro e w1 ⟨rfl, hw⟩
    rw [hw]
    go_wp2_with fail
    go_returns
    exact ⟨rfl, by go_grown⟩
  replace x2 : b1 = 0 := by omega
  by_cases x3 : b2 ≠ 0
  · have t3 : (b2 == 0) = false := by simpa using x3
    have hR : M.ra 2 s np L P O b1 b2 ly n = false := by unfold M.ra; rw [if_neg (by omega)]; simp; first | done | (simp_all; done) | (intros; simp_all; done) | (intros; omega)
    rw [hR]
    clear hR
    subst x2
    go_enter Tryz.func45, Tryz.ntmps45
    go_wp2_with fail
    refine (isShare_yes s _ hs1 hs2).mono ?_
    rintro e w1 ⟨rfl, hw⟩
    rw [hw]
    go_wp2_with fail
    go_returns
    exact ⟨rfl, by go_grown⟩
  replace x3 : b2 = 0 := by omega
  have t2 : (b1 == 0) = true := by simpa using x2
  have t3 : (b2 == 0) = true := by simpa using x3
  by_cases x4 : ly.size ≠ 0
  · have t4 := isE_no (q := ly) (by omega)
    have hR : M.ra 2 s np L P O b1 b2 ly n = false := by unfold M.ra; rw [if_neg (by omega)]; simp; first | done | (simp_all; done) | (intros; simp_all; done) | (intros; omega)
    rw [hR]
    clear hR
    go_enter Tryz.func45, Tryz.ntmps45
    go_wp2_with fail
    refine (isShare_yes s _ hs1 hs2).mono ?_
    rintro e w1 ⟨rfl, hw⟩
    rw [hw]
    go_wp2_with fail
    go_returns
    exact ⟨rfl, by go_grown⟩
  replace x4 : ly.size = 0 := by omega
  have t4 := isE_yes x4
  by_cases x5 : n ≠ 0
  · have t5 : ((n : Int) == 0) = false := by simp; omega
    have hR : M.ra 2 s np L P O b1 b2 ly n = false := by unfold M.ra; rw [if_neg (by omega)]; simp; first | done | (simp_all; done) | (intros; simp_all; done) | (intros; omega)
    rw [hR]
    clear hR
    go_enter Tryz.func45, Tryz.ntmps45
    go_wp2_with fail
    refine (isShare_yes s _ hs1 hs2).mono ?_
    rintro e w1 ⟨rfl, hw⟩
    rw [hw]
    go_wp2_with fail
    go_returns
    exact ⟨rfl, by go_grown⟩
  replace x5 : n = 0 := by omega
  have t5 : ((n : Int) == 0) = true := by simp; omega
  have hR : M.ra 2 s np L P O b1 b2 ly n = true := by unfold M.ra; rw [if_neg (by omega)]; simp [*]
  rw [hR]
  clear hR
  go_enter Tryz.func45, Tryz.ntmps45
  go_wp2_with fail
  refine (isShare_yes s _ hs1 hs2).mono ?_
  rintro e w1 ⟨rfl, hw⟩
  rw [hw]
  go_wp2_with fail
  go_returns
  exact ⟨rfl, by go_grown⟩
set_option maxRecDepth 20000 in
set_option maxHeartbeats 2000000 in
theorem ra_3 (k s b1 b2 : Int) (pa0 ka : Option Addr) (np pc n kc B : Nat) (L P O : Nat → Int) (ly : ByteArray) (w : World) (hp : PS w B pa0 np L P O) (hB : B ≤ w.heap.size) (hc : np ≤ pc) (hcm : pc ≤ 9223372036854775807) (hn : n ≤ kc) (hkm : kc ≤ 9223372036854775807) (hl : ly.size ≤ 140737488355328) (ht : Tab w) (hpw : Pows w) (hu : UT w) (hs1 : 1 ≤ s) (hs2 : s ≤ 65536) (hk : k = 3) :
    Calls Tryz.prog 45 #[.agg #[.int .i64 k, .int .i64 s, .slice pa0 np pc, .int .i64 b1, .int .i64 b2, .string ly, .slice ka n kc]] w fun e w' => e = .returned (.bool (M.ra k s np L P O b1 b2 ly n)) ∧ Below w.heap.size w w' := by
  subst hk
  by_cases x1 : np ≠ 0
  · have t1 : ((np : Int) == 0) = false := by simp; omega
    have hR : M.ra 3 s np L P O b1 b2 ly n = false := by unfold M.ra; rw [if_neg (by omega)]; simp; first | done | (simp_all; done) | (intros; simp_all; done) | (intros; omega)
    rw [hR]
    clear hR
    go_enter Tryz.func45, Tryz.ntmps45
    go_wp2_with fail
    refine (isShare_yes s _ hs1 hs2).mono ?_
    rintro e w1 ⟨rfl, hw⟩
    rw [hw]
    go_wp2_with fail
    go_returns
    exact ⟨rfl, by go_grown⟩
  replace x1 : np = 0 := by omega
  have t1 : ((np : Int) == 0) = true := by simp; omega
  by_cases x2 : b1 ≠ 0
  · have t2 : (b1 == 0) = false := by simpa using x2
    have hR : M.ra 3 s np L P O b1 b2 ly n = false := by unfold M.ra; rw [if_neg (by omega)]; simp; first | done | (simp_all; done) | (intros; simp_all; done) | (intros; omega)
    rw [hR]
    clear hR
    go_enter Tryz.func45, Tryz.ntmps45
    go_wp2_with fail
    refine (isShare_yes s _ hs1 hs2).mono ?_
    rintro e w1 ⟨rfl, hw⟩
    rw [hw]
    go_wp2_with fail
    go_returns
    exact ⟨rfl, by go_grown⟩
  replace x2 : b1 = 0 := by omega
  by_cases x3 : b2 ≠ 0
  · have t3 : (b2 == 0) = false := by simpa using x3
    have hR : M.ra 3 s np L P O b1 b2 ly n = false := by unfold M.ra; rw [if_neg (by omega)]; simp; first | done | (simp_all; done) | (intros; simp_all; done) | (intros; omega)
    rw [hR]
    clear hR
    subst x2
    go_enter Tryz.func45, Tryz.ntmps45
    go_wp2_with fail
    refine (isShare_yes s _ hs1 hs2).mono ?_
    rintro e w1 ⟨rfl, hw⟩
    rw [hw]
    go_wp2_with fail
    go_returns
    exact ⟨rfl, by go_grown⟩
  replace x3 : b2 = 0 := by omega
  have t2 : (b1 == 0) = true := by simpa using x2
  have t3 : (b2 == 0) = true := by simpa using x3
  by_cases x4 : ly.size ≠ 0
  · have t4 := isE_no (q := ly) (by omega)
    have hR : M.ra 3 s np L P O b1 b2 ly n = false := by unfold M.ra; rw [if_neg (by omega)]; simp; first | done | (simp_all; done) | (intros; simp_all; done) | (intros; omega)
    rw [hR]
    clear hR
    go_enter Tryz.func45, Tryz.ntmps45
    go_wp2_with fail
    refine (isShare_yes s _ hs1 hs2).mono ?_
    rintro e w1 ⟨rfl, hw⟩
    rw [hw]
    go_wp2_with fail
    go_returns
    exact ⟨rfl, by go_grown⟩
  replace x4 : ly.size = 0 := by omega
  have t4 := isE_yes x4
  by_cases x5 : n ≠ 0
  · have t5 : ((n : Int) == 0) = false := by simp; omega
    have hR : M.ra 3 s np L P O b1 b2 ly n = false := by unfold M.ra; rw [if_neg (by omega)]; simp; first | done | (simp_all; done) | (intros; simp_all; done) | (intros; omega)
    rw [hR]
    clear hR
    go_enter Tryz.func45, Tryz.ntmps45
    go_wp2_with fail
    refine (isShare_yes s _ hs1 hs2).mono ?_
    rintro e w1 ⟨rfl, hw⟩
    rw [hw]
    go_wp2_with fail
    go_returns
    exact ⟨rfl, by go_grown⟩
  replace x5 : n = 0 := by omega
  have t5 : ((n : Int) == 0) = true := by simp; omega
  have hR : M.ra 3 s np L P O b1 b2 ly n = true := by unfold M.ra; rw [if_neg (by omega)]; simp [*]
  rw [hR]
  clear hR
  go_enter Tryz.func45, Tryz.ntmps45
  go_wp2_with fail
  refine (isShare_yes s _ hs1 hs2).mono ?_
  rintro e w1 ⟨rfl, hw⟩
  rw [hw]
  go_wp2_with fail
  go_returns
  exact ⟨rfl, by go_grown⟩
set_option maxRecDepth 20000 in
set_option maxHeartbeats 2000000 in
theorem ra_4 (k s b1 b2 : Int) (pa0 ka : Option Addr) (np pc n kc B : Nat) (L P O : Nat → Int) (ly : ByteArray) (w : World) (hp : PS w B pa0 np L P O) (hB : B ≤ w.heap.size) (hc : np ≤ pc) (hcm : pc ≤ 9223372036854775807) (hn : n ≤ kc) (hkm : kc ≤ 9223372036854775807) (hl : ly.size ≤ 140737488355328) (ht : Tab w) (hpw : Pows w) (hu : UT w) (hs1 : 1 ≤ s) (hs2 : s ≤ 65536) (hk : k = 4) :
    Calls Tryz.prog 45 #[.agg #[.int .i64 k, .int .i64 s, .slice pa0 np pc, .int .i64 b1, .int .i64 b2, .string ly, .slice ka n kc]] w fun e w' => e = .returned (.bool (M.ra k s np L P O b1 b2 ly n)) ∧ Below w.heap.size w w' := by
  subst hk
  by_cases x1 : np ≠ 0
  · have t1 : ((np : Int) == 0) = false := by simp; omega
    have hR : M.ra 4 s np L P O b1 b2 ly n = false := by unfold M.ra; rw [if_neg (by omega)]; simp; first | done | (simp_all; done) | (intros; simp_all; done) | (intros; omega)
    rw [hR]
    clear hR
    go_enter Tryz.func45, Tryz.ntmps45
    go_wp2_with fail
    refine (isShare_yes s _ hs1 hs2).mono ?_
    rintro e w1 ⟨rfl, hw⟩
    rw [hw]
    go_wp2_with fail
    go_returns
    exact ⟨rfl, by go_grown⟩
  replace x1 : np = 0 := by omega
  have t1 : ((np : Int) == 0) = true := by simp; omega
  by_cases x2 : b1 ≠ 0
  · have t2 : (b1 == 0) = false := by simpa using x2
    have hR : M.ra 4 s np L P O b1 b2 ly n = false := by unfold M.ra; rw [if_neg (by omega)]; simp; first | done | (simp_all; done) | (intros; simp_all; done) | (intros; omega)
    rw [hR]
    clear hR
    go_enter Tryz.func45, Tryz.ntmps45
    go_wp2_with fail
    refine (isShare_yes s _ hs1 hs2).mono ?_
    rintro e w1 ⟨rfl, hw⟩
    rw [hw]
    go_wp2_with fail
    go_returns
    exact ⟨rfl, by go_grown⟩
  replace x2 : b1 = 0 := by omega
  by_cases x3 : b2 ≠ 0
  · have t3 : (b2 == 0) = false := by simpa using x3
    have hR : M.ra 4 s np L P O b1 b2 ly n = false := by unfold M.ra; rw [if_neg (by omega)]; simp; first | done | (simp_all; done) | (intros; simp_all; done) | (intros; omega)
    rw [hR]
    clear hR
    subst x2
    go_enter Tryz.func45, Tryz.ntmps45
    go_wp2_with fail
    refine (isShare_yes s _ hs1 hs2).mono ?_
    rintro e w1 ⟨rfl, hw⟩
    rw [hw]
    go_wp2_with fail
    go_returns
    exact ⟨rfl, by go_grown⟩
  replace x3 : b2 = 0 := by omega
  have t2 : (b1 == 0) = true := by simpa using x2
  have t3 : (b2 == 0) = true := by simpa using x3
  by_cases x4 : ly.size ≠ 0
  · have t4 := isE_no (q := ly) (by omega)
    have hR : M.ra 4 s np L P O b1 b2 ly n = false := by unfold M.ra; rw [if_neg (by omega)]; simp; first | done | (simp_all; done) | (intros; simp_all; done) | (intros; omega)
    rw [hR]
    clear hR
    go_enter Tryz.func45, Tryz.ntmps45
    go_wp2_with fail
    refine (isShare_yes s _ hs1 hs2).mono ?_
    rintro e w1 ⟨rfl, hw⟩
    rw [hw]
    go_wp2_with fail
    go_returns
    exact ⟨rfl, by go_grown⟩
  replace x4 : ly.size = 0 := by omega
  have t4 := isE_yes x4
  have hR : M.ra 4 s np L P O b1 b2 ly n = true := by unfold M.ra; rw [if_neg (by omega)]; simp [*]
  rw [hR]
  clear hR
  go_enter Tryz.func45, Tryz.ntmps45
  go_wp2_with fail
  refine (isShare_yes s _ hs1 hs2).mono ?_
  rintro e w1 ⟨rfl, hw⟩
  rw [hw]
  go_wp2_with fail
  go_returns
  exact ⟨rfl, by go_grown⟩
end Go.Proofs.YtaohahahhjkcdaeGreatDoor.G

/- What the program's rightAlone comes to: notes, and what moves. -/
namespace Go.Proofs.YtaohahahhjkcdaeGreatDoor.G
open Go.RowKit
set_option linter.unusedVariables false
set_option linter.unusedSimpArgs false

set_option maxRecDepth 20000 in
set_option maxHeartbeats 2000000 in
theorem ra_1 (k s b1 b2 : Int) (pa0 ka : Option Addr) (np pc n kc B : Nat) (L P O : Nat → Int) (ly : ByteArray) (w : World) (hp : PS w B pa0 np L P O) (hB : B ≤ w.heap.size) (hc : np ≤ pc) (hcm : pc ≤ 9223372036854775807) (hn : n ≤ kc) (hkm : kc ≤ 9223372036854775807) (hl : ly.size ≤ 140737488355328) (ht : Tab w) (hpw : Pows w) (hu : UT w) (hs1 : 1 ≤ s) (hs2 : s ≤ 65536) (hk : k = 1) :
    Calls Tryz.prog 45 #[.agg #[.int .i64 k, .int .i64 s, .slice pa0 np pc, .int .i64 b1, .int .i64 b2, .string ly, .slice ka n kc]] w fun e w' => e = .returned (.bool (M.ra k s np L P O b1 b2 ly n)) ∧ Below w.heap.size w w' := by
  subst hk
  have HC := fun w hp hB => isChord_any pa0 np pc B L P O w hp hB hc hcm
  have HS := fun w hu => canBeSung_any ly w hu hl
  cases hch : (decide (1 ≤ np ∧ np ≤ 16) && M.ch np L P O)
  · have hR : M.ra 1 s np L P O b1 b2 ly n = false := by unfold M.ra; rw [if_neg (by omega), if_pos rfl, hch]; simp
    rw [hR]
    rw [hch] at HC
    clear hR
    go_enter Tryz.func45, Tryz.ntmps45
    go_wp2_with fail
    refine (isShare_yes s _ hs1 hs2).mono ?_
    rintro e w1 ⟨rfl, hw⟩
    rw [hw]
    go_wp2_with fail
    refine (HC _ (hp.step (Below.mono (by go_grown) hB)) (by simp; omega)).mono ?_
    rintro e w2 ⟨rfl, hb2⟩
    have z2 := hb2.size
    simp at z2
    have k2 : Below w.heap.size w w2 := Below.trans (by go_grown) (hb2.mono (by simp))
    have p0 : w2.cell? ⟨w.heap.size, 0, none⟩ = some (.int .i64 1) := F.keepC hb2 (by simp) (by simp [go_sem] <;> omega)
    have f0 : w2.frozen? ⟨w.heap.size, 0, none⟩ = false := F.keepF hb2 (by simp) (by simp [go_sem])
    have p1 : w2.cell? ⟨w.heap.size, 1, none⟩ = some (.int .i64 s) := F.keepC hb2 (by simp) (by simp [go_sem] <;> omega)
    have f1 : w2.frozen? ⟨w.heap.size, 1, none⟩ = false := F.keepF hb2 (by simp) (by simp [go_sem])
    have p2 : w2.cell? ⟨w.heap.size, 2, none⟩ = some (.slice pa0 np pc) := F.keepC hb2 (by simp) (by simp [go_sem] <;> omega)
    have f2 : w2.frozen? ⟨w.heap.size, 2, none⟩ = false := F.keepF hb2 (by simp) (by simp [go_sem])
    have p3 : w2.cell? ⟨w.heap.size, 3, none⟩ = some (.int .i64 b1) := F.keepC hb2 (by simp) (by simp [go_sem] <;> omega)
    have f3 : w2.frozen? ⟨w.heap.size, 3, none⟩ = false := F.keepF hb2 (by simp) (by simp [go_sem])
    have p4 : w2.cell? ⟨w.heap.size, 4, none⟩ = some (.int .i64 b2) := F.keepC hb2 (by simp) (by simp [go_sem] <;> omega)
    have f4 : w2.frozen? ⟨w.heap.size, 4, none⟩ = false := F.keepF hb2 (by simp) (by simp [go_sem])
    have p5 : w2.cell? ⟨w.heap.size, 5, none⟩ = some (.string ly) := F.keepC hb2 (by simp) (by simp [go_sem] <;> omega)
    have f5 : w2.frozen? ⟨w.heap.size, 5, none⟩ = false := F.keepF hb2 (by simp) (by simp [go_sem])
    have p6 : w2.cell? ⟨w.heap.size, 6, none⟩ = some (.slice ka n kc) := F.keepC hb2 (by simp) (by simp [go_sem] <;> omega)
    have f6 : w2.frozen? ⟨w.heap.size, 6, none⟩ = false := F.keepF hb2 (by simp) (by simp [go_sem])
    have s2 : w.heap.size < w2.heap.size := by omega
    clear hb2
    go_wp2_with fail
    go_returns
    exact ⟨rfl, k2⟩
  rw [hch] at HC
  cases hsg : M.sung ly
  · have hR : M.ra 1 s np L P O b1 b2 ly n = false := by unfold M.ra; rw [if_neg (by omega), if_pos rfl, hch, hsg]; simp
    rw [hR]
    rw [hsg] at HS
    clear hR
    go_enter Tryz.func45, Tryz.ntmps45
    go_wp2_with fail
    refine (isShare_yes s _ hs1 hs2).mono ?_
    rintro e w1 ⟨rfl, hw⟩
    rw [hw]
    go_wp2_with fail
    refine (HC _ (hp.step (Below.mono (by go_grown) hB)) (by simp; omega)).mono ?_
    rintro e w2 ⟨rfl, hb2⟩
    have z2 := hb2.size
    simp at z2
    have k2 : Below w.heap.size w w2 := Below.trans (by go_grown) (hb2.mono (by simp))
    have p0 : w2.cell? ⟨w.heap.size, 0, none⟩ = some (.int .i64 1) := F.keepC hb2 (by simp) (by simp [go_sem] <;> omega)
    have f0 : w2.frozen? ⟨w.heap.size, 0, none⟩ = false := F.keepF hb2 (by simp) (by simp [go_sem])
    have p1 : w2.cell? ⟨w.heap.size, 1, none⟩ = some (.int .i64 s) := F.keepC hb2 (by simp) (by simp [go_sem] <;> omega)
    have f1 : w2.frozen? ⟨w.heap.size, 1, none⟩ = false := F.keepF hb2 (by simp) (by simp [go_sem])
    have p2 : w2.cell? ⟨w.heap.size, 2, none⟩ = some (.slice pa0 np pc) := F.keepC hb2 (by simp) (by simp [go_sem] <;> omega)
    have f2 : w2.frozen? ⟨w.heap.size, 2, none⟩ = false := F.keepF hb2 (by simp) (by simp [go_sem])
    have p3 : w2.cell? ⟨w.heap.size, 3, none⟩ = some (.int .i64 b1) := F.keepC hb2 (by simp) (by simp [go_sem] <;> omega)
    have f3 : w2.frozen? ⟨w.heap.size, 3, none⟩ = false := F.keepF hb2 (by simp) (by simp [go_sem])
    have p4 : w2.cell? ⟨w.heap.size, 4, none⟩ = some (.int .i64 b2) := F.keepC hb2 (by simp) (by simp [go_sem] <;> omega)
    have f4 : w2.frozen? ⟨w.heap.size, 4, none⟩ = false := F.keepF hb2 (by simp) (by simp [go_sem])
    have p5 : w2.cell? ⟨w.heap.size, 5, none⟩ = some (.string ly) := F.keepC hb2 (by simp) (by simp [go_sem] <;> omega)
    have f5 : w2.frozen? ⟨w.heap.size, 5, none⟩ = false := F.keepF hb2 (by simp) (by simp [go_sem])
    have p6 : w2.cell? ⟨w.heap.size, 6, none⟩ = some (.slice ka n kc) := F.keepC hb2 (by simp) (by simp [go_sem] <;> omega)
    have f6 : w2.frozen? ⟨w.heap.size, 6, none⟩ = false := F.keepF hb2 (by simp) (by simp [go_sem])
    have s2 : w.heap.size < w2.heap.size := by omega
    clear hb2
    go_wp2_with fail
    refine (HS _ (hu.step k2)).mono ?_
    rintro e w3 ⟨rfl, hb3⟩
    have z3 := hb3.size
    have k3 := k2.trans (hb3.mono k2.size)
    replace p0 := F.keepC hb3 (by omega) p0
    replace f0 := F.keepF hb3 (by omega) f0
    replace p1 := F.keepC hb3 (by omega) p1
    replace f1 := F.keepF hb3 (by omega) f1
    replace p2 := F.keepC hb3 (by omega) p2
    replace f2 := F.keepF hb3 (by omega) f2
    replace p3 := F.keepC hb3 (by omega) p3
    replace f3 := F.keepF hb3 (by omega) f3
    replace p4 := F.keepC hb3 (by omega) p4
    replace f4 := F.keepF hb3 (by omega) f4
    replace p5 := F.keepC hb3 (by omega) p5
    replace f5 := F.keepF hb3 (by omega) f5
    replace p6 := F.keepC hb3 (by omega) p6
    replace f6 := F.keepF hb3 (by omega) f6
    have s3 : w.heap.size < w3.heap.size := by omega
    clear hb3
    go_wp2_with fail
    go_returns
    exact ⟨rfl, k3⟩
  rw [hsg] at HS
  by_cases x2 : b1 ≠ 0
  · have t2 : (b1 == 0) = false := by simpa using x2
    have hR : M.ra 1 s np L P O b1 b2 ly n = false := by unfold M.ra; rw [if_neg (by omega), if_pos rfl, hch, hsg]; simp [x2]
    rw [hR]
    clear hR hch hsg
    go_enter Tryz.func45, Tryz.ntmps45
    go_wp2_with fail
    refine (isShare_yes s _ hs1 hs2).mono ?_
    rintro e w1 ⟨rfl, hw⟩
    rw [hw]
    go_wp2_with fail
    refine (HC _ (hp.step (Below.mono (by go_grown) hB)) (by simp; omega)).mono ?_
    rintro e w2 ⟨rfl, hb2⟩
    have z2 := hb2.size
    simp at z2
    have k2 : Below w.heap.size w w2 := Below.trans (by go_grown) (hb2.mono (by simp))
    have p0 : w2.cell? ⟨w.heap.size, 0, none⟩ = some (.int .i64 1) := F.keepC hb2 (by simp) (by simp [go_sem] <;> omega)
    have f0 : w2.frozen? ⟨w.heap.size, 0, none⟩ = false := F.keepF hb2 (by simp) (by simp [go_sem])
    have p1 : w2.cell? ⟨w.heap.size, 1, none⟩ = some (.int .i64 s) := F.keepC hb2 (by simp) (by simp [go_sem] <;> omega)
    have f1 : w2.frozen? ⟨w.heap.size, 1, none⟩ = false := F.keepF hb2 (by simp) (by simp [go_sem])
    have p2 : w2.cell? ⟨w.heap.size, 2, none⟩ = some (.slice pa0 np pc) := F.keepC hb2 (by simp) (by simp [go_sem] <;> omega)
    have f2 : w2.frozen? ⟨w.heap.size, 2, none⟩ = false := F.keepF hb2 (by simp) (by simp [go_sem])
    have p3 : w2.cell? ⟨w.heap.size, 3, none⟩ = some (.int .i64 b1) := F.keepC hb2 (by simp) (by simp [go_sem] <;> omega)
    have f3 : w2.frozen? ⟨w.heap.size, 3, none⟩ = false := F.keepF hb2 (by simp) (by simp [go_sem])
    have p4 : w2.cell? ⟨w.heap.size, 4, none⟩ = some (.int .i64 b2) := F.keepC hb2 (by simp) (by simp [go_sem] <;> omega)
    have f4 : w2.frozen? ⟨w.heap.size, 4, none⟩ = false := F.keepF hb2 (by simp) (by simp [go_sem])
    have p5 : w2.cell? ⟨w.heap.size, 5, none⟩ = some (.string ly) := F.keepC hb2 (by simp) (by simp [go_sem] <;> omega)
    have f5 : w2.frozen? ⟨w.heap.size, 5, none⟩ = false := F.keepF hb2 (by simp) (by simp [go_sem])
    have p6 : w2.cell? ⟨w.heap.size, 6, none⟩ = some (.slice ka n kc) := F.keepC hb2 (by simp) (by simp [go_sem] <;> omega)
    have f6 : w2.frozen? ⟨w.heap.size, 6, none⟩ = false := F.keepF hb2 (by simp) (by simp [go_sem])
    have s2 : w.heap.size < w2.heap.size := by omega
    clear hb2
    go_wp2_with fail
    refine (HS _ (hu.step k2)).mono ?_
    rintro e w3 ⟨rfl, hb3⟩
    have z3 := hb3.size
    have k3 := k2.trans (hb3.mono k2.size)
    replace p0 := F.keepC hb3 (by omega) p0
    replace f0 := F.keepF hb3 (by omega) f0
    replace p1 := F.keepC hb3 (by omega) p1
    replace f1 := F.keepF hb3 (by omega) f1
    replace p2 := F.keepC hb3 (by omega) p2
    replace f2 := F.keepF hb3 (by omega) f2
    replace p3 := F.keepC hb3 (by omega) p3
    replace f3 := F.keepF hb3 (by omega) f3
    replace p4 := F.keepC hb3 (by omega) p4
    replace f4 := F.keepF hb3 (by omega) f4
    replace p5 := F.keepC hb3 (by omega) p5
    replace f5 := F.keepF hb3 (by omega) f5
    replace p6 := F.keepC hb3 (by omega) p6
    replace f6 := F.keepF hb3 (by omega) f6
    have s3 : w.heap.size < w3.heap.size := by omega
    clear hb3
    go_wp2_with fail
    go_returns
    exact ⟨rfl, (k3.setCell (p := ⟨w.heap.size, 2, none⟩) (Nat.le_refl _) _).setCell (p := ⟨w.heap.size, 5, none⟩) (Nat.le_refl _) _⟩
  replace x2 : b1 = 0 := by omega
  have t2 : (b1 == 0) = true := by simpa using x2
  by_cases x3 : b2 ≠ 0
  · have t3 : (b2 == 0) = false := by simpa using x3
    have hR : M.ra 1 s np L P O b1 b2 ly n = false := by unfold M.ra; rw [if_neg (by omega), if_pos rfl, hch, hsg]; simp [x2, x3]
    rw [hR]
    clear hR hch hsg
    go_enter Tryz.func45, Tryz.ntmps45
    go_wp2_with fail
    refine (isShare_yes s _ hs1 hs2).mono ?_
    rintro e w1 ⟨rfl, hw⟩
    rw [hw]
    go_wp2_with fail
    refine (HC _ (hp.step (Below.mono (by go_grown) hB)) (by simp; omega)).mono ?_
    rintro e w2 ⟨rfl, hb2⟩
    have z2 := hb2.size
    simp at z2
    have k2 : Below w.heap.size w w2 := Below.trans (by go_grown) (hb2.mono (by simp))
    have p0 : w2.cell? ⟨w.heap.size, 0, none⟩ = some (.int .i64 1) := F.keepC hb2 (by simp) (by simp [go_sem] <;> omega)
    have f0 : w2.frozen? ⟨w.heap.size, 0, none⟩ = false := F.keepF hb2 (by simp) (by simp [go_sem])
    have p1 : w2.cell? ⟨w.heap.size, 1, none⟩ = some (.int .i64 s) := F.keepC hb2 (by simp) (by simp [go_sem] <;> omega)
    have f1 : w2.frozen? ⟨w.heap.size, 1, none⟩ = false := F.keepF hb2 (by simp) (by simp [go_sem])
    have p2 : w2.cell? ⟨w.heap.size, 2, none⟩ = some (.slice pa0 np pc) := F.keepC hb2 (by simp) (by simp [go_sem] <;> omega)
    have f2 : w2.frozen? ⟨w.heap.size, 2, none⟩ = false := F.keepF hb2 (by simp) (by simp [go_sem])
    have p3 : w2.cell? ⟨w.heap.size, 3, none⟩ = some (.int .i64 b1) := F.keepC hb2 (by simp) (by simp [go_sem] <;> omega)
    have f3 : w2.frozen? ⟨w.heap.size, 3, none⟩ = false := F.keepF hb2 (by simp) (by simp [go_sem])
    have p4 : w2.cell? ⟨w.heap.size, 4, none⟩ = some (.int .i64 b2) := F.keepC hb2 (by simp) (by simp [go_sem] <;> omega)
    have f4 : w2.frozen? ⟨w.heap.size, 4, none⟩ = false := F.keepF hb2 (by simp) (by simp [go_sem])
    have p5 : w2.cell? ⟨w.heap.size, 5, none⟩ = some (.string ly) := F.keepC hb2 (by simp) (by simp [go_sem] <;> omega)
    have f5 : w2.frozen? ⟨w.heap.size, 5, none⟩ = false := F.keepF hb2 (by simp) (by simp [go_sem])
    have p6 : w2.cell? ⟨w.heap.size, 6, none⟩ = some (.slice ka n kc) := F.keepC hb2 (by simp) (by simp [go_sem] <;> omega)
    have f6 : w2.frozen? ⟨w.heap.size, 6, none⟩ = false := F.keepF hb2 (by simp) (by simp [go_sem])
    have s2 : w.heap.size < w2.heap.size := by omega
    clear hb2
    go_wp2_with fail
    refine (HS _ (hu.step k2)).mono ?_
    rintro e w3 ⟨rfl, hb3⟩
    have z3 := hb3.size
    have k3 := k2.trans (hb3.mono k2.size)
    replace p0 := F.keepC hb3 (by omega) p0
    replace f0 := F.keepF hb3 (by omega) f0
    replace p1 := F.keepC hb3 (by omega) p1
    replace f1 := F.keepF hb3 (by omega) f1
    replace p2 := F.keepC hb3 (by omega) p2
    replace f2 := F.keepF hb3 (by omega) f2
    replace p3 := F.keepC hb3 (by omega) p3
    replace f3 := F.keepF hb3 (by omega) f3
    replace p4 := F.keepC hb3 (by omega) p4
    replace f4 := F.keepF hb3 (by omega) f4
    replace p5 := F.keepC hb3 (by omega) p5
    replace f5 := F.keepF hb3 (by omega) f5
    replace p6 := F.keepC hb3 (by omega) p6
    replace f6 := F.keepF hb3 (by omega) f6
    have s3 : w.heap.size < w3.heap.size := by omega
    clear hb3
    go_wp2_with fail
    go_returns
    exact ⟨rfl, (k3.setCell (p := ⟨w.heap.size, 2, none⟩) (Nat.le_refl _) _).setCell (p := ⟨w.heap.size, 5, none⟩) (Nat.le_refl _) _⟩
  replace x3 : b2 = 0 := by omega
  have t3 : (b2 == 0) = true := by simpa using x3
  by_cases x5 : n ≠ 0
  · have t5 : ((n : Int) == 0) = false := by simp; omega
    have hR : M.ra 1 s np L P O b1 b2 ly n = false := by unfold M.ra; rw [if_neg (by omega), if_pos rfl, hch, hsg]; simp [x2, x3, x5]
    rw [hR]
    clear hR hch hsg
    go_enter Tryz.func45, Tryz.ntmps45
    go_wp2_with fail
    refine (isShare_yes s _ hs1 hs2).mono ?_
    rintro e w1 ⟨rfl, hw⟩
    rw [hw]
    go_wp2_with fail
    refine (HC _ (hp.step (Below.mono (by go_grown) hB)) (by simp; omega)).mono ?_
    rintro e w2 ⟨rfl, hb2⟩
    have z2 := hb2.size
    simp at z2
    have k2 : Below w.heap.size w w2 := Below.trans (by go_grown) (hb2.mono (by simp))
    have p0 : w2.cell? ⟨w.heap.size, 0, none⟩ = some (.int .i64 1) := F.keepC hb2 (by simp) (by simp [go_sem] <;> omega)
    have f0 : w2.frozen? ⟨w.heap.size, 0, none⟩ = false := F.keepF hb2 (by simp) (by simp [go_sem])
    have p1 : w2.cell? ⟨w.heap.size, 1, none⟩ = some (.int .i64 s) := F.keepC hb2 (by simp) (by simp [go_sem] <;> omega)
    have f1 : w2.frozen? ⟨w.heap.size, 1, none⟩ = false := F.keepF hb2 (by simp) (by simp [go_sem])
    have p2 : w2.cell? ⟨w.heap.size, 2, none⟩ = some (.slice pa0 np pc) := F.keepC hb2 (by simp) (by simp [go_sem] <;> omega)
    have f2 : w2.frozen? ⟨w.heap.size, 2, none⟩ = false := F.keepF hb2 (by simp) (by simp [go_sem])
    have p3 : w2.cell? ⟨w.heap.size, 3, none⟩ = some (.int .i64 b1) := F.keepC hb2 (by simp) (by simp [go_sem] <;> omega)
    have f3 : w2.frozen? ⟨w.heap.size, 3, none⟩ = false := F.keepF hb2 (by simp) (by simp [go_sem])
    have p4 : w2.cell? ⟨w.heap.size, 4, none⟩ = some (.int .i64 b2) := F.keepC hb2 (by simp) (by simp [go_sem] <;> omega)
    have f4 : w2.frozen? ⟨w.heap.size, 4, none⟩ = false := F.keepF hb2 (by simp) (by simp [go_sem])
    have p5 : w2.cell? ⟨w.heap.size, 5, none⟩ = some (.string ly) := F.keepC hb2 (by simp) (by simp [go_sem] <;> omega)
    have f5 : w2.frozen? ⟨w.heap.size, 5, none⟩ = false := F.keepF hb2 (by simp) (by simp [go_sem])
    have p6 : w2.cell? ⟨w.heap.size, 6, none⟩ = some (.slice ka n kc) := F.keepC hb2 (by simp) (by simp [go_sem] <;> omega)
    have f6 : w2.frozen? ⟨w.heap.size, 6, none⟩ = false := F.keepF hb2 (by simp) (by simp [go_sem])
    have s2 : w.heap.size < w2.heap.size := by omega
    clear hb2
    go_wp2_with fail
    refine (HS _ (hu.step k2)).mono ?_
    rintro e w3 ⟨rfl, hb3⟩
    have z3 := hb3.size
    have k3 := k2.trans (hb3.mono k2.size)
    replace p0 := F.keepC hb3 (by omega) p0
    replace f0 := F.keepF hb3 (by omega) f0
    replace p1 := F.keepC hb3 (by omega) p1
    replace f1 := F.keepF hb3 (by omega) f1
    replace p2 := F.keepC hb3 (by omega) p2
    replace f2 := F.keepF hb3 (by omega) f2
    replace p3 := F.keepC hb3 (by omega) p3
    replace f3 := F.keepF hb3 (by omega) f3
    replace p4 := F.keepC hb3 (by omega) p4
    replace f4 := F.keepF hb3 (by omega) f4
    replace p5 := F.keepC hb3 (by omega) p5
    replace f5 := F.keepF hb3 (by omega) f5
    replace p6 := F.keepC hb3 (by omega) p6
    replace f6 := F.keepF hb3 (by omega) f6
    have s3 : w.heap.size < w3.heap.size := by omega
    clear hb3
    go_wp2_with fail
    go_returns
    exact ⟨rfl, (k3.setCell (p := ⟨w.heap.size, 2, none⟩) (Nat.le_refl _) _).setCell (p := ⟨w.heap.size, 5, none⟩) (Nat.le_refl _) _⟩
  replace x5 : n = 0 := by omega
  have t5 : ((n : Int) == 0) = true := by simp; omega
  have hR : M.ra 1 s np L P O b1 b2 ly n = true := by unfold M.ra; rw [if_neg (by omega), if_pos rfl, hch, hsg]; simp [x2, x3, x5]
  rw [hR]
  clear hR hch hsg
  go_enter Tryz.func45, Tryz.ntmps45
  go_wp2_with fail
  refine (isShare_yes s _ hs1 hs2).mono ?_
  rintro e w1 ⟨rfl, hw⟩
  rw [hw]
  go_wp2_with fail
  refine (HC _ (hp.step (Below.mono (by go_grown) hB)) (by simp; omega)).mono ?_
  rintro e w2 ⟨rfl, hb2⟩
  have z2 := hb2.size
  simp at z2
  have k2 : Below w.heap.size w w2 := Below.trans (by go_grown) (hb2.mono (by simp))
  have p0 : w2.cell? ⟨w.heap.size, 0, none⟩ = some (.int .i64 1) := F.keepC hb2 (by simp) (by simp [go_sem] <;> omega)
  have f0 : w2.frozen? ⟨w.heap.size, 0, none⟩ = false := F.keepF hb2 (by simp) (by simp [go_sem])
  have p1 : w2.cell? ⟨w.heap.size, 1, none⟩ = some (.int .i64 s) := F.keepC hb2 (by simp) (by simp [go_sem] <;> omega)
  have f1 : w2.frozen? ⟨w.heap.size, 1, none⟩ = false := F.keepF hb2 (by simp) (by simp [go_sem])
  have p2 : w2.cell? ⟨w.heap.size, 2, none⟩ = some (.slice pa0 np pc) := F.keepC hb2 (by simp) (by simp [go_sem] <;> omega)
  have f2 : w2.frozen? ⟨w.heap.size, 2, none⟩ = false := F.keepF hb2 (by simp) (by simp [go_sem])
  have p3 : w2.cell? ⟨w.heap.size, 3, none⟩ = some (.int .i64 b1) := F.keepC hb2 (by simp) (by simp [go_sem] <;> omega)
  have f3 : w2.frozen? ⟨w.heap.size, 3, none⟩ = false := F.keepF hb2 (by simp) (by simp [go_sem])
  have p4 : w2.cell? ⟨w.heap.size, 4, none⟩ = some (.int .i64 b2) := F.keepC hb2 (by simp) (by simp [go_sem] <;> omega)
  have f4 : w2.frozen? ⟨w.heap.size, 4, none⟩ = false := F.keepF hb2 (by simp) (by simp [go_sem])
  have p5 : w2.cell? ⟨w.heap.size, 5, none⟩ = some (.string ly) := F.keepC hb2 (by simp) (by simp [go_sem] <;> omega)
  have f5 : w2.frozen? ⟨w.heap.size, 5, none⟩ = false := F.keepF hb2 (by simp) (by simp [go_sem])
  have p6 : w2.cell? ⟨w.heap.size, 6, none⟩ = some (.slice ka n kc) := F.keepC hb2 (by simp) (by simp [go_sem] <;> omega)
  have f6 : w2.frozen? ⟨w.heap.size, 6, none⟩ = false := F.keepF hb2 (by simp) (by simp [go_sem])
  have s2 : w.heap.size < w2.heap.size := by omega
  clear hb2
  go_wp2_with fail
  refine (HS _ (hu.step k2)).mono ?_
  rintro e w3 ⟨rfl, hb3⟩
  have z3 := hb3.size
  have k3 := k2.trans (hb3.mono k2.size)
  replace p0 := F.keepC hb3 (by omega) p0
  replace f0 := F.keepF hb3 (by omega) f0
  replace p1 := F.keepC hb3 (by omega) p1
  replace f1 := F.keepF hb3 (by omega) f1
  replace p2 := F.keepC hb3 (by omega) p2
  replace f2 := F.keepF hb3 (by omega) f2
  replace p3 := F.keepC hb3 (by omega) p3
  replace f3 := F.keepF hb3 (by omega) f3
  replace p4 := F.keepC hb3 (by omega) p4
  replace f4 := F.keepF hb3 (by omega) f4
  replace p5 := F.keepC hb3 (by omega) p5
  replace f5 := F.keepF hb3 (by omega) f5
  replace p6 := F.keepC hb3 (by omega) p6
  replace f6 := F.keepF hb3 (by omega) f6
  have s3 : w.heap.size < w3.heap.size := by omega
  clear hb3
  go_wp2_with fail
  go_returns
  exact ⟨rfl, (k3.setCell (p := ⟨w.heap.size, 2, none⟩) (Nat.le_refl _) _).setCell (p := ⟨w.heap.size, 5, none⟩) (Nat.le_refl _) _⟩
set_option maxRecDepth 20000 in
set_option maxHeartbeats 2000000 in
theorem ra_5 (k s b1 b2 : Int) (pa0 ka : Option Addr) (np pc n kc B : Nat) (L P O : Nat → Int) (ly : ByteArray) (w : World) (hp : PS w B pa0 np L P O) (hB : B ≤ w.heap.size) (hc : np ≤ pc) (hcm : pc ≤ 9223372036854775807) (hn : n ≤ kc) (hkm : kc ≤ 9223372036854775807) (hl : ly.size ≤ 140737488355328) (ht : Tab w) (hpw : Pows w) (hu : UT w) (hs1 : 1 ≤ s) (hs2 : s ≤ 65536) (hk : k = 5) :
    Calls Tryz.prog 45 #[.agg #[.int .i64 k, .int .i64 s, .slice pa0 np pc, .int .i64 b1, .int .i64 b2, .string ly, .slice ka n kc]] w fun e w' => e = .returned (.bool (M.ra k s np L P O b1 b2 ly n)) ∧ Below w.heap.size w w' := by
  subst hk
  obtain ⟨T, HN⟩ := NameE_any b1 b2
  cases hnm : M.nmd b1 b2
  · have hR : M.ra 5 s np L P O b1 b2 ly n = false := by unfold M.ra; rw [if_neg (by omega)]; simp [*]
    rw [hR]
    simp only [hnm] at HN
    clear hR hnm
    go_enter Tryz.func45, Tryz.ntmps45
    go_wp2_with fail
    refine (isShare_yes s _ hs1 hs2).mono ?_
    rintro e w1 ⟨rfl, hw⟩
    rw [hw]
    go_wp2_with fail
    refine (HN _ (ht.step (by go_grown)) (hpw.step (by go_grown))).mono ?_
    rintro e w2 ⟨rfl, hb2⟩
    have z2 := hb2.size
    simp at z2
    have k2 : Below w.heap.size w w2 := Below.trans (by go_grown) (hb2.mono (by simp))
    have p0 : w2.cell? ⟨w.heap.size, 0, none⟩ = some (.int .i64 5) := F.keepC hb2 (by simp) (by simp [go_sem] <;> omega)
    have f0 : w2.frozen? ⟨w.heap.size, 0, none⟩ = false := F.keepF hb2 (by simp) (by simp [go_sem])
    have p1 : w2.cell? ⟨w.heap.size, 1, none⟩ = some (.int .i64 s) := F.keepC hb2 (by simp) (by simp [go_sem] <;> omega)
    have f1 : w2.frozen? ⟨w.heap.size, 1, none⟩ = false := F.keepF hb2 (by simp) (by simp [go_sem])
    have p2 : w2.cell? ⟨w.heap.size, 2, none⟩ = some (.slice pa0 np pc) := F.keepC hb2 (by simp) (by simp [go_sem] <;> omega)
    have f2 : w2.frozen? ⟨w.heap.size, 2, none⟩ = false := F.keepF hb2 (by simp) (by simp [go_sem])
    have p3 : w2.cell? ⟨w.heap.size, 3, none⟩ = some (.int .i64 b1) := F.keepC hb2 (by simp) (by simp [go_sem] <;> omega)
    have f3 : w2.frozen? ⟨w.heap.size, 3, none⟩ = false := F.keepF hb2 (by simp) (by simp [go_sem])
    have p4 : w2.cell? ⟨w.heap.size, 4, none⟩ = some (.int .i64 b2) := F.keepC hb2 (by simp) (by simp [go_sem] <;> omega)
    have f4 : w2.frozen? ⟨w.heap.size, 4, none⟩ = false := F.keepF hb2 (by simp) (by simp [go_sem])
    have p5 : w2.cell? ⟨w.heap.size, 5, none⟩ = some (.string ly) := F.keepC hb2 (by simp) (by simp [go_sem] <;> omega)
    have f5 : w2.frozen? ⟨w.heap.size, 5, none⟩ = false := F.keepF hb2 (by simp) (by simp [go_sem])
    have p6 : w2.cell? ⟨w.heap.size, 6, none⟩ = some (.slice ka n kc) := F.keepC hb2 (by simp) (by simp [go_sem] <;> omega)
    have f6 : w2.frozen? ⟨w.heap.size, 6, none⟩ = false := F.keepF hb2 (by simp) (by simp [go_sem])
    have s2 : w.heap.size < w2.heap.size := by omega
    clear hb2
    go_wp2_with fail
    go_returns
    exact ⟨rfl, k2⟩
  simp only [hnm] at HN
  by_cases x1 : np ≠ 0
  · have t1 : ((np : Int) == 0) = false := by simp; omega
    have hR : M.ra 5 s np L P O b1 b2 ly n = false := by unfold M.ra; rw [if_neg (by omega)]; simp [hnm, x1]
    rw [hR]
    clear hR hnm
    go_enter Tryz.func45, Tryz.ntmps45
    go_wp2_with fail
    refine (isShare_yes s _ hs1 hs2).mono ?_
    rintro e w1 ⟨rfl, hw⟩
    rw [hw]
    go_wp2_with fail
    refine (HN _ (ht.step (by go_grown)) (hpw.step (by go_grown))).mono ?_
    rintro e w2 ⟨rfl, hb2⟩
    have z2 := hb2.size
    simp at z2
    have k2 : Below w.heap.size w w2 := Below.trans (by go_grown) (hb2.mono (by simp))
    have p0 : w2.cell? ⟨w.heap.size, 0, none⟩ = some (.int .i64 5) := F.keepC hb2 (by simp) (by simp [go_sem] <;> omega)
    have f0 : w2.frozen? ⟨w.heap.size, 0, none⟩ = false := F.keepF hb2 (by simp) (by simp [go_sem])
    have p1 : w2.cell? ⟨w.heap.size, 1, none⟩ = some (.int .i64 s) := F.keepC hb2 (by simp) (by simp [go_sem] <;> omega)
    have f1 : w2.frozen? ⟨w.heap.size, 1, none⟩ = false := F.keepF hb2 (by simp) (by simp [go_sem])
    have p2 : w2.cell? ⟨w.heap.size, 2, none⟩ = some (.slice pa0 np pc) := F.keepC hb2 (by simp) (by simp [go_sem] <;> omega)
    have f2 : w2.frozen? ⟨w.heap.size, 2, none⟩ = false := F.keepF hb2 (by simp) (by simp [go_sem])
    have p3 : w2.cell? ⟨w.heap.size, 3, none⟩ = some (.int .i64 b1) := F.keepC hb2 (by simp) (by simp [go_sem] <;> omega)
    have f3 : w2.frozen? ⟨w.heap.size, 3, none⟩ = false := F.keepF hb2 (by simp) (by simp [go_sem])
    have p4 : w2.cell? ⟨w.heap.size, 4, none⟩ = some (.int .i64 b2) := F.keepC hb2 (by simp) (by simp [go_sem] <;> omega)
    have f4 : w2.frozen? ⟨w.heap.size, 4, none⟩ = false := F.keepF hb2 (by simp) (by simp [go_sem])
    have p5 : w2.cell? ⟨w.heap.size, 5, none⟩ = some (.string ly) := F.keepC hb2 (by simp) (by simp [go_sem] <;> omega)
    have f5 : w2.frozen? ⟨w.heap.size, 5, none⟩ = false := F.keepF hb2 (by simp) (by simp [go_sem])
    have p6 : w2.cell? ⟨w.heap.size, 6, none⟩ = some (.slice ka n kc) := F.keepC hb2 (by simp) (by simp [go_sem] <;> omega)
    have f6 : w2.frozen? ⟨w.heap.size, 6, none⟩ = false := F.keepF hb2 (by simp) (by simp [go_sem])
    have s2 : w.heap.size < w2.heap.size := by omega
    clear hb2
    go_wp2_with fail
    go_returns
    exact ⟨rfl, ((k2.setCell (p := ⟨w.heap.size, 6, none⟩) (Nat.le_refl _) _).setCell (p := ⟨w.heap.size, 3, none⟩) (Nat.le_refl _) _).setCell (p := ⟨w.heap.size, 4, none⟩) (Nat.le_refl _) _⟩
  replace x1 : np = 0 := by omega
  have t1 : ((np : Int) == 0) = true := by simp; omega
  by_cases x4 : ly.size ≠ 0
  · have t4 := isE_no (q := ly) (by omega)
    have hR : M.ra 5 s np L P O b1 b2 ly n = false := by unfold M.ra; rw [if_neg (by omega)]; simp [hnm, x1, x4]
    rw [hR]
    clear hR hnm
    go_enter Tryz.func45, Tryz.ntmps45
    go_wp2_with fail
    refine (isShare_yes s _ hs1 hs2).mono ?_
    rintro e w1 ⟨rfl, hw⟩
    rw [hw]
    go_wp2_with fail
    refine (HN _ (ht.step (by go_grown)) (hpw.step (by go_grown))).mono ?_
    rintro e w2 ⟨rfl, hb2⟩
    have z2 := hb2.size
    simp at z2
    have k2 : Below w.heap.size w w2 := Below.trans (by go_grown) (hb2.mono (by simp))
    have p0 : w2.cell? ⟨w.heap.size, 0, none⟩ = some (.int .i64 5) := F.keepC hb2 (by simp) (by simp [go_sem] <;> omega)
    have f0 : w2.frozen? ⟨w.heap.size, 0, none⟩ = false := F.keepF hb2 (by simp) (by simp [go_sem])
    have p1 : w2.cell? ⟨w.heap.size, 1, none⟩ = some (.int .i64 s) := F.keepC hb2 (by simp) (by simp [go_sem] <;> omega)
    have f1 : w2.frozen? ⟨w.heap.size, 1, none⟩ = false := F.keepF hb2 (by simp) (by simp [go_sem])
    have p2 : w2.cell? ⟨w.heap.size, 2, none⟩ = some (.slice pa0 np pc) := F.keepC hb2 (by simp) (by simp [go_sem] <;> omega)
    have f2 : w2.frozen? ⟨w.heap.size, 2, none⟩ = false := F.keepF hb2 (by simp) (by simp [go_sem])
    have p3 : w2.cell? ⟨w.heap.size, 3, none⟩ = some (.int .i64 b1) := F.keepC hb2 (by simp) (by simp [go_sem] <;> omega)
    have f3 : w2.frozen? ⟨w.heap.size, 3, none⟩ = false := F.keepF hb2 (by simp) (by simp [go_sem])
    have p4 : w2.cell? ⟨w.heap.size, 4, none⟩ = some (.int .i64 b2) := F.keepC hb2 (by simp) (by simp [go_sem] <;> omega)
    have f4 : w2.frozen? ⟨w.heap.size, 4, none⟩ = false := F.keepF hb2 (by simp) (by simp [go_sem])
    have p5 : w2.cell? ⟨w.heap.size, 5, none⟩ = some (.string ly) := F.keepC hb2 (by simp) (by simp [go_sem] <;> omega)
    have f5 : w2.frozen? ⟨w.heap.size, 5, none⟩ = false := F.keepF hb2 (by simp) (by simp [go_sem])
    have p6 : w2.cell? ⟨w.heap.size, 6, none⟩ = some (.slice ka n kc) := F.keepC hb2 (by simp) (by simp [go_sem] <;> omega)
    have f6 : w2.frozen? ⟨w.heap.size, 6, none⟩ = false := F.keepF hb2 (by simp) (by simp [go_sem])
    have s2 : w.heap.size < w2.heap.size := by omega
    clear hb2
    go_wp2_with fail
    go_returns
    exact ⟨rfl, ((k2.setCell (p := ⟨w.heap.size, 6, none⟩) (Nat.le_refl _) _).setCell (p := ⟨w.heap.size, 3, none⟩) (Nat.le_refl _) _).setCell (p := ⟨w.heap.size, 4, none⟩) (Nat.le_refl _) _⟩
  replace x4 : ly.size = 0 := by omega
  have t4 := isE_yes x4
  have hR : M.ra 5 s np L P O b1 b2 ly n = true := by unfold M.ra; rw [if_neg (by omega)]; simp [hnm, x1, x4]
  rw [hR]
  clear hR hnm
  go_enter Tryz.func45, Tryz.ntmps45
  go_wp2_with fail
  refine (isShare_yes s _ hs1 hs2).mono ?_
  rintro e w1 ⟨rfl, hw⟩
  rw [hw]
  go_wp2_with fail
  refine (HN _ (ht.step (by go_grown)) (hpw.step (by go_grown))).mono ?_
  rintro e w2 ⟨rfl, hb2⟩
  have z2 := hb2.size
  simp at z2
  have k2 : Below w.heap.size w w2 := Below.trans (by go_grown) (hb2.mono (by simp))
  have p0 : w2.cell? ⟨w.heap.size, 0, none⟩ = some (.int .i64 5) := F.keepC hb2 (by simp) (by simp [go_sem] <;> omega)
  have f0 : w2.frozen? ⟨w.heap.size, 0, none⟩ = false := F.keepF hb2 (by simp) (by simp [go_sem])
  have p1 : w2.cell? ⟨w.heap.size, 1, none⟩ = some (.int .i64 s) := F.keepC hb2 (by simp) (by simp [go_sem] <;> omega)
  have f1 : w2.frozen? ⟨w.heap.size, 1, none⟩ = false := F.keepF hb2 (by simp) (by simp [go_sem])
  have p2 : w2.cell? ⟨w.heap.size, 2, none⟩ = some (.slice pa0 np pc) := F.keepC hb2 (by simp) (by simp [go_sem] <;> omega)
  have f2 : w2.frozen? ⟨w.heap.size, 2, none⟩ = false := F.keepF hb2 (by simp) (by simp [go_sem])
  have p3 : w2.cell? ⟨w.heap.size, 3, none⟩ = some (.int .i64 b1) := F.keepC hb2 (by simp) (by simp [go_sem] <;> omega)
  have f3 : w2.frozen? ⟨w.heap.size, 3, none⟩ = false := F.keepF hb2 (by simp) (by simp [go_sem])
  have p4 : w2.cell? ⟨w.heap.size, 4, none⟩ = some (.int .i64 b2) := F.keepC hb2 (by simp) (by simp [go_sem] <;> omega)
  have f4 : w2.frozen? ⟨w.heap.size, 4, none⟩ = false := F.keepF hb2 (by simp) (by simp [go_sem])
  have p5 : w2.cell? ⟨w.heap.size, 5, none⟩ = some (.string ly) := F.keepC hb2 (by simp) (by simp [go_sem] <;> omega)
  have f5 : w2.frozen? ⟨w.heap.size, 5, none⟩ = false := F.keepF hb2 (by simp) (by simp [go_sem])
  have p6 : w2.cell? ⟨w.heap.size, 6, none⟩ = some (.slice ka n kc) := F.keepC hb2 (by simp) (by simp [go_sem] <;> omega)
  have f6 : w2.frozen? ⟨w.heap.size, 6, none⟩ = false := F.keepF hb2 (by simp) (by simp [go_sem])
  have s2 : w.heap.size < w2.heap.size := by omega
  clear hb2
  go_wp2_with fail
  go_returns
  exact ⟨rfl, ((k2.setCell (p := ⟨w.heap.size, 6, none⟩) (Nat.le_refl _) _).setCell (p := ⟨w.heap.size, 3, none⟩) (Nat.le_refl _) _).setCell (p := ⟨w.heap.size, 4, none⟩) (Nat.le_refl _) _⟩

theorem rightAlone_any (k s b1 b2 : Int) (pa0 ka : Option Addr) (np pc n kc B : Nat) (L P O : Nat → Int) (ly : ByteArray) (w : World) (hp : PS w B pa0 np L P O) (hB : B ≤ w.heap.size) (hc : np ≤ pc) (hcm : pc ≤ 9223372036854775807) (hn : n ≤ kc) (hkm : kc ≤ 9223372036854775807) (hl : ly.size ≤ 140737488355328) (ht : Tab w) (hpw : Pows w) (hu : UT w) :
    Calls Tryz.prog 45 #[.agg #[.int .i64 k, .int .i64 s, .slice pa0 np pc, .int .i64 b1, .int .i64 b2, .string ly, .slice ka n kc]] w fun e w' => e = .returned (.bool (M.ra k s np L P O b1 b2 ly n)) ∧ Below w.heap.size w w' := by
  by_cases hsh : s < 1 ∨ 65536 < s
  · exact ra_share k s b1 b2 pa0 ka np pc n kc B L P O ly w hp hB hc hcm hn hkm hl ht hpw hu hsh
  · by_cases hk : k < 1 ∨ 5 < k
    · exact ra_other k s b1 b2 pa0 ka np pc n kc B L P O ly w hp hB hc hcm hn hkm hl ht hpw hu (by omega) (by omega) hk
    · rcases (show k = 1 ∨ k = 2 ∨ k = 3 ∨ k = 4 ∨ k = 5 by omega) with e | e | e | e | e
      · exact ra_1 k s b1 b2 pa0 ka np pc n kc B L P O ly w hp hB hc hcm hn hkm hl ht hpw hu (by omega) (by omega) e
      · exact ra_2 k s b1 b2 pa0 ka np pc n kc B L P O ly w hp hB hc hcm hn hkm hl ht hpw hu (by omega) (by omega) e
      · exact ra_3 k s b1 b2 pa0 ka np pc n kc B L P O ly w hp hB hc hcm hn hkm hl ht hpw hu (by omega) (by omega) e
      · exact ra_4 k s b1 b2 pa0 ka np pc n kc B L P O ly w hp hB hc hcm hn hkm hl ht hpw hu (by omega) (by omega) e
      · exact ra_5 k s b1 b2 pa0 ka np pc n kc B L P O ly w hp hB hc hcm hn hkm hl ht hpw hu (by omega) (by omega) e
end Go.Proofs.YtaohahahhjkcdaeGreatDoor.G

/- How items lie in memory; what the program's rightItems comes to. -/
namespace Go.Proofs.YtaohahahhjkcdaeGreatDoor.G
open Go.RowKit
set_option linter.unusedVariables false
set_option linter.unusedSimpArgs false

/-- Kids as they lie, in blocks below B. -/
def LL (w : World) (B : Nat) : M.It → Option Addr → Prop
  | ⟨true, _, _, _, _, _, _, _, _, _, _, _⟩, _ => False
  | ⟨false, _, _, _, _, _, _, _, _, _, n, kid⟩, ka => 0 < n → ∃ b off, ka = some ⟨b, off, none⟩ ∧ b < B ∧ ∀ j, j < n → ∃ (pa' : Option Addr) (pc' : Nat) (ka' : Option Addr) (kc' : Nat),
      w.cell? ⟨b, off + j * 7, none⟩ = some (.int .i64 (kid j).k) ∧ w.cell? ⟨b, off + j * 7 + 1, none⟩ = some (.int .i64 (kid j).s) ∧ w.cell? ⟨b, off + j * 7 + 2, none⟩ = some (.slice pa' (kid j).np pc') ∧ w.cell? ⟨b, off + j * 7 + 3, none⟩ = some (.int .i64 (kid j).b1) ∧ w.cell? ⟨b, off + j * 7 + 4, none⟩ = some (.int .i64 (kid j).b2) ∧ w.cell? ⟨b, off + j * 7 + 5, none⟩ = some (.string (kid j).ly) ∧ w.cell? ⟨b, off + j * 7 + 6, none⟩ = some (.slice ka' (kid j).n kc') ∧
      (kid j).np ≤ pc' ∧ pc' ≤ 9223372036854775807 ∧ (kid j).n ≤ kc' ∧ kc' ≤ 9223372036854775807 ∧ (kid j).ly.size ≤ 140737488355328 ∧ PS w B pa' (kid j).np (kid j).pl (kid j).pa (kid j).po ∧ LL w B (kid j) ka'
theorem LL.step {w w' : World} {B : Nat} (t : M.It) : ∀ ka, LL w B t ka → Below B w w' → LL w' B t ka := by
  induction t using M.It.ind with
  | nil => intro ka h hb; exact False.elim h
  | mk k s np pl pa po b1 b2 ly n kid ih =>
    intro ka h hb hn
    obtain ⟨b, off, e1, e2, e3⟩ := h hn
    refine ⟨b, off, e1, e2, fun j hj => ?_⟩
    obtain ⟨pa', pc', ka', kc', c0, c1, c2, c3, c4, c5, c6, d1, d2, d3, d4, d5, d6, d7⟩ := e3 j hj
    exact ⟨pa', pc', ka', kc', F.keepC hb e2 c0, F.keepC hb e2 c1, F.keepC hb e2 c2, F.keepC hb e2 c3, F.keepC hb e2 c4, F.keepC hb e2 c5, F.keepC hb e2 c6, d1, d2, d3, d4, d5, d6.step hb, ih j _ d7 hb⟩
/-- The tables stand, whatever is done above B. -/
def GT (w : World) (B : Nat) : Prop := ∀ w', Below B w w' → Tab w' ∧ Pows w' ∧ UT w'
theorem GT.step {w w' : World} {B : Nat} (h : GT w B) (hb : Below B w w') : GT w' B := fun w2 h2 => h w2 (hb.trans h2)
theorem GT.here {w : World} {B : Nat} (h : GT w B) : Tab w ∧ Pows w ∧ UT w := h w (Below.refl _ _)

/-- What rightItems leaves: the count at pm, all below B as it was. -/
structure RS (w : World) (B pm : Nat) (m : Int) (w' : World) : Prop where
  b : Below B w w'
  z : w.heap.size ≤ w'.heap.size
  c : w'.cell? ⟨pm, 0, none⟩ = some (.int .i64 m)
  f : w'.frozen? ⟨pm, 0, none⟩ = false
def RIC (t : M.It) : Prop := ∀ (lev m : Int) (w : World) (B pm : Nat) (ka : Option Addr) (kc : Nat), LL w B t ka → GT w B → B ≤ pm → pm < w.heap.size → w.cell? ⟨pm, 0, none⟩ = some (.int .i64 m) → w.frozen? ⟨pm, 0, none⟩ = false → t.n ≤ kc → kc ≤ 9223372036854775807 → 1 ≤ lev → lev ≤ 32 → 0 ≤ m → m ≤ 4095 →
  Calls Tryz.prog 30 #[.slice ka t.n kc, .int .i64 lev, .pointer (some ⟨pm, 0, none⟩)] w fun e w' => e = .returned (.bool (M.ri t lev m).1) ∧ RS w B pm (M.ri t lev m).2 w'
end Go.Proofs.YtaohahahhjkcdaeGreatDoor.G

/- What the program's rightItems comes to, at every tree of items. -/
namespace Go.Proofs.YtaohahahhjkcdaeGreatDoor.G
open Go.RowKit
set_option linter.unusedVariables false
set_option linter.unusedSimpArgs false

set_option maxRecDepth 20000 in
set_option maxHeartbeats 4000000 in
theorem rightItems_any (t : M.It) : RIC t := by
  induction t using M.It.ind with
  | nil => intro lev m w B pm ka kc h; exact False.elim h
  | mk k s np pl pa po b1 b2 ly n kid ih =>
    intro lev m w B pm ka kc hl hg hBp hpm cm fm hn hkc l1 l2 m1 m2
    show Calls Tryz.prog 30 #[.slice ka n kc, .int .i64 lev, .pointer (some ⟨pm, 0, none⟩)] w _
    by_cases hc : n = 0 ∨ 31 < lev
    · rw [M.ri_none _ _ _ _ _ _ _ _ _ _ _ _ _ hc]
      have hS : RS w B pm m w := ⟨Below.refl _ _, Nat.le_refl _, cm, fm⟩
      by_cases h0 : n = 0
      · subst h0
        go_enter Tryz.func30, Tryz.ntmps30
        go_wp2_with fail
        go_ret
        exact ⟨rfl, hS⟩
      · have h0b : ((n : Int) == 0) = false := by simp; omega
        have h1 : 31 < lev := by omega
        clear hc
        go_enter Tryz.func30, Tryz.ntmps30
        go_wp2_with fail
        go_ret
        exact ⟨rfl, hS⟩
    · rw [M.ri_some _ _ _ _ _ _ _ _ _ _ _ _ _ hc]
      have h0b : ((n : Int) == 0) = false := by simp; omega
      have h1 : ¬ 31 < lev := by omega
      obtain ⟨b, off, rfl, hbl, cells⟩ := hl (by omega)
      have HC : Hid (∀ j, j < n → _) := cells
      obtain ⟨X, hX⟩ : ∃ X, M.rk (M.r1 kid lev) n 0 m = X := ⟨_, rfl⟩
      rw [hX]
      have HX : Hid (M.rk (M.r1 kid lev) n 0 m = X) := hX
      have HI : Hid (∀ j, RIC (kid j)) := ih
      clear hX ih cells hl hc
      go_enter Tryz.func30, Tryz.ntmps30
      go_wp2_with fail
      go_loopw [18] (fun i wr => ∃ (j : Nat) (mm : Int), j ≤ n ∧ i = .int .i64 j ∧ Hid (M.RK kid lev n j m mm) ∧ 0 ≤ mm ∧ mm ≤ 4095 ∧ RS w B pm mm wr) (fun i _ => n - (intOf i).toNat)
      case atStart => exact ⟨0, m, by omega, rfl, M.RK.start kid lev n m, m1, m2, ⟨Below.refl _ _, Nat.le_refl _, cm, fm⟩⟩
      case round =>
        obtain ⟨j, mm, hjn, rfl, hRK, x1, x2, hS⟩ := hrel
        by_cases hlt : j < n
        · obtain ⟨pa', pc', ka', kc', c0, c1, c2, c3, c4, c5, c6, d1, d2, d3, d4, d5, d6, d7⟩ := HC.out j hlt
          have r0 := F.keepC hS.b hbl c0
          have r1 := F.keepC hS.b hbl c1
          have r2 := F.keepC hS.b hbl c2
          have r3 := F.keepC hS.b hbl c3
          have r4 := F.keepC hS.b hbl c4
          have r5 := F.keepC hS.b hbl c5
          have r6 := F.keepC hS.b hbl c6
          have zr := hS.z
          have sc := hS.c
          have sf := hS.f
          have sp : pm < wr.heap.size := by omega
          have sp' : pm ≠ wr.heap.size := by omega
          have sb : b < wr.heap.size := by omega
          have hX1 := fun hb => hRK.out.bad hlt hb
          have HX1 : Hid ((M.r1 kid lev j mm).1 = false → X = M.r1 kid lev j mm) := fun hb => by rw [← HX.out]; exact hX1 hb
          have HX2 : Hid ((M.r1 kid lev j mm).1 = true → M.RK kid lev n (j + 1) m (M.r1 kid lev j mm).2) := fun hb => hRK.out.next hlt hb
          have HA := fun W hW => rightAlone_any (kid j).k (kid j).s (kid j).b1 (kid j).b2 pa' ka' (kid j).np pc' (kid j).n kc' B (kid j).pl (kid j).pa (kid j).po (kid j).ly W (d6.step hW)
          have hra : M.ra (kid j).k (kid j).s (kid j).np (kid j).pl (kid j).pa (kid j).po (kid j).b1 (kid j).b2 (kid j).ly (kid j).n = M.raI (kid j) := rfl
          rw [hra] at HA
          have HK := fun W => hasKids_any (kid j).k (kid j).s (kid j).b1 (kid j).b2 (.slice pa' (kid j).np pc') (.slice ka' (kid j).n kc') (kid j).ly W
          obtain ⟨W1, hW1⟩ : ∃ W1, W1 = (wr.setCell ⟨pm, 0, none⟩ (.int .i64 (mm + 1))).alloc (Obj.cells #[.int .i64 (kid j).k, .int .i64 (kid j).s, .slice pa' (kid j).np pc', .int .i64 (kid j).b1, .int .i64 (kid j).b2, .string (kid j).ly, .slice ka' (kid j).n kc'] 61) := ⟨_, rfl⟩
          have bW : Below B w W1 := by rw [hW1]; exact (hS.b.setCell (p := ⟨pm, 0, none⟩) hBp _).alloc (by simp; omega) _
          have zW : W1.heap.size = wr.heap.size + 1 := by rw [hW1]; simp
          have cW : W1.cell? ⟨pm, 0, none⟩ = some (.int .i64 (mm + 1)) := by rw [hW1]; simp [go_sem, sc, sp]
          have fW : W1.frozen? ⟨pm, 0, none⟩ = false := by rw [hW1]; simp [go_sem, sf, sp]
          have i0 : W1.cell? ⟨wr.heap.size, 0, none⟩ = some (.int .i64 (kid j).k) := by rw [hW1]; simp [go_sem, sp, sp']
          have i1 : W1.cell? ⟨wr.heap.size, 1, none⟩ = some (.int .i64 (kid j).s) := by rw [hW1]; simp [go_sem, sp, sp']
          have i2 : W1.cell? ⟨wr.heap.size, 2, none⟩ = some (.slice pa' (kid j).np pc') := by rw [hW1]; simp [go_sem, sp, sp']
          have i3 : W1.cell? ⟨wr.heap.size, 3, none⟩ = some (.int .i64 (kid j).b1) := by rw [hW1]; simp [go_sem, sp, sp']
          have i4 : W1.cell? ⟨wr.heap.size, 4, none⟩ = some (.int .i64 (kid j).b2) := by rw [hW1]; simp [go_sem, sp, sp']
          have i5 : W1.cell? ⟨wr.heap.size, 5, none⟩ = some (.string (kid j).ly) := by rw [hW1]; simp [go_sem, sp, sp']
          have i6 : W1.cell? ⟨wr.heap.size, 6, none⟩ = some (.slice ka' (kid j).n kc') := by rw [hW1]; simp [go_sem, sp, sp']
          have fin : ∀ w2, Below W1.heap.size W1 w2 → RS w B pm (mm + 1) w2 := fun w2 h2 => ⟨bW.trans (h2.mono (by omega)), by have := h2.size; omega, F.keepC h2 (by omega) cW, F.keepF h2 (by omega) fW⟩
          by_cases e1 : 4095 < mm + 1
          · have hR : Hid (X = (false, mm + 1)) := by
              show _ = _
              rw [HX1.out (by rw [M.r1_bad (.inl e1)]), M.r1_bad (.inl e1)]
            clear hX1 HX1 HX2 HA HK hRK HC HI
            go_wp2_with fail
            rw [← hW1]
            go_ret
            exact ⟨by rw [hR.out]; rfl, by rw [hR.out]; exact fin W1 (Below.refl _ _)⟩
          · obtain ⟨g1, g2, g3⟩ := (hg.step bW).here
            cases hrb : M.raI (kid j)
            · have hR : Hid (X = (false, mm + 1)) := by
                show _ = _
                rw [HX1.out (by rw [M.r1_bad (.inr hrb)]), M.r1_bad (.inr hrb)]
              rw [hrb] at HA
              clear hX1 HX1 HX2 HK hRK HC HI
              go_wp2_with fail
              rw [← hW1]
              refine (HA W1 bW (by omega) d1 d2 d3 d4 d5 g1 g2 g3).mono ?_
              rintro e w2 ⟨rfl, hb2⟩
              have hf := fin w2 hb2
              go_wp2_with fail
              go_ret
              exact ⟨by rw [hR.out]; rfl, by rw [hR.out]; exact hf⟩
            · have hnb : ¬ (4095 < mm + 1 ∨ M.raI (kid j) = false) := by rw [hrb]; simp; omega
              rw [hrb] at HA
              by_cases hk : (kid j).k = 4 ∨ (kid j).k = 5
              · have hr1 := M.r1_kids (lev := lev) hnb hk
                have HR := HI.out j (lev + 1) (mm + 1)
                have hle := M.ri_le (kid j) (lev + 1) (mm + 1) (by omega)
                rw [hr1] at HX1 HX2
                rw [decide_eq_true hk] at HK
                clear hX1 HC HI hr1 hnb hk hRK
                obtain ⟨Y, hY⟩ : ∃ Y, M.ri (kid j) (lev + 1) (mm + 1) = Y := ⟨_, rfl⟩
                rw [hY] at HX1 HX2 HR hle
                clear hY
                obtain ⟨Y1, Y2⟩ := Y
                simp only at HX1 HX2 HR hle
                go_wp2_with fail
                rw [← hW1]
                refine (HA W1 bW (by omega) d1 d2 d3 d4 d5 g1 g2 g3).mono ?_
                rintro e w2 ⟨rfl, hb2⟩
                have z2 := hb2.size
                have j0 := F.keepC hb2 (by omega) i0
                have j1 := F.keepC hb2 (by omega) i1
                have j2 := F.keepC hb2 (by omega) i2
                have j3 := F.keepC hb2 (by omega) i3
                have j4 := F.keepC hb2 (by omega) i4
                have j5 := F.keepC hb2 (by omega) i5
                have j6 := F.keepC hb2 (by omega) i6
                have s2 : wr.heap.size < w2.heap.size := by omega
                go_wp2_with fail
                refine (HK _).mono ?_
                rintro e w3 ⟨rfl, hb3⟩
                have z3 := hb3.size
                have hb13 : Below W1.heap.size W1 w3 := hb2.trans (hb3.mono hb2.size)
                have j6' := F.keepC hb3 (by omega) j6
                have s3 : wr.heap.size < w3.heap.size := by omega
                have hf := fin w3 hb13
                have b3 := bW.trans (hb13.mono (show B ≤ W1.heap.size by omega))
                go_wp2_with fail
                refine (HR w3 B pm ka' kc' (LL.step (kid j) _ d7 b3) (hg.step b3) hBp (by omega) hf.c hf.f d3 d4 (by omega) (by omega) (by omega) (by omega)).mono ?_
                rintro e w4 ⟨rfl, hS4⟩
                have hF4 : RS w B pm Y2 w4 := ⟨b3.trans hS4.b, by have := hS4.z; omega, hS4.c, hS4.f⟩
                cases hy : Y1
                · have hR : Hid (X = (false, Y2)) := by show _ = _; rw [HX1.out hy, hy]
                  clear HX1 HX2 hle
                  go_wp2_with fail
                  go_ret
                  exact ⟨by rw [hR.out]; rfl, by rw [hR.out]; exact hF4⟩
                · have hRK2 : Hid (M.RK kid lev n (j + 1) m Y2) := HX2.out hy
                  have hle2 := hle.2.2 hy
                  have hle1 := hle.1
                  clear HX1 HX2 hle
                  go_wp2_with fail
                  go_roundw
                  case rel => exact ⟨j + 1, Y2, by omega, by first | rfl | go_num, hRK2, by omega, hle2, hF4⟩
                  case measure => simp [intOf]; omega
              · have hr1 := M.r1_leaf (lev := lev) hnb hk
                have hRK2 : Hid (M.RK kid lev n (j + 1) m (mm + 1)) := by
                  have := HX2.out (by rw [hr1])
                  rw [hr1] at this; exact this
                rw [decide_eq_false hk] at HK
                clear hX1 HX1 HX2 HC HI hr1 hnb hk hRK
                go_wp2_with fail
                rw [← hW1]
                refine (HA W1 bW (by omega) d1 d2 d3 d4 d5 g1 g2 g3).mono ?_
                rintro e w2 ⟨rfl, hb2⟩
                have z2 := hb2.size
                have j0 := F.keepC hb2 (by omega) i0
                have j1 := F.keepC hb2 (by omega) i1
                have j2 := F.keepC hb2 (by omega) i2
                have j3 := F.keepC hb2 (by omega) i3
                have j4 := F.keepC hb2 (by omega) i4
                have j5 := F.keepC hb2 (by omega) i5
                have j6 := F.keepC hb2 (by omega) i6
                have s2 : wr.heap.size < w2.heap.size := by omega
                go_wp2_with fail
                refine (HK _).mono ?_
                rintro e w3 ⟨rfl, hb3⟩
                have hf := fin w3 (hb2.trans (hb3.mono hb2.size))
                go_wp2_with fail
                go_roundw
                case rel => exact ⟨j + 1, mm + 1, by omega, by first | rfl | go_num, hRK2, by omega, by omega, hf⟩
                case measure => simp [intOf]; omega
        · obtain rfl : j = n := by omega
          have hR : Hid (X = (true, mm)) := by show _ = _; rw [← HX.out]; exact hRK.out.fin
          clear HC HI hRK
          go_wp2_with fail
          go_ret
          exact ⟨by rw [hR.out]; rfl, by rw [hR.out]; exact hS⟩
end Go.Proofs.YtaohahahhjkcdaeGreatDoor.G

/- What the program's isName and wrongVoice come to. -/
namespace Go.Proofs.YtaohahahhjkcdaeGreatDoor.G
open Go.RowKit
set_option linter.unusedVariables false
set_option linter.unusedSimpArgs false

set_option maxRecDepth 100000 in
set_option maxHeartbeats 2000000 in
theorem isName_any (s : ByteArray) (w : World) :
    Calls Tryz.prog 28 #[.string s] w fun e w' => e = .returned (.bool (M.nm s)) ∧ Below w.heap.size w w' := by
  by_cases h1 : s.size < 1
  · rw [M.nm_size (by omega)]
    have d1 : (s.size : Int) < 1 := by omega
    go_enter Tryz.func28, Tryz.ntmps28
    go_wp2_with fail
    go_ret
    exact ⟨rfl, by go_grown⟩
  have d1 : ¬ (s.size : Int) < 1 := by omega
  by_cases h2 : 32 < s.size
  · rw [M.nm_size (by omega)]
    have d2 : (32 : Int) < s.size := by omega
    go_enter Tryz.func28, Tryz.ntmps28
    go_wp2_with fail
    go_ret
    exact ⟨rfl, by go_grown⟩
  have d2 : ¬ (32 : Int) < s.size := by omega
  obtain ⟨V, hV⟩ : ∃ V, M.nm s = V := ⟨_, rfl⟩
  rw [hV]
  have HY : Hid ((∀ i (hi : i < s.size), 97 ≤ (s[i]'hi).toNat ∧ (s[i]'hi).toNat ≤ 122) → V = true) := fun h => by rw [← hV]; exact M.nm_yes (by omega) (by omega) h
  have HN : Hid (∀ i (hi : i < s.size), ¬ (97 ≤ (s[i]'hi).toNat ∧ (s[i]'hi).toNat ≤ 122) → V = false) := fun i hi h => by rw [← hV]; exact M.nm_no i hi h
  clear hV
  go_enter Tryz.func28, Tryz.ntmps28
  go_wp2_with fail
  go_loopw [4] (fun n w' => ∃ pos : Nat, w' = w.iter s pos ∧ pos ≤ s.size ∧ Hid (∀ i (hi : i < s.size), i < pos → 97 ≤ (s[i]'hi).toNat ∧ (s[i]'hi).toNat ≤ 122)) (fun _ w' => s.size - w'.iterPos w.heap.size)
  case atStart => exact ⟨0, rfl, by omega, fun i hi h => by omega⟩
  case round =>
    obtain ⟨pos, rfl, hps, hall⟩ := hrel
    by_cases hq : pos < s.size
    · by_cases hin : 97 ≤ (s[pos]'hq).toNat ∧ (s[pos]'hq).toNat ≤ 122
      · have hnx : ∀ ty, (Instr.next (.pointer (some ⟨w.heap.size, 0, none⟩)) true ty).run Tryz.prog (w.iter s pos) = _ := fun ty => run_next_ascii w s pos ty hq (by omega)
        have hall2 : Hid (∀ i (hi : i < s.size), i < pos + 1 → 97 ≤ (s[i]'hi).toNat ∧ (s[i]'hi).toNat ≤ 122) := fun i hi h => by
          by_cases e : i = pos
          · subst e; exact hin
          · exact hall.out i hi (by omega)
        obtain ⟨i1, i2⟩ := hin
        clear HY HN hall
        generalize (s[pos]'hq).toNat = Bv at *
        have e1 : ¬ (Bv : Int) < 97 := by omega
        have e2 : ¬ (122 : Int) < Bv := by omega
        go_wp2_with fail
        go_roundw
        case rel => exact ⟨pos + 1, rfl, by omega, hall2⟩
        case measure => simp; omega
      · have hR : Hid (V = false) := HN.out pos hq hin
        by_cases ha : (s[pos]'hq).toNat < 128
        · have hnx : ∀ ty, (Instr.next (.pointer (some ⟨w.heap.size, 0, none⟩)) true ty).run Tryz.prog (w.iter s pos) = _ := fun ty => run_next_ascii w s pos ty hq ha
          clear HY HN hall
          generalize (s[pos]'hq).toNat = Bv at *
          rcases (show (Bv : Int) < 97 ∨ (¬ (Bv : Int) < 97 ∧ (122 : Int) < Bv) by omega) with e1 | ⟨e1, e2⟩
          all_goals
            clear hin
            go_wp2_with fail
            go_ret
            exact ⟨by rw [hR.out]; rfl, iter_below w s _⟩
        · have hnx : ∀ ty, (Instr.next (.pointer (some ⟨w.heap.size, 0, none⟩)) true ty).run Tryz.prog (w.iter s pos) = _ := fun ty => run_next_any w s pos ty hq
          have g1 := (decode_high s pos hq (by omega)).1
          clear HY HN hall hin ha
          generalize (Utf8.decode s pos).1 = Rn at *
          have e1 : ¬ (Rn : Int) < 97 := by omega
          have e2 : (122 : Int) < Rn := by omega
          go_wp2_with fail
          go_ret
          exact ⟨by rw [hR.out]; rfl, iter_below w s _⟩
    · have hnx : ∀ ty, (Instr.next (.pointer (some ⟨w.heap.size, 0, none⟩)) true ty).run Tryz.prog (w.iter s pos) = _ := fun ty => run_next_end w s pos ty hq
      have hR : Hid (V = true) := HY.out (fun i hi => hall.out i hi (by omega))
      clear HY HN hall
      go_wp2_with fail
      go_ret
      exact ⟨by rw [hR.out]; rfl, iter_below w s _⟩

theorem PS.mono {w : World} {B C : Nat} {ao : Option Addr} {n : Nat} {L A O : Nat → Int} (h : PS w B ao n L A O) (hb : B ≤ C) : PS w C ao n L A O :=
  ⟨fun hn => by obtain ⟨b, off, h1, h2, h3⟩ := h.at' hn; exact ⟨b, off, h1, by omega, h3⟩⟩
theorem LL.mono {w : World} {B C : Nat} (hb : B ≤ C) (t : M.It) : ∀ ka, LL w B t ka → LL w C t ka := by
  induction t using M.It.ind with
  | nil => intro ka h; exact False.elim h
  | mk k s np pl pa po b1 b2 ly n kid ih =>
    intro ka h hn
    obtain ⟨b, off, e1, e2, e3⟩ := h hn
    refine ⟨b, off, e1, by omega, fun j hj => ?_⟩
    obtain ⟨pa', pc', ka', kc', c0, c1, c2, c3, c4, c5, c6, d1, d2, d3, d4, d5, d6, d7⟩ := e3 j hj
    exact ⟨pa', pc', ka', kc', c0, c1, c2, c3, c4, c5, c6, d1, d2, d3, d4, d5, d6.mono hb, ih j _ d7⟩
theorem GT.mono {w : World} {B C : Nat} (h : GT w B) (hb : B ≤ C) : GT w C := fun w' h' => h w' (h'.mono hb)
/-- Bars as they lie. -/
structure BL (w : World) (B : Nat) (ao : Option Addr) (n : Nat) (up dn : Nat → Int) (t : Nat → M.It) : Prop where
  at' : 0 < n → ∃ b off, ao = some ⟨b, off, none⟩ ∧ b < B ∧ ∀ j, j < n → ∃ (ia : Option Addr) (ic : Nat), w.cell? ⟨b, off + j * 3, none⟩ = some (.int .i64 (up j)) ∧ w.cell? ⟨b, off + j * 3 + 1, none⟩ = some (.int .i64 (dn j)) ∧ w.cell? ⟨b, off + j * 3 + 2, none⟩ = some (.slice ia (t j).n ic) ∧ (t j).n ≤ ic ∧ ic ≤ 9223372036854775807 ∧ LL w B (t j) ia
theorem BL.step {w w' : World} {B : Nat} {ao : Option Addr} {n : Nat} {up dn : Nat → Int} {t : Nat → M.It} (h : BL w B ao n up dn t) (hb : Below B w w') : BL w' B ao n up dn t :=
  ⟨fun hn => by
    obtain ⟨b, off, h1, h2, h3⟩ := h.at' hn
    refine ⟨b, off, h1, h2, fun j hj => ?_⟩
    obtain ⟨ia, ic, c0, c1, c2, c3, c4, c5⟩ := h3 j hj
    exact ⟨ia, ic, F.keepC hb h2 c0, F.keepC hb h2 c1, F.keepC hb h2 c2, c3, c4, LL.step _ _ c5 hb⟩⟩
theorem BL.mono {w : World} {B C : Nat} {ao : Option Addr} {n : Nat} {up dn : Nat → Int} {t : Nat → M.It} (h : BL w B ao n up dn t) (hb : B ≤ C) : BL w C ao n up dn t :=
  ⟨fun hn => by
    obtain ⟨b, off, h1, h2, h3⟩ := h.at' hn
    refine ⟨b, off, h1, by omega, fun j hj => ?_⟩
    obtain ⟨ia, ic, c0, c1, c2, c3, c4, c5⟩ := h3 j hj
    exact ⟨ia, ic, c0, c1, c2, c3, c4, LL.mono hb _ _ c5⟩⟩
end Go.Proofs.YtaohahahhjkcdaeGreatDoor.G
