/- The document's way through the signs and the program's are one. -/
import Derived.Test.YtmccbokjigjpnaaDoorQD10
import Derived.Test.YtmccbokjigjpnaaDoorQT13
namespace Go.Proofs.YtmccbokjigjpnaaDoor
set_option linter.unusedVariables false
set_option linter.unusedSimpArgs false
namespace M

def fs (s : ByteArray) (i : Nat) : Option Nat := fsN (s.size - i) (s.get! i).toNat (s.get! (i + 1)).toNat (s.get! (i + 2)).toNat (s.get! (i + 3)).toNat
theorem u8_eq (a : UInt8) (n : Nat) (c : UInt8) (h : c.toNat = n) : a = c ↔ a.toNat = n := by
  rw [← h]; exact ⟨fun e => by rw [e], fun e => UInt8.toNat_inj.1 e⟩
theorem st3 (s : ByteArray) (i : Nat) (c0 c1 c2 : UInt8) : stl s i [c0, c1, c2] ↔ 2 < s.size - i ∧ (s.get! i).toNat = c0.toNat ∧ (s.get! (i + 1)).toNat = c1.toNat ∧ (s.get! (i + 2)).toNat = c2.toNat := by
  simp only [stl, u8_eq _ _ _ rfl, and_true]
  constructor
  · rintro ⟨h1, h2, h3, h4, h5, h6⟩; exact ⟨by omega, h2, h4, h6⟩
  · rintro ⟨h1, h2, h3, h4⟩; exact ⟨by omega, h2, by omega, h3, by omega, h4⟩
theorem st4 (s : ByteArray) (i : Nat) (c0 c1 c2 c3 : UInt8) : stl s i [c0, c1, c2, c3] ↔ 3 < s.size - i ∧ (s.get! i).toNat = c0.toNat ∧ (s.get! (i + 1)).toNat = c1.toNat ∧ (s.get! (i + 2)).toNat = c2.toNat ∧ (s.get! (i + 3)).toNat = c3.toNat := by
  simp only [stl, u8_eq _ _ _ rfl, and_true]
  constructor
  · rintro ⟨h1, h2, h3, h4, h5, h6, h7, h8⟩; exact ⟨by omega, h2, h4, h6, h8⟩
  · rintro ⟨h1, h2, h3, h4, h5⟩; exact ⟨by omega, h2, by omega, h3, by omega, h4, by omega, h5⟩
theorem st1 (s : ByteArray) (i : Nat) (c0 : UInt8) : stl s i [c0] ↔ 0 < s.size - i ∧ (s.get! i).toNat = c0.toNat := by
  simp only [stl, u8_eq _ _ _ rfl, and_true]
  constructor
  · rintro ⟨h1, h2⟩; exact ⟨by omega, h2⟩
  · rintro ⟨h1, h2⟩; exact ⟨by omega, h2⟩
theorem b_iff {b : Bool} {p : Prop} (h : b = true ↔ p) : (p → b = true) ∧ (¬ p → b = false) := ⟨h.2, fun hp => by cases b; rfl; exact absurd (h.1 rfl) hp⟩
/-- Which sign stands at a place. -/
theorem fs_none (s : ByteArray) (i : Nat) (h : fs s i = none) (k : Nat) (hk : k < 7) : sts s i (TB k) = false := by
  unfold fs fsN at h
  repeat' split at h
  all_goals first | (cases h; done) | skip
  rcases (show k = 0 ∨ k = 1 ∨ k = 2 ∨ k = 3 ∨ k = 4 ∨ k = 5 ∨ k = 6 by omega) with rfl | rfl | rfl | rfl | rfl | rfl | rfl
  · exact (b_iff ((sts_iff s i [226, 153, 175] (by simp)).trans (st3 s i 226 153 175))).2 (by assumption)
  · exact (b_iff ((sts_iff s i [35] (by simp)).trans (st1 s i 35))).2 (by assumption)
  · exact (b_iff ((sts_iff s i [240, 157, 132, 170] (by simp)).trans (st4 s i 240 157 132 170))).2 (by assumption)
  · exact (b_iff ((sts_iff s i [120] (by simp)).trans (st1 s i 120))).2 (by assumption)
  · exact (b_iff ((sts_iff s i [226, 153, 173] (by simp)).trans (st3 s i 226 153 173))).2 (by assumption)
  · exact (b_iff ((sts_iff s i [98] (by simp)).trans (st1 s i 98))).2 (by assumption)
  · exact (b_iff ((sts_iff s i [240, 157, 132, 171] (by simp)).trans (st4 s i 240 157 132 171))).2 (by assumption)
theorem fs_some (s : ByteArray) (i j : Nat) (h : fs s i = some j) : sts s i (TB j) = true ∧ ∀ k, k < j → sts s i (TB k) = false := by
  unfold fs fsN at h
  repeat' split at h
  all_goals first | (cases h; done) | (simp only [Option.some.injEq] at h; subst h)
  all_goals
    refine ⟨?_, fun k hk => ?_⟩
    · first
        | exact (sts_iff s i [226, 153, 175] (by simp)).2 ((st3 s i 226 153 175).2 (by assumption))
        | exact (sts_iff s i [35] (by simp)).2 ((st1 s i 35).2 (by assumption))
        | exact (sts_iff s i [240, 157, 132, 170] (by simp)).2 ((st4 s i 240 157 132 170).2 (by assumption))
        | exact (sts_iff s i [120] (by simp)).2 ((st1 s i 120).2 (by assumption))
        | exact (sts_iff s i [226, 153, 173] (by simp)).2 ((st3 s i 226 153 173).2 (by assumption))
        | exact (sts_iff s i [98] (by simp)).2 ((st1 s i 98).2 (by assumption))
        | exact (sts_iff s i [240, 157, 132, 171] (by simp)).2 ((st4 s i 240 157 132 171).2 (by assumption))
    · rcases (show k = 0 ∨ k = 1 ∨ k = 2 ∨ k = 3 ∨ k = 4 ∨ k = 5 by omega) with rfl | rfl | rfl | rfl | rfl | rfl
      · first | omega | exact (b_iff ((sts_iff s i [226, 153, 175] (by simp)).trans (st3 s i 226 153 175))).2 (by assumption)
      · first | omega | exact (b_iff ((sts_iff s i [35] (by simp)).trans (st1 s i 35))).2 (by assumption)
      · first | omega | exact (b_iff ((sts_iff s i [240, 157, 132, 170] (by simp)).trans (st4 s i 240 157 132 170))).2 (by assumption)
      · first | omega | exact (b_iff ((sts_iff s i [120] (by simp)).trans (st1 s i 120))).2 (by assumption)
      · first | omega | exact (b_iff ((sts_iff s i [226, 153, 173] (by simp)).trans (st3 s i 226 153 173))).2 (by assumption)
      · first | omega | exact (b_iff ((sts_iff s i [98] (by simp)).trans (st1 s i 98))).2 (by assumption)

theorem r1_size (s : ByteArray) : (r1 s).size = s.size - 1 := by unfold r1; simp [ByteArray.size_extract]
theorem r1_dec (s : ByteArray) (pos : Nat) : Utf8.decode (r1 s) pos = Utf8.decode s (1 + pos) := Lib.tail_decode s 1 pos
theorem TBs (k : Nat) : (TB k).size = (T k).length := by show (T k).toArray.size = _; simp
/-- A round of the document's loop, in the program's words. -/
theorem sc_step (s : ByteArray) (G : Int × Int × Int) (b pos : Nat) (a : Int) (hG : G = scan (r1 s) b pos a) (hb : (r1 s).size ≤ pos + b) (hp : pos ≤ (r1 s).size) (h1 : 1 ≤ s.size) :
    (fs s (1 + pos) = none → G = (a, (pos : Int), 0)) ∧ ∀ j, fs s (1 + pos) = some j → j ≤ 6 ∧ pos + (TB j).size ≤ (r1 s).size ∧ (bad (a + V j) (V j) = true → G = (0, (pos : Int), 3)) ∧ (bad (a + V j) (V j) = false → ∃ b', G = scan (r1 s) b' (pos + (TB j).size) (a + V j) ∧ (r1 s).size ≤ pos + (TB j).size + b') := by
  have hs := r1_size s
  refine ⟨fun h => ?_, fun j h => ?_⟩
  · by_cases hlt : pos < (r1 s).size
    · obtain ⟨c, rfl⟩ : ∃ c, b = c + 1 := ⟨b - 1, by omega⟩
      have hd := (wo_dec (s.size - (1 + pos)) (s.get! (1 + pos)).toNat (s.get! (1 + pos + 1)).toNat (s.get! (1 + pos + 2)).toNat (s.get! (1 + pos + 3)).toNat (by omega) (UInt8.toNat_lt _) (UInt8.toNat_lt _) (UInt8.toNat_lt _) (UInt8.toNat_lt _)).1 h
      rw [hG, scan_stop (r1 s) c pos a hlt (by rw [r1_dec, Lib.decode_at]; exact hd)]
    · rw [hG, scan_end (r1 s) b pos a hlt]
      have : pos = (r1 s).size := by omega
      rw [← this]
  · have hst := (fs_some s (1 + pos) j h).1
    have hle : 1 + pos + (TB j).size ≤ s.size := by
      unfold sts at hst
      simp only [Bool.and_eq_true, decide_eq_true_eq] at hst
      exact hst.1
    have htb := TB_size j
    have hlt : pos < (r1 s).size := by omega
    obtain ⟨c, rfl⟩ : ∃ c, b = c + 1 := ⟨b - 1, by omega⟩
    obtain ⟨hj, hd1, hd2⟩ := (wo_dec (s.size - (1 + pos)) (s.get! (1 + pos)).toNat (s.get! (1 + pos + 1)).toNat (s.get! (1 + pos + 2)).toNat (s.get! (1 + pos + 3)).toNat (by omega) (UInt8.toNat_lt _) (UInt8.toNat_lt _) (UInt8.toNat_lt _) (UInt8.toNat_lt _)).2 j h
    rw [← Lib.decode_at, ← r1_dec] at hd1 hd2
    have hv := (V_bd j).2.2
    refine ⟨hj, by omega, fun hbad => ?_, fun hbad => ?_⟩
    · rw [hG, scan_bad (r1 s) c pos a hlt (by rw [hd1]; exact hv) (by rw [hd1]; exact hbad)]
    · refine ⟨c, ?_, by omega⟩
      rw [hG, scan_on (r1 s) c pos a hlt (by rw [hd1]; exact hv) (by rw [hd1]; exact hbad), hd1, hd2, TBs]
/-- The document's test of a sum is the program's. -/
theorem bad_is (x v : Int) (hv : v = 1 ∨ v = 2 ∨ v = -1 ∨ v = -2) (hx : -10 ≤ x ∧ x ≤ 10) : bad x v = true ↔ (0 < v ∧ x < 0) ∨ (v < 0 ∧ 0 < x) ∨ 3 < (x.natAbs : Int) := by
  unfold bad wi
  rcases hv with rfl | rfl | rfl | rfl <;> simp <;> omega
theorem nat_is (s : ByteArray) (h1 : 1 ≤ s.size) : sts s 1 ⟨#[226, 153, 174]⟩ = Lib.hasPrefix (r1 s).data.toList [226, 153, 174] := by
  have e : (r1 s).data.toList = s.data.toList.drop 1 := by
    unfold r1
    simp [ByteArray.data_extract]
    exact List.take_of_length_le (by rw [List.length_tail, len_data]; omega)
  have hl := len_data s
  rw [e]
  have key := (sts_iff s 1 [226, 153, 174] (by simp)).trans (stl_take s [226, 153, 174] 1)
  have e2 : (⟨[226, 153, 174].toArray⟩ : ByteArray) = ⟨#[226, 153, 174]⟩ := rfl
  rw [e2] at key
  rw [Bool.eq_iff_iff, key]
  show _ ↔ List.isPrefixOf [226, 153, 174] (s.data.toList.drop 1) = true
  rw [List.isPrefixOf_iff_prefix, List.prefix_iff_eq_take]
  simp only [reduceCtorEq, or_false]
  constructor
  · rintro ⟨_, h⟩; exact h.symm
  · intro h
    have hlen := congrArg List.length h
    simp only [List.length_take, List.length_drop, List.length_cons, List.length_nil, hl] at hlen
    exact ⟨by simp only [List.length_cons, List.length_nil]; omega, h.symm⟩
end M
end Go.Proofs.YtmccbokjigjpnaaDoor
