/- What the program's reading of a number comes to, where it is one. -/
import Derived.Test.YtaohahahhjkcdaeGreatDoorSG19
import Derived.Lib.SmallJoins
namespace Go.Proofs.YtaohahahhjkcdaeGreatDoor
open Go.RowKit Go.Lib Go.Joins
set_option linter.unusedSimpArgs false
set_option linter.unusedVariables false

namespace M
def nd (r : Nat) : Bool := decide (r < 48) || decide (57 < r)
end M

theorem notDigit_any (r : Nat) (w : World) :
    Calls Tryz.prog 147 #[.int .i32 r] w fun e w' => e = .returned (.bool (M.nd r)) ∧ w' = w := by
  by_cases h1 : (r : Int) < 48
  · have e1 : M.nd r = true := by unfold M.nd; simp; omega
    rw [e1]
    go_enter Tryz.func147, Tryz.ntmps147
    go_wp2
    go_ret
    exact ⟨rfl, rfl⟩
  · by_cases h2 : 57 < (r : Int)
    · have e1 : M.nd r = true := by unfold M.nd; simp; omega
      rw [e1]
      go_enter Tryz.func147, Tryz.ntmps147
      go_wp2
      go_ret
      exact ⟨rfl, rfl⟩
    · have e1 : M.nd r = false := by unfold M.nd; simp; omega
      rw [e1]
      go_enter Tryz.func147, Tryz.ntmps147
      go_wp2
      go_ret
      exact ⟨rfl, rfl⟩

theorem notDigit_pred (w : World) : PredAtRunes Tryz.prog 147 #[] M.nd w := fun W x _ _ =>
  (notDigit_any x W).mono fun _ _ ⟨a, b⟩ => ⟨a, 0, by rw [b]; rfl⟩

/-- What makes a text a number: n, its digits d, and whether a sign stands ahead. -/
structure IsNum (s d : ByteArray) (neg : Bool) (n : Int) : Prop where
  pre : Lib.hasPrefix s.data.toList [45] = neg
  cut : Lib.trimPrefix s.data.toList [45] = d.data.toList
  few : 1 ≤ d.size
  most : d.size ≤ 4
  digits : Lib.idxFunc M.nd true d = -1
  head : (s.size ≤ 18) ∧ ((∀ h : 0 < d.size, (d[0]'h).toNat ≠ 48) ∨ (neg = false ∧ d.size = 1))
  val : Lib.atoi s.data.toList = some n

set_option maxRecDepth 100000 in
set_option maxHeartbeats 1000000 in
theorem readNumber_ok (s d : ByteArray) (neg : Bool) (n : Int) (w : World) (h : IsNum s d neg n) :
    Calls Tryz.prog 130 #[.string s] w fun e w' => e = .returned (.tuple #[.int .i64 n, .bool true]) ∧ Below w.heap.size w w' := by
  obtain ⟨h1, h2, h3, h4, h5, ⟨h6, h7⟩, h8⟩ := h
  have hd : (⟨d.data.toList.toArray⟩ : ByteArray) = d := by cases d; simp
  have h5' : decide (0 ≤ Lib.idxFunc M.nd true d) = false := by rw [h5]; decide
  have eg : ∀ args w, (callFunc 147 args).run Tryz.prog w = .ok (.enter 147 args) w := fun args w => by kernel_rfl
  have hx : 0 < d.size := by omega
  rcases h7 with h7 | ⟨h7, h9⟩
  · have hb := h7 hx
    have hb0 : (((d[0]'hx).toNat : Int) == 48) = false := by simp; omega
    clear h7
    go_enter Tryz.func130, Tryz.ntmps130
    go_wp2_with (first
      | (go_at_call 128; refine (Tryz.strings_CutPrefix _ _ _).mono ?_; rintro e w' ⟨rfl, hw⟩; rw [hw, show (ByteArray.mk #[45]).data.toList = [45] from rfl, h1, h2, hd])
      | (go_at_call 146; refine (Tryz.strings_ContainsFunc_runes 147 #[] eg M.nd d _ (notDigit_pred _)).mono ?_; rintro e w1 ⟨rfl, hb1⟩; rw [h5'])
      | (go_at_call 74; refine (Tryz.strconv_Atoi s n h6 h8 _).mono ?_; rintro e w2 ⟨rfl, t, hw2⟩))
    go_region
    go_wp2
    go_returns
    exact ⟨rfl, (hb1.trans (below_bytesWorld _ _ _ _ hb1.size)).drew⟩
  · subst h7
    go_enter Tryz.func130, Tryz.ntmps130
    go_wp2_with (first
      | (go_at_call 128; refine (Tryz.strings_CutPrefix _ _ _).mono ?_; rintro e w' ⟨rfl, hw⟩; rw [hw, show (ByteArray.mk #[45]).data.toList = [45] from rfl, h1, h2, hd])
      | (go_at_call 146; refine (Tryz.strings_ContainsFunc_runes 147 #[] eg M.nd d _ (notDigit_pred _)).mono ?_; rintro e w1 ⟨rfl, hb1⟩; rw [h5'])
      | (go_at_call 74; refine (Tryz.strconv_Atoi s n h6 h8 _).mono ?_; rintro e w2 ⟨rfl, t, hw2⟩))
    all_goals
      go_region
      go_wp2
      go_returns
      exact ⟨rfl, (hb1.trans (below_bytesWorld _ _ _ _ hb1.size)).drew⟩
end Go.Proofs.YtaohahahhjkcdaeGreatDoor

/- What the program's reading of a number comes to at every text. -/
namespace Go.Proofs.YtaohahahhjkcdaeGreatDoor
open Go.RowKit Go.Lib Go.Joins
set_option linter.unusedSimpArgs false
set_option linter.unusedVariables false

theorem digits_from (d : ByteArray) : ∀ (b pos : Nat), d.size ≤ pos + b → Lib.idxFuncFrom M.nd true d b pos = -1 → ∀ i (hi : i < d.size), pos ≤ i → 48 ≤ (d[i]'hi).toNat ∧ (d[i]'hi).toNat ≤ 57
  | 0, pos, hb, _, i, hi, hp => by omega
  | b + 1, pos, hb, h, i, hi, hp => by
    have hq : pos < d.size := by omega
    unfold Lib.idxFuncFrom at h
    rw [if_pos hq] at h
    by_cases hn : M.nd (Utf8.decode d pos).1 = true
    · rw [if_pos hn] at h; omega
    · rw [if_neg hn] at h
      have hr : 48 ≤ (Utf8.decode d pos).1 ∧ (Utf8.decode d pos).1 ≤ 57 := by
        unfold M.nd at hn; simp at hn; omega
      by_cases ha : (d[pos]'hq).toNat < 128
      · have hd := decode_ascii d pos hq ha
        rw [hd] at hr h
        by_cases hi2 : i = pos
        · subst hi2; exact hr
        · exact digits_from d b (pos + 1) (by omega) h i hi (by omega)
      · have := (decode_high d pos hq (by omega)).1
        omega
theorem digits_of (d : ByteArray) (h : Lib.idxFunc M.nd true d = -1) : ∀ i (hi : i < d.size), 48 ≤ (d[i]'hi).toNat ∧ (d[i]'hi).toNat ≤ 57 :=
  fun i hi => digits_from d d.size 0 (by omega) h i hi (by omega)

namespace M
/-- The digits of a text: what is behind a sign. -/
def dgt (s : ByteArray) : ByteArray := ⟨(Lib.trimPrefix s.data.toList [45]).toArray⟩
def sgnd (s : ByteArray) : Bool := Lib.hasPrefix s.data.toList [45]
/-- Is a text a number? -/
def isN (s : ByteArray) : Bool := (decide (1 ≤ (dgt s).size) && decide ((dgt s).size ≤ 4)) && (decide (Lib.idxFunc nd true (dgt s) = -1) && !(decide ((dgt s).data.toList.headD 0 = 48) && (sgnd s || decide (1 < (dgt s).size))))
/-- Which one. -/
def valN (s : ByteArray) : Int := (Lib.atoi s.data.toList).getD 0
theorem digitVal_some (b : UInt8) (h1 : 48 ≤ b.toNat) (h2 : b.toNat ≤ 57) : ∃ d, Lib.digitVal b = some d := by
  exact ⟨_, by unfold Lib.digitVal; rw [if_pos ⟨h1, h2⟩]⟩
theorem decFrom_some : ∀ (l : List UInt8) (acc : Nat), (∀ b ∈ l, 48 ≤ b.toNat ∧ b.toNat ≤ 57) → ∃ m, Lib.decFrom acc l = some m
  | [], acc, _ => ⟨acc, rfl⟩
  | b :: r, acc, h => by
    obtain ⟨d, hd⟩ := digitVal_some b (h b (by simp)).1 (h b (by simp)).2
    unfold Lib.decFrom
    rw [hd]
    exact decFrom_some r _ (fun x hx => h x (by simp [hx]))
theorem decNat_some' (l : List UInt8) (h0 : l ≠ []) (h : ∀ b ∈ l, 48 ≤ b.toNat ∧ b.toNat ≤ 57) : ∃ m, Lib.decNat l = some m := by
  obtain ⟨m, hm⟩ := decFrom_some l 0 h
  cases l with
  | nil => exact absurd rfl h0
  | cons b r => exact ⟨m, by unfold Lib.decNat; simpa using hm⟩
theorem all_digits (d : ByteArray) (h : Lib.idxFunc nd true d = -1) : ∀ b ∈ d.data.toList, 48 ≤ b.toNat ∧ b.toNat ≤ 57 := by
  intro b hb
  obtain ⟨i, hi, rfl⟩ := List.getElem_of_mem hb
  exact digits_of d h i (by rw [Lib.size_eq]; exact hi)
theorem atoi_some (s : ByteArray) (h0 : 1 ≤ (dgt s).size) (h : Lib.idxFunc nd true (dgt s) = -1) : ∃ n, Lib.atoi s.data.toList = some n := by
  have hall := all_digits (dgt s) h
  rw [Lib.size_eq] at h0
  have hdd : (dgt s).data.toList = Lib.trimPrefix s.data.toList [45] := by unfold dgt; simp
  rw [hdd] at hall h0
  generalize s.data.toList = l at *
  cases l with
  | nil => simp [Lib.trimPrefix, Lib.hasPrefix] at h0
  | cons b r =>
    by_cases hb : b = 45
    · subst hb
      have e : Lib.trimPrefix (45 :: r) [45] = r := by simp [Lib.trimPrefix, Lib.hasPrefix]
      rw [e] at hall h0
      obtain ⟨m, hm⟩ := decNat_some' r (by intro hc; rw [hc] at h0; simp at h0) hall
      exact ⟨-(m : Int), by simp [Lib.atoi, hm]⟩
    · have e : Lib.trimPrefix (b :: r) [45] = b :: r := by simp [Lib.trimPrefix, Lib.hasPrefix, Ne.symm hb]
      rw [e] at hall
      obtain ⟨m, hm⟩ := decNat_some' (b :: r) (by simp) hall
      have hb43 : b ≠ 43 := by intro hc; have := hall b (by simp); rw [hc] at this; exact absurd this.1 (by decide)
      exact ⟨(m : Int), by simp [Lib.atoi, hb, hb43, hm]⟩
end M

theorem isNum_of (s : ByteArray) (h : M.isN s = true) : IsNum s (M.dgt s) (M.sgnd s) (M.valN s) := by
  unfold M.isN at h
  simp only [Bool.and_eq_true, decide_eq_true_eq, Bool.not_eq_true', Bool.and_eq_false_iff, decide_eq_false_iff_not, Bool.or_eq_false_iff] at h
  obtain ⟨⟨h1, h2⟩, h3, h4⟩ := h
  obtain ⟨n, hn⟩ := M.atoi_some s h1 h3
  have hv : M.valN s = n := by unfold M.valN; rw [hn]; rfl
  have hdd : (M.dgt s).data.toList = Lib.trimPrefix s.data.toList [45] := by unfold M.dgt; simp
  refine ⟨rfl, hdd.symm, h1, h2, h3, ⟨?_, ?_⟩, by rw [hv]; exact hn⟩
  · rw [Lib.size_eq] at h2 ⊢
    rw [hdd] at h2
    unfold Lib.trimPrefix at h2
    split at h2
    · rw [List.length_drop] at h2; simp only [List.length_cons, List.length_nil] at h2; omega
    · omega
  · rcases h4 with h4 | ⟨h4, h5⟩
    · left
      intro hp hc
      apply h4
      have : (M.dgt s).data.toList = (M.dgt s)[0]'hp :: (M.dgt s).data.toList.tail := by
        have hl : 0 < (M.dgt s).data.toList.length := by rw [← Lib.size_eq]; exact hp
        cases hq : (M.dgt s).data.toList with
        | nil => rw [hq] at hl; simp at hl
        | cons x r =>
          have e : (M.dgt s)[0]'hp = (M.dgt s).data.toList[0]'hl := rfl
          rw [e]
          simp [hq]
      rw [this]
      exact UInt8.toNat_inj.1 (by simpa using hc)
    · right
      exact ⟨h4, by omega⟩
end Go.Proofs.YtaohahahhjkcdaeGreatDoor

/- The program's reader of numbers at every text. -/
namespace Go.Proofs.YtaohahahhjkcdaeGreatDoor
open Go.RowKit Go.Lib Go.Joins
set_option linter.unusedSimpArgs false
set_option linter.unusedVariables false

theorem idx_cases (s : ByteArray) (h : Lib.idxFunc M.nd true s ≠ -1) : decide (0 ≤ Lib.idxFunc M.nd true s) = true := by
  rcases Lib.idxFuncFrom_range M.nd true s s.size 0 with h1 | h1
  · exact absurd h1 h
  · exact decide_eq_true (by have := h1.1; unfold Lib.idxFunc; omega)

theorem head_eq : ∀ (l : List UInt8) (h : 0 < l.length), l[0]'h = l.headD 0
  | [], h => by simp at h
  | x :: r, _ => rfl
set_option maxRecDepth 100000 in
set_option maxHeartbeats 1000000 in
theorem readNumber_no (s : ByteArray) (w : World) (h : M.isN s = false) :
    Calls Tryz.prog 130 #[.string s] w fun e w' => e = .returned (.tuple #[.int .i64 0, .bool false]) ∧ Below w.heap.size w w' := by
  have hd : (⟨(Lib.trimPrefix s.data.toList [45]).toArray⟩ : ByteArray) = M.dgt s := rfl
  have h1 : Lib.hasPrefix s.data.toList [45] = M.sgnd s := rfl
  have eg : ∀ args w, (callFunc 147 args).run Tryz.prog w = .ok (.enter 147 args) w := fun args w => by kernel_rfl
  generalize hdd : M.dgt s = d at *
  generalize hng : M.sgnd s = neg at *
  unfold M.isN at h
  rw [hdd, hng] at h
  by_cases c1 : 1 ≤ d.size
  · by_cases c2 : d.size ≤ 4
    · have i1 : (1 : Int) ≤ d.size := by omega
      have i2 : (d.size : Int) ≤ 4 := by omega
      by_cases c3 : Lib.idxFunc M.nd true d = -1
      · have h5' : decide (0 ≤ Lib.idxFunc M.nd true d) = false := by rw [c3]; decide
        have hx : 0 < d.size := by omega
        have hz : d.data.toList.headD 0 = 48 ∧ (neg = true ∨ 1 < d.size) := by
          simp only [c1, c2, c3, decide_true, Bool.true_and, Bool.not_eq_false', Bool.and_eq_true, decide_eq_true_eq, Bool.or_eq_true] at h
          exact h
        have hb0 : (((d[0]'hx).toNat : Int) == 48) = true := by
          have hl : 0 < d.data.toList.length := by rw [← Lib.size_eq]; exact hx
          have e : d[0]'hx = d.data.toList[0]'hl := rfl
          have e2 : d.data.toList[0]'hl = d.data.toList.headD 0 := head_eq _ hl
          rw [e, e2, hz.1]; decide
        have hz2 := hz.2
        clear hz h
        cases hn : neg
        · have g1 : (1 : Int) < d.size := by rcases hz2 with g | g; rw [hn] at g; exact absurd g (by decide); omega
          clear hz2
          rw [hn] at h1
          go_enter Tryz.func130, Tryz.ntmps130
          go_wp2_with (first
            | (go_at_call 128; refine (Tryz.strings_CutPrefix _ _ _).mono ?_; rintro e w' ⟨rfl, hw⟩; rw [hw, show (ByteArray.mk #[45]).data.toList = [45] from rfl, h1, hd])
            | (go_at_call 146; refine (Tryz.strings_ContainsFunc_runes 147 #[] eg M.nd d _ (notDigit_pred _)).mono ?_; rintro e w1 ⟨rfl, hb1⟩; rw [h5']))
          go_returns
          exact ⟨rfl, hb1⟩
        · clear hz2
          rw [hn] at h1
          go_enter Tryz.func130, Tryz.ntmps130
          go_wp2_with (first
            | (go_at_call 128; refine (Tryz.strings_CutPrefix _ _ _).mono ?_; rintro e w' ⟨rfl, hw⟩; rw [hw, show (ByteArray.mk #[45]).data.toList = [45] from rfl, h1, hd])
            | (go_at_call 146; refine (Tryz.strings_ContainsFunc_runes 147 #[] eg M.nd d _ (notDigit_pred _)).mono ?_; rintro e w1 ⟨rfl, hb1⟩; rw [h5']))
          go_returns
          exact ⟨rfl, hb1⟩
      · have h5' := idx_cases d c3
        clear h
        go_enter Tryz.func130, Tryz.ntmps130
        go_wp2_with (first
          | (go_at_call 128; refine (Tryz.strings_CutPrefix _ _ _).mono ?_; rintro e w' ⟨rfl, hw⟩; rw [hw, show (ByteArray.mk #[45]).data.toList = [45] from rfl, h1, hd])
          | (go_at_call 146; refine (Tryz.strings_ContainsFunc_runes 147 #[] eg M.nd d _ (notDigit_pred _)).mono ?_; rintro e w1 ⟨rfl, hb1⟩; rw [h5']))
        go_returns
        exact ⟨rfl, hb1⟩
    · have i1 : ¬ (d.size : Int) < 1 := by omega
      have i2 : (4 : Int) < d.size := by omega
      clear h
      go_enter Tryz.func130, Tryz.ntmps130
      go_wp2_with (go_at_call 128; refine (Tryz.strings_CutPrefix _ _ _).mono ?_; rintro e w' ⟨rfl, hw⟩; rw [hw, show (ByteArray.mk #[45]).data.toList = [45] from rfl, h1, hd])
      go_returns
      exact ⟨rfl, Below.refl _ _⟩
  · have i1 : (d.size : Int) < 1 := by omega
    clear h
    go_enter Tryz.func130, Tryz.ntmps130
    go_wp2_with (go_at_call 128; refine (Tryz.strings_CutPrefix _ _ _).mono ?_; rintro e w' ⟨rfl, hw⟩; rw [hw, show (ByteArray.mk #[45]).data.toList = [45] from rfl, h1, hd])
    go_returns
    exact ⟨rfl, Below.refl _ _⟩

theorem readNumber_yes (s : ByteArray) (w : World) (h : M.isN s = true) :
    Calls Tryz.prog 130 #[.string s] w fun e w' => e = .returned (.tuple #[.int .i64 (M.valN s), .bool true]) ∧ Below w.heap.size w w' :=
  readNumber_ok s _ _ _ w (isNum_of s h)
end Go.Proofs.YtaohahahhjkcdaeGreatDoor

/- The program's Read at every text. -/
namespace Go.Proofs.YtaohahahhjkcdaeGreatDoor
open Go.RowKit Go.Lib Go.Joins
set_option linter.unusedSimpArgs false
set_option linter.unusedVariables false

namespace M
theorem scan_bd (s : ByteArray) : ∀ (b pos : Nat) (a : Int), 0 ≤ (scan s b pos a).2.1 ∧ (scan s b pos a).2.1 ≤ s.size
  | 0, pos, a => by simp [scan]
  | b + 1, pos, a => by
    unfold scan
    split
    · split
      · simp; omega
      · split
        · simp; omega
        · exact scan_bd s b _ _
    · simp
theorem sg_bd (s : ByteArray) : 0 ≤ (sg s).2.1 ∧ (sg s).2.1 ≤ s.size := by
  unfold sg
  split
  · rename_i h
    have h3 : 3 ≤ s.size := by
      rw [Lib.size_eq]
      unfold Lib.hasPrefix at h
      have := List.IsPrefix.length_le (List.isPrefixOf_iff_prefix.1 h)
      simpa using this
    simp; omega
  · exact scan_bd s _ _ _
def ix (s : ByteArray) : Int := Lib.indexByte [67, 68, 69, 70, 71, 65, 66] (s.data.toList.headD 0)
def r1 (s : ByteArray) : ByteArray := s.extract 1 s.size
def at' (s : ByteArray) : Int := 1 + (sg (r1 s)).2.1
def r2 (s : ByteArray) : ByteArray := s.extract (at' s).toNat s.size
end M

theorem wrongAt_any (p e' : Int) (w : World) :
    Calls Tryz.prog 132 #[.int .i64 p, .int .i64 e'] w fun e w' => e = .returned (.tuple #[.agg #[.int .i64 0, .int .i64 0, .int .i64 0], .agg #[.int .i64 e', .int .i64 p]]) ∧ Below w.heap.size w w' := by
  go_enter Tryz.func132, Tryz.ntmps132
  go_wp2
  refine bodyPost_ret (v := .tuple #[.agg #[.int .i64 0, .int .i64 0, .int .i64 0], .agg #[.int .i64 e', .int .i64 p]]) (by simp [results, Tryz.results132, go_sem]) rfl ⟨rfl, by go_grown⟩

set_option maxRecDepth 100000 in
set_option maxHeartbeats 2000000 in
theorem Read_none (s : ByteArray) (w : World) (h : s.size = 0) :
    Calls Tryz.prog 115 #[.string s] w fun e w' => e = .returned (.tuple #[.agg #[.int .i64 0, .int .i64 0, .int .i64 0], .agg #[.int .i64 (2), .int .i64 (0)]]) ∧ Below w.heap.size w w' := by
  have hem : s.toList.isEmpty = true := by
    rw [ByteArray.toList_eq]
    have : s.data.toList.length = 0 := by rw [← Lib.size_eq]; exact h
    rw [List.isEmpty_iff]; exact List.length_eq_zero_iff.1 this
  go_enter Tryz.func115, Tryz.ntmps115
  go_wp2_with fail
  refine (wrongAt_any _ _ _).mono ?_
  rintro e w9 ⟨rfl, hb9⟩
  have z9 := hb9.size
  simp at z9
  have hb09 : Below w.heap.size w w9 := Below.trans (by go_grown) (hb9.mono (by simp; omega))
  have p0 : w9.cell? ⟨w.heap.size, 0, none⟩ = some (.int .i64 0) := keepC hb9 (by (first | (simp; done) | (simp; omega))) (by simp [go_sem])
  have p1 : w9.cell? ⟨w.heap.size, 1, none⟩ = some (.int .i64 0) := keepC hb9 (by (first | (simp; done) | (simp; omega))) (by simp [go_sem])
  have p2 : w9.cell? ⟨w.heap.size, 2, none⟩ = some (.int .i64 0) := keepC hb9 (by (first | (simp; done) | (simp; omega))) (by simp [go_sem])
  have q0 : w9.cell? ⟨w.heap.size + 1, 0, none⟩ = some (.int .i64 0) := keepC hb9 (by (first | (simp; done) | (simp; omega))) (by simp [go_sem])
  have q1 : w9.cell? ⟨w.heap.size + 1, 1, none⟩ = some (.int .i64 0) := keepC hb9 (by (first | (simp; done) | (simp; omega))) (by simp [go_sem])
  have f0 : w9.frozen? ⟨w.heap.size, 0, none⟩ = false := keepF hb9 (by (first | (simp; done) | (simp; omega))) (by simp [go_sem])
  have f1 : w9.frozen? ⟨w.heap.size, 1, none⟩ = false := keepF hb9 (by (first | (simp; done) | (simp; omega))) (by simp [go_sem])
  have f2 : w9.frozen? ⟨w.heap.size, 2, none⟩ = false := keepF hb9 (by (first | (simp; done) | (simp; omega))) (by simp [go_sem])
  have g0 : w9.frozen? ⟨w.heap.size + 1, 0, none⟩ = false := keepF hb9 (by (first | (simp; done) | (simp; omega))) (by simp [go_sem])
  have g1 : w9.frozen? ⟨w.heap.size + 1, 1, none⟩ = false := keepF hb9 (by (first | (simp; done) | (simp; omega))) (by simp [go_sem])
  have t9 : w.heap.size + 1 < w9.heap.size := by omega
  go_wp2_with fail
  refine bodyPost_ret (v := .tuple #[.agg #[.int .i64 0, .int .i64 0, .int .i64 0], .agg #[.int .i64 (2), .int .i64 (0)]]) (by simp [results, Tryz.results115, go_sem, p0, p1, p2, q0, q1]) rfl ⟨rfl, ?_⟩
  exact ((((hb09.setCell (by simp) _).setCell (by simp) _).setCell (by simp) _).setCell (by simp) _).setCell (by simp) _

set_option maxRecDepth 100000 in
set_option maxHeartbeats 2000000 in
theorem Read_letter (s : ByteArray) (w : World) (h0 : 0 < s.size) (hl : M.ix s < 0) :
    Calls Tryz.prog 115 #[.string s] w fun e w' => e = .returned (.tuple #[.agg #[.int .i64 0, .int .i64 0, .int .i64 0], .agg #[.int .i64 (2), .int .i64 (0)]]) ∧ Below w.heap.size w w' := by
  have hem : s.toList.isEmpty = false := by
    rw [ByteArray.toList_eq]
    cases hc : s.data.toList with
    | nil => exact absurd h0 (by rw [Lib.size_eq, hc]; decide)
    | cons x r => rfl
  have hlen : (1 : Int) ≤ s.size := by omega
  have hh : s[0]'h0 = s.data.toList.headD 0 := by
    have hl : 0 < s.data.toList.length := by rw [← Lib.size_eq]; exact h0
    exact (show s[0]'h0 = s.data.toList[0]'hl from rfl).trans (head_eq _ hl)
  have hix : ((s[0]'h0).toNat : Int).toNat.toUInt8 = s[0]'h0 := by simp
  have h1 : Lib.indexByte [67, 68, 69, 70, 71, 65, 66] (s[0]'h0) = M.ix s := by rw [hh]; rfl
  clear hh
  have h3 : s.extract 1 s.size = M.r1 s := rfl
  go_enter Tryz.func115, Tryz.ntmps115
  go_wp2_with (go_at_call 53; refine (Tryz.strings_IndexByte _ _ _).mono ?_; rintro e w' ⟨rfl, hw⟩; rw [hw, hix, show (ByteArray.mk #[67, 68, 69, 70, 71, 65, 66]).data.toList = [67, 68, 69, 70, 71, 65, 66] from rfl, h1])
  refine (wrongAt_any _ _ _).mono ?_
  rintro e w9 ⟨rfl, hb9⟩
  have z9 := hb9.size
  simp at z9
  have hb09 : Below w.heap.size w w9 := Below.trans (by go_grown) (hb9.mono (by simp; omega))
  have p0 : w9.cell? ⟨w.heap.size, 0, none⟩ = some (.int .i64 0) := keepC hb9 (by (first | (simp; done) | (simp; omega))) (by simp [go_sem])
  have p1 : w9.cell? ⟨w.heap.size, 1, none⟩ = some (.int .i64 0) := keepC hb9 (by (first | (simp; done) | (simp; omega))) (by simp [go_sem])
  have p2 : w9.cell? ⟨w.heap.size, 2, none⟩ = some (.int .i64 0) := keepC hb9 (by (first | (simp; done) | (simp; omega))) (by simp [go_sem])
  have q0 : w9.cell? ⟨w.heap.size + 1, 0, none⟩ = some (.int .i64 0) := keepC hb9 (by (first | (simp; done) | (simp; omega))) (by simp [go_sem])
  have q1 : w9.cell? ⟨w.heap.size + 1, 1, none⟩ = some (.int .i64 0) := keepC hb9 (by (first | (simp; done) | (simp; omega))) (by simp [go_sem])
  have f0 : w9.frozen? ⟨w.heap.size, 0, none⟩ = false := keepF hb9 (by (first | (simp; done) | (simp; omega))) (by simp [go_sem])
  have f1 : w9.frozen? ⟨w.heap.size, 1, none⟩ = false := keepF hb9 (by (first | (simp; done) | (simp; omega))) (by simp [go_sem])
  have f2 : w9.frozen? ⟨w.heap.size, 2, none⟩ = false := keepF hb9 (by (first | (simp; done) | (simp; omega))) (by simp [go_sem])
  have g0 : w9.frozen? ⟨w.heap.size + 1, 0, none⟩ = false := keepF hb9 (by (first | (simp; done) | (simp; omega))) (by simp [go_sem])
  have g1 : w9.frozen? ⟨w.heap.size + 1, 1, none⟩ = false := keepF hb9 (by (first | (simp; done) | (simp; omega))) (by simp [go_sem])
  have t9 : w.heap.size + 1 < w9.heap.size := by omega
  go_wp2_with fail
  refine bodyPost_ret (v := .tuple #[.agg #[.int .i64 0, .int .i64 0, .int .i64 0], .agg #[.int .i64 (2), .int .i64 (0)]]) (by simp [results, Tryz.results115, go_sem, p0, p1, p2, q0, q1]) rfl ⟨rfl, ?_⟩
  exact ((((hb09.setCell (by simp) _).setCell (by simp) _).setCell (by simp) _).setCell (by simp) _).setCell (by simp) _

end Go.Proofs.YtaohahahhjkcdaeGreatDoor

/- The program's Read at every text. -/
namespace Go.Proofs.YtaohahahhjkcdaeGreatDoor
open Go.RowKit Go.Lib Go.Joins
set_option linter.unusedSimpArgs false
set_option linter.unusedVariables false

set_option maxRecDepth 100000 in
set_option maxHeartbeats 2000000 in
theorem Read_signs (s : ByteArray) (w : World) (h0 : 0 < s.size) (hs : s.size ≤ 140737488355328) (hl : 0 ≤ M.ix s) (ga gk ge : Int) (hG : M.sg (M.r1 s) = (ga, gk, ge)) (he : ge ≠ 0) :
    Calls Tryz.prog 115 #[.string s] w fun e w' => e = .returned (.tuple #[.agg #[.int .i64 0, .int .i64 0, .int .i64 0], .agg #[.int .i64 (ge), .int .i64 (1 + gk)]]) ∧ Below w.heap.size w w' := by
  have hem : s.toList.isEmpty = false := by
    rw [ByteArray.toList_eq]
    cases hc : s.data.toList with
    | nil => exact absurd h0 (by rw [Lib.size_eq, hc]; decide)
    | cons x r => rfl
  have hlen : (1 : Int) ≤ s.size := by omega
  have hh : s[0]'h0 = s.data.toList.headD 0 := by
    have hl : 0 < s.data.toList.length := by rw [← Lib.size_eq]; exact h0
    exact (show s[0]'h0 = s.data.toList[0]'hl from rfl).trans (head_eq _ hl)
  have hix : ((s[0]'h0).toNat : Int).toNat.toUInt8 = s[0]'h0 := by simp
  have h1 : Lib.indexByte [67, 68, 69, 70, 71, 65, 66] (s[0]'h0) = M.ix s := by rw [hh]; rfl
  clear hh
  have h3 : s.extract 1 s.size = M.r1 s := rfl
  have hl' : ¬ M.ix s < 0 := by omega
  have hr2 : ((M.r1 s).size : Int) + 1 = s.size := by unfold M.r1; rw [ByteArray.size_extract]; omega
  have hr1 : (M.r1 s).size ≤ 140737488355328 := by omega
  have hsg : 0 ≤ gk ∧ gk ≤ ((M.r1 s).size : Int) := by have := M.sg_bd (M.r1 s); rw [hG] at this; exact this
  have hgk : gk ≤ 9000000000000 * 100000 := by omega
  have he' : (ge != 0) = true := by simp [he]
  go_enter Tryz.func115, Tryz.ntmps115
  go_wp2_with (go_at_call 53; refine (Tryz.strings_IndexByte _ _ _).mono ?_; rintro e w' ⟨rfl, hw⟩; rw [hw, hix, show (ByteArray.mk #[67, 68, 69, 70, 71, 65, 66]).data.toList = [67, 68, 69, 70, 71, 65, 66] from rfl, h1])
  refine (readSigns_any (M.r1 s) _ (by omega)).mono ?_
  rintro e w1 ⟨rfl, hb1⟩
  rw [hG]
  have z1 := hb1.size
  simp at z1
  have hb01 : Below w.heap.size w w1 := Below.trans (by go_grown) (hb1.mono (by simp; omega))
  have p0 : w1.cell? ⟨w.heap.size, 0, none⟩ = some (.int .i64 0) := keepC hb1 (by (first | (simp; done) | (simp; omega))) (by simp [go_sem])
  have p1 : w1.cell? ⟨w.heap.size, 1, none⟩ = some (.int .i64 0) := keepC hb1 (by (first | (simp; done) | (simp; omega))) (by simp [go_sem])
  have p2 : w1.cell? ⟨w.heap.size, 2, none⟩ = some (.int .i64 0) := keepC hb1 (by (first | (simp; done) | (simp; omega))) (by simp [go_sem])
  have q0 : w1.cell? ⟨w.heap.size + 1, 0, none⟩ = some (.int .i64 0) := keepC hb1 (by (first | (simp; done) | (simp; omega))) (by simp [go_sem])
  have q1 : w1.cell? ⟨w.heap.size + 1, 1, none⟩ = some (.int .i64 0) := keepC hb1 (by (first | (simp; done) | (simp; omega))) (by simp [go_sem])
  have f0 : w1.frozen? ⟨w.heap.size, 0, none⟩ = false := keepF hb1 (by (first | (simp; done) | (simp; omega))) (by simp [go_sem])
  have f1 : w1.frozen? ⟨w.heap.size, 1, none⟩ = false := keepF hb1 (by (first | (simp; done) | (simp; omega))) (by simp [go_sem])
  have f2 : w1.frozen? ⟨w.heap.size, 2, none⟩ = false := keepF hb1 (by (first | (simp; done) | (simp; omega))) (by simp [go_sem])
  have g0 : w1.frozen? ⟨w.heap.size + 1, 0, none⟩ = false := keepF hb1 (by (first | (simp; done) | (simp; omega))) (by simp [go_sem])
  have g1 : w1.frozen? ⟨w.heap.size + 1, 1, none⟩ = false := keepF hb1 (by (first | (simp; done) | (simp; omega))) (by simp [go_sem])
  have t1 : w.heap.size + 1 < w1.heap.size := by omega
  go_wp2_with fail
  refine (wrongAt_any _ _ _).mono ?_
  rintro e w9 ⟨rfl, hb9⟩
  have z9 := hb9.size
  have hb09 := hb01.trans (hb9.mono hb01.size)
  replace p0 := keepC hb9 (by omega) p0
  replace p1 := keepC hb9 (by omega) p1
  replace p2 := keepC hb9 (by omega) p2
  replace q0 := keepC hb9 (by omega) q0
  replace q1 := keepC hb9 (by omega) q1
  replace f0 := keepF hb9 (by omega) f0
  replace f1 := keepF hb9 (by omega) f1
  replace f2 := keepF hb9 (by omega) f2
  replace g0 := keepF hb9 (by omega) g0
  replace g1 := keepF hb9 (by omega) g1
  have t9 : w.heap.size + 1 < w9.heap.size := by omega
  go_wp2_with fail
  refine bodyPost_ret (v := .tuple #[.agg #[.int .i64 0, .int .i64 0, .int .i64 0], .agg #[.int .i64 (ge), .int .i64 (1 + gk)]]) (by simp [results, Tryz.results115, go_sem, p0, p1, p2, q0, q1]) rfl ⟨rfl, ?_⟩
  exact ((((hb09.setCell (by simp) _).setCell (by simp) _).setCell (by simp) _).setCell (by simp) _).setCell (by simp) _

set_option maxRecDepth 100000 in
set_option maxHeartbeats 2000000 in
theorem Read_number (s : ByteArray) (w : World) (h0 : 0 < s.size) (hs : s.size ≤ 140737488355328) (hl : 0 ≤ M.ix s) (ga gk : Int) (hG : M.sg (M.r1 s) = (ga, gk, 0)) (hn : M.isN (M.r2 s) = false) :
    Calls Tryz.prog 115 #[.string s] w fun e w' => e = .returned (.tuple #[.agg #[.int .i64 0, .int .i64 0, .int .i64 0], .agg #[.int .i64 (2), .int .i64 (1 + gk)]]) ∧ Below w.heap.size w w' := by
  have hem : s.toList.isEmpty = false := by
    rw [ByteArray.toList_eq]
    cases hc : s.data.toList with
    | nil => exact absurd h0 (by rw [Lib.size_eq, hc]; decide)
    | cons x r => rfl
  have hlen : (1 : Int) ≤ s.size := by omega
  have hh : s[0]'h0 = s.data.toList.headD 0 := by
    have hl : 0 < s.data.toList.length := by rw [← Lib.size_eq]; exact h0
    exact (show s[0]'h0 = s.data.toList[0]'hl from rfl).trans (head_eq _ hl)
  have hix : ((s[0]'h0).toNat : Int).toNat.toUInt8 = s[0]'h0 := by simp
  have h1 : Lib.indexByte [67, 68, 69, 70, 71, 65, 66] (s[0]'h0) = M.ix s := by rw [hh]; rfl
  clear hh
  have h3 : s.extract 1 s.size = M.r1 s := rfl
  have hl' : ¬ M.ix s < 0 := by omega
  have hr2 : ((M.r1 s).size : Int) + 1 = s.size := by unfold M.r1; rw [ByteArray.size_extract]; omega
  have hr1 : (M.r1 s).size ≤ 140737488355328 := by omega
  have hsg : 0 ≤ gk ∧ gk ≤ ((M.r1 s).size : Int) := by have := M.sg_bd (M.r1 s); rw [hG] at this; exact this
  have hgk : gk ≤ 9000000000000 * 100000 := by omega
  have hk0 : (0 : Int) ≤ 1 + gk := by omega
  have hk1 : (1 : Int) + gk ≤ s.size := by omega
  have h8 : s.extract (1 + gk).toNat s.size = M.r2 s := by unfold M.r2 M.at'; rw [hG]
  generalize M.r2 s = R at *
  go_enter Tryz.func115, Tryz.ntmps115
  go_wp2_with (go_at_call 53; refine (Tryz.strings_IndexByte _ _ _).mono ?_; rintro e w' ⟨rfl, hw⟩; rw [hw, hix, show (ByteArray.mk #[67, 68, 69, 70, 71, 65, 66]).data.toList = [67, 68, 69, 70, 71, 65, 66] from rfl, h1])
  refine (readSigns_any (M.r1 s) _ (by omega)).mono ?_
  rintro e w1 ⟨rfl, hb1⟩
  rw [hG]
  have z1 := hb1.size
  simp at z1
  have hb01 : Below w.heap.size w w1 := Below.trans (by go_grown) (hb1.mono (by simp; omega))
  have p0 : w1.cell? ⟨w.heap.size, 0, none⟩ = some (.int .i64 0) := keepC hb1 (by (first | (simp; done) | (simp; omega))) (by simp [go_sem])
  have p1 : w1.cell? ⟨w.heap.size, 1, none⟩ = some (.int .i64 0) := keepC hb1 (by (first | (simp; done) | (simp; omega))) (by simp [go_sem])
  have p2 : w1.cell? ⟨w.heap.size, 2, none⟩ = some (.int .i64 0) := keepC hb1 (by (first | (simp; done) | (simp; omega))) (by simp [go_sem])
  have q0 : w1.cell? ⟨w.heap.size + 1, 0, none⟩ = some (.int .i64 0) := keepC hb1 (by (first | (simp; done) | (simp; omega))) (by simp [go_sem])
  have q1 : w1.cell? ⟨w.heap.size + 1, 1, none⟩ = some (.int .i64 0) := keepC hb1 (by (first | (simp; done) | (simp; omega))) (by simp [go_sem])
  have f0 : w1.frozen? ⟨w.heap.size, 0, none⟩ = false := keepF hb1 (by (first | (simp; done) | (simp; omega))) (by simp [go_sem])
  have f1 : w1.frozen? ⟨w.heap.size, 1, none⟩ = false := keepF hb1 (by (first | (simp; done) | (simp; omega))) (by simp [go_sem])
  have f2 : w1.frozen? ⟨w.heap.size, 2, none⟩ = false := keepF hb1 (by (first | (simp; done) | (simp; omega))) (by simp [go_sem])
  have g0 : w1.frozen? ⟨w.heap.size + 1, 0, none⟩ = false := keepF hb1 (by (first | (simp; done) | (simp; omega))) (by simp [go_sem])
  have g1 : w1.frozen? ⟨w.heap.size + 1, 1, none⟩ = false := keepF hb1 (by (first | (simp; done) | (simp; omega))) (by simp [go_sem])
  have t1 : w.heap.size + 1 < w1.heap.size := by omega
  go_wp2_with fail
  refine (readNumber_no R _ hn).mono ?_
  rintro e w2 ⟨rfl, hb2⟩
  have z2 := hb2.size
  have hb02 := hb01.trans (hb2.mono hb01.size)
  replace p0 := keepC hb2 (by omega) p0
  replace p1 := keepC hb2 (by omega) p1
  replace p2 := keepC hb2 (by omega) p2
  replace q0 := keepC hb2 (by omega) q0
  replace q1 := keepC hb2 (by omega) q1
  replace f0 := keepF hb2 (by omega) f0
  replace f1 := keepF hb2 (by omega) f1
  replace f2 := keepF hb2 (by omega) f2
  replace g0 := keepF hb2 (by omega) g0
  replace g1 := keepF hb2 (by omega) g1
  have t2 : w.heap.size + 1 < w2.heap.size := by omega
  go_wp2_with fail
  refine (wrongAt_any _ _ _).mono ?_
  rintro e w9 ⟨rfl, hb9⟩
  have z9 := hb9.size
  have hb09 := hb02.trans (hb9.mono hb02.size)
  replace p0 := keepC hb9 (by omega) p0
  replace p1 := keepC hb9 (by omega) p1
  replace p2 := keepC hb9 (by omega) p2
  replace q0 := keepC hb9 (by omega) q0
  replace q1 := keepC hb9 (by omega) q1
  replace f0 := keepF hb9 (by omega) f0
  replace f1 := keepF hb9 (by omega) f1
  replace f2 := keepF hb9 (by omega) f2
  replace g0 := keepF hb9 (by omega) g0
  replace g1 := keepF hb9 (by omega) g1
  have t9 : w.heap.size + 1 < w9.heap.size := by omega
  go_wp2_with fail
  refine bodyPost_ret (v := .tuple #[.agg #[.int .i64 0, .int .i64 0, .int .i64 0], .agg #[.int .i64 (2), .int .i64 (1 + gk)]]) (by simp [results, Tryz.results115, go_sem, p0, p1, p2, q0, q1]) rfl ⟨rfl, ?_⟩
  exact ((((hb09.setCell (by simp) _).setCell (by simp) _).setCell (by simp) _).setCell (by simp) _).setCell (by simp) _

set_option maxRecDepth 100000 in
set_option maxHeartbeats 2000000 in
theorem Read_octave (s : ByteArray) (w : World) (h0 : 0 < s.size) (hs : s.size ≤ 140737488355328) (hl : 0 ≤ M.ix s) (ga gk : Int) (hG : M.sg (M.r1 s) = (ga, gk, 0)) (hn : M.isN (M.r2 s) = true) (ho : M.wi (M.valN (M.r2 s)) 12 = false) :
    Calls Tryz.prog 115 #[.string s] w fun e w' => e = .returned (.tuple #[.agg #[.int .i64 0, .int .i64 0, .int .i64 0], .agg #[.int .i64 (3), .int .i64 (1 + gk)]]) ∧ Below w.heap.size w w' := by
  have hem : s.toList.isEmpty = false := by
    rw [ByteArray.toList_eq]
    cases hc : s.data.toList with
    | nil => exact absurd h0 (by rw [Lib.size_eq, hc]; decide)
    | cons x r => rfl
  have hlen : (1 : Int) ≤ s.size := by omega
  have hh : s[0]'h0 = s.data.toList.headD 0 := by
    have hl : 0 < s.data.toList.length := by rw [← Lib.size_eq]; exact h0
    exact (show s[0]'h0 = s.data.toList[0]'hl from rfl).trans (head_eq _ hl)
  have hix : ((s[0]'h0).toNat : Int).toNat.toUInt8 = s[0]'h0 := by simp
  have h1 : Lib.indexByte [67, 68, 69, 70, 71, 65, 66] (s[0]'h0) = M.ix s := by rw [hh]; rfl
  clear hh
  have h3 : s.extract 1 s.size = M.r1 s := rfl
  have hl' : ¬ M.ix s < 0 := by omega
  have hr2 : ((M.r1 s).size : Int) + 1 = s.size := by unfold M.r1; rw [ByteArray.size_extract]; omega
  have hr1 : (M.r1 s).size ≤ 140737488355328 := by omega
  have hsg : 0 ≤ gk ∧ gk ≤ ((M.r1 s).size : Int) := by have := M.sg_bd (M.r1 s); rw [hG] at this; exact this
  have hgk : gk ≤ 9000000000000 * 100000 := by omega
  have hk0 : (0 : Int) ≤ 1 + gk := by omega
  have hk1 : (1 : Int) + gk ≤ s.size := by omega
  have h8 : s.extract (1 + gk).toNat s.size = M.r2 s := by unfold M.r2 M.at'; rw [hG]
  generalize M.r2 s = R at *
  go_enter Tryz.func115, Tryz.ntmps115
  go_wp2_with (go_at_call 53; refine (Tryz.strings_IndexByte _ _ _).mono ?_; rintro e w' ⟨rfl, hw⟩; rw [hw, hix, show (ByteArray.mk #[67, 68, 69, 70, 71, 65, 66]).data.toList = [67, 68, 69, 70, 71, 65, 66] from rfl, h1])
  refine (readSigns_any (M.r1 s) _ (by omega)).mono ?_
  rintro e w1 ⟨rfl, hb1⟩
  rw [hG]
  have z1 := hb1.size
  simp at z1
  have hb01 : Below w.heap.size w w1 := Below.trans (by go_grown) (hb1.mono (by simp; omega))
  have p0 : w1.cell? ⟨w.heap.size, 0, none⟩ = some (.int .i64 0) := keepC hb1 (by (first | (simp; done) | (simp; omega))) (by simp [go_sem])
  have p1 : w1.cell? ⟨w.heap.size, 1, none⟩ = some (.int .i64 0) := keepC hb1 (by (first | (simp; done) | (simp; omega))) (by simp [go_sem])
  have p2 : w1.cell? ⟨w.heap.size, 2, none⟩ = some (.int .i64 0) := keepC hb1 (by (first | (simp; done) | (simp; omega))) (by simp [go_sem])
  have q0 : w1.cell? ⟨w.heap.size + 1, 0, none⟩ = some (.int .i64 0) := keepC hb1 (by (first | (simp; done) | (simp; omega))) (by simp [go_sem])
  have q1 : w1.cell? ⟨w.heap.size + 1, 1, none⟩ = some (.int .i64 0) := keepC hb1 (by (first | (simp; done) | (simp; omega))) (by simp [go_sem])
  have f0 : w1.frozen? ⟨w.heap.size, 0, none⟩ = false := keepF hb1 (by (first | (simp; done) | (simp; omega))) (by simp [go_sem])
  have f1 : w1.frozen? ⟨w.heap.size, 1, none⟩ = false := keepF hb1 (by (first | (simp; done) | (simp; omega))) (by simp [go_sem])
  have f2 : w1.frozen? ⟨w.heap.size, 2, none⟩ = false := keepF hb1 (by (first | (simp; done) | (simp; omega))) (by simp [go_sem])
  have g0 : w1.frozen? ⟨w.heap.size + 1, 0, none⟩ = false := keepF hb1 (by (first | (simp; done) | (simp; omega))) (by simp [go_sem])
  have g1 : w1.frozen? ⟨w.heap.size + 1, 1, none⟩ = false := keepF hb1 (by (first | (simp; done) | (simp; omega))) (by simp [go_sem])
  have t1 : w.heap.size + 1 < w1.heap.size := by omega
  go_wp2_with fail
  refine (readNumber_yes R _ hn).mono ?_
  rintro e w2 ⟨rfl, hb2⟩
  have z2 := hb2.size
  have hb02 := hb01.trans (hb2.mono hb01.size)
  replace p0 := keepC hb2 (by omega) p0
  replace p1 := keepC hb2 (by omega) p1
  replace p2 := keepC hb2 (by omega) p2
  replace q0 := keepC hb2 (by omega) q0
  replace q1 := keepC hb2 (by omega) q1
  replace f0 := keepF hb2 (by omega) f0
  replace f1 := keepF hb2 (by omega) f1
  replace f2 := keepF hb2 (by omega) f2
  replace g0 := keepF hb2 (by omega) g0
  replace g1 := keepF hb2 (by omega) g1
  have t2 : w.heap.size + 1 < w2.heap.size := by omega
  go_wp2_with (go_at_call 95; refine (within_any _ _ _ (by omega) (by omega)).mono ?_; rintro e w' ⟨rfl, hw⟩; rw [hw, ho])
  refine (wrongAt_any _ _ _).mono ?_
  rintro e w9 ⟨rfl, hb9⟩
  have z9 := hb9.size
  have hb09 := hb02.trans (hb9.mono hb02.size)
  replace p0 := keepC hb9 (by omega) p0
  replace p1 := keepC hb9 (by omega) p1
  replace p2 := keepC hb9 (by omega) p2
  replace q0 := keepC hb9 (by omega) q0
  replace q1 := keepC hb9 (by omega) q1
  replace f0 := keepF hb9 (by omega) f0
  replace f1 := keepF hb9 (by omega) f1
  replace f2 := keepF hb9 (by omega) f2
  replace g0 := keepF hb9 (by omega) g0
  replace g1 := keepF hb9 (by omega) g1
  have t9 : w.heap.size + 1 < w9.heap.size := by omega
  go_wp2_with fail
  refine bodyPost_ret (v := .tuple #[.agg #[.int .i64 0, .int .i64 0, .int .i64 0], .agg #[.int .i64 (3), .int .i64 (1 + gk)]]) (by simp [results, Tryz.results115, go_sem, p0, p1, p2, q0, q1]) rfl ⟨rfl, ?_⟩
  exact ((((hb09.setCell (by simp) _).setCell (by simp) _).setCell (by simp) _).setCell (by simp) _).setCell (by simp) _

set_option maxRecDepth 100000 in
set_option maxHeartbeats 2000000 in
theorem Read_yes (s : ByteArray) (w : World) (h0 : 0 < s.size) (hs : s.size ≤ 140737488355328) (hl : 0 ≤ M.ix s) (ga gk : Int) (hG : M.sg (M.r1 s) = (ga, gk, 0)) (hn : M.isN (M.r2 s) = true) (ho : M.wi (M.valN (M.r2 s)) 12 = true) :
    Calls Tryz.prog 115 #[.string s] w fun e w' => e = .returned (.tuple #[.agg #[.int .i64 (M.ix s), .int .i64 ga, .int .i64 (M.valN (M.r2 s))], .agg #[.int .i64 0, .int .i64 0]]) ∧ Below w.heap.size w w' := by
  have hem : s.toList.isEmpty = false := by
    rw [ByteArray.toList_eq]
    cases hc : s.data.toList with
    | nil => exact absurd h0 (by rw [Lib.size_eq, hc]; decide)
    | cons x r => rfl
  have hlen : (1 : Int) ≤ s.size := by omega
  have hh : s[0]'h0 = s.data.toList.headD 0 := by
    have hl : 0 < s.data.toList.length := by rw [← Lib.size_eq]; exact h0
    exact (show s[0]'h0 = s.data.toList[0]'hl from rfl).trans (head_eq _ hl)
  have hix : ((s[0]'h0).toNat : Int).toNat.toUInt8 = s[0]'h0 := by simp
  have h1 : Lib.indexByte [67, 68, 69, 70, 71, 65, 66] (s[0]'h0) = M.ix s := by rw [hh]; rfl
  clear hh
  have h3 : s.extract 1 s.size = M.r1 s := rfl
  have hl' : ¬ M.ix s < 0 := by omega
  have hr2 : ((M.r1 s).size : Int) + 1 = s.size := by unfold M.r1; rw [ByteArray.size_extract]; omega
  have hr1 : (M.r1 s).size ≤ 140737488355328 := by omega
  have hsg : 0 ≤ gk ∧ gk ≤ ((M.r1 s).size : Int) := by have := M.sg_bd (M.r1 s); rw [hG] at this; exact this
  have hgk : gk ≤ 9000000000000 * 100000 := by omega
  have hk0 : (0 : Int) ≤ 1 + gk := by omega
  have hk1 : (1 : Int) + gk ≤ s.size := by omega
  have h8 : s.extract (1 + gk).toNat s.size = M.r2 s := by unfold M.r2 M.at'; rw [hG]
  generalize M.r2 s = R at *
  go_enter Tryz.func115, Tryz.ntmps115
  go_wp2_with (go_at_call 53; refine (Tryz.strings_IndexByte _ _ _).mono ?_; rintro e w' ⟨rfl, hw⟩; rw [hw, hix, show (ByteArray.mk #[67, 68, 69, 70, 71, 65, 66]).data.toList = [67, 68, 69, 70, 71, 65, 66] from rfl, h1])
  refine (readSigns_any (M.r1 s) _ (by omega)).mono ?_
  rintro e w1 ⟨rfl, hb1⟩
  rw [hG]
  have z1 := hb1.size
  simp at z1
  have hb01 : Below w.heap.size w w1 := Below.trans (by go_grown) (hb1.mono (by simp; omega))
  have p0 : w1.cell? ⟨w.heap.size, 0, none⟩ = some (.int .i64 0) := keepC hb1 (by (first | (simp; done) | (simp; omega))) (by simp [go_sem])
  have p1 : w1.cell? ⟨w.heap.size, 1, none⟩ = some (.int .i64 0) := keepC hb1 (by (first | (simp; done) | (simp; omega))) (by simp [go_sem])
  have p2 : w1.cell? ⟨w.heap.size, 2, none⟩ = some (.int .i64 0) := keepC hb1 (by (first | (simp; done) | (simp; omega))) (by simp [go_sem])
  have q0 : w1.cell? ⟨w.heap.size + 1, 0, none⟩ = some (.int .i64 0) := keepC hb1 (by (first | (simp; done) | (simp; omega))) (by simp [go_sem])
  have q1 : w1.cell? ⟨w.heap.size + 1, 1, none⟩ = some (.int .i64 0) := keepC hb1 (by (first | (simp; done) | (simp; omega))) (by simp [go_sem])
  have f0 : w1.frozen? ⟨w.heap.size, 0, none⟩ = false := keepF hb1 (by (first | (simp; done) | (simp; omega))) (by simp [go_sem])
  have f1 : w1.frozen? ⟨w.heap.size, 1, none⟩ = false := keepF hb1 (by (first | (simp; done) | (simp; omega))) (by simp [go_sem])
  have f2 : w1.frozen? ⟨w.heap.size, 2, none⟩ = false := keepF hb1 (by (first | (simp; done) | (simp; omega))) (by simp [go_sem])
  have g0 : w1.frozen? ⟨w.heap.size + 1, 0, none⟩ = false := keepF hb1 (by (first | (simp; done) | (simp; omega))) (by simp [go_sem])
  have g1 : w1.frozen? ⟨w.heap.size + 1, 1, none⟩ = false := keepF hb1 (by (first | (simp; done) | (simp; omega))) (by simp [go_sem])
  have t1 : w.heap.size + 1 < w1.heap.size := by omega
  go_wp2_with fail
  refine (readNumber_yes R _ hn).mono ?_
  rintro e w2 ⟨rfl, hb2⟩
  have z2 := hb2.size
  have hb02 := hb01.trans (hb2.mono hb01.size)
  replace p0 := keepC hb2 (by omega) p0
  replace p1 := keepC hb2 (by omega) p1
  replace p2 := keepC hb2 (by omega) p2
  replace q0 := keepC hb2 (by omega) q0
  replace q1 := keepC hb2 (by omega) q1
  replace f0 := keepF hb2 (by omega) f0
  replace f1 := keepF hb2 (by omega) f1
  replace f2 := keepF hb2 (by omega) f2
  replace g0 := keepF hb2 (by omega) g0
  replace g1 := keepF hb2 (by omega) g1
  have t2 : w.heap.size + 1 < w2.heap.size := by omega
  go_wp2_with (go_at_call 95; refine (within_any _ _ _ (by omega) (by omega)).mono ?_; rintro e w' ⟨rfl, hw⟩; rw [hw, ho])
  refine bodyPost_ret (v := .tuple #[.agg #[.int .i64 (M.ix s), .int .i64 ga, .int .i64 (M.valN R)], .agg #[.int .i64 0, .int .i64 0]]) (by simp [results, Tryz.results115, go_sem, p0, p1, p2, q0, q1]) rfl ⟨rfl, ?_⟩
  exact ((((hb02.setCell (by simp) _).setCell (by simp) _).setCell (by simp) _).setCell (by simp) _).setCell (by simp) _

end Go.Proofs.YtaohahahhjkcdaeGreatDoor

/- What the program's pitch.Read answers, as one plain function (the first part of QD13, for seats without the document's). -/
namespace Go.Proofs.YtaohahahhjkcdaeGreatDoor.P
open Go.RowKit
set_option linter.unusedVariables false
set_option linter.unusedSimpArgs false

theorem M.ix_pos (s : ByteArray) (h : 0 ≤ M.ix s) : 1 ≤ s.size := by
  have hl : s.data.toList.length = s.size := (Lib.size_eq s).symm
  cases hd : s.data.toList with
  | nil =>
    have : M.ix s = -1 := by unfold M.ix; rw [hd]; decide
    omega
  | cons x r => rw [hd] at hl; simp at hl; omega
/-- What Read answers: letter, signs, octave; errno, place. -/
def M.rd (s : ByteArray) : Int × Int × Int × Int × Int :=
  if M.ix s < 0 then (0, 0, 0, 2, 0) else if (M.sg (M.r1 s)).2.2 ≠ 0 then (0, 0, 0, (M.sg (M.r1 s)).2.2, 1 + (M.sg (M.r1 s)).2.1) else if M.isN (M.r2 s) = false then (0, 0, 0, 2, 1 + (M.sg (M.r1 s)).2.1) else if M.wi (M.valN (M.r2 s)) 12 = false then (0, 0, 0, 3, 1 + (M.sg (M.r1 s)).2.1) else (M.ix s, (M.sg (M.r1 s)).1, M.valN (M.r2 s), 0, 0)
theorem M.rd_letter (s : ByteArray) (h : M.ix s < 0) : M.rd s = (0, 0, 0, 2, 0) := if_pos h
theorem M.rd_signs (s : ByteArray) (h : ¬ M.ix s < 0) (ga gk ge : Int) (hG : M.sg (M.r1 s) = (ga, gk, ge)) (he : ge ≠ 0) : M.rd s = (0, 0, 0, ge, 1 + gk) := by unfold M.rd; rw [if_neg h, hG, if_pos he]
theorem M.rd_number (s : ByteArray) (h : ¬ M.ix s < 0) (ga gk : Int) (hG : M.sg (M.r1 s) = (ga, gk, 0)) (hn : M.isN (M.r2 s) = false) : M.rd s = (0, 0, 0, 2, 1 + gk) := by unfold M.rd; rw [if_neg h, hG, if_neg (by simp), if_pos hn]
theorem M.rd_octave (s : ByteArray) (h : ¬ M.ix s < 0) (ga gk : Int) (hG : M.sg (M.r1 s) = (ga, gk, 0)) (hn : M.isN (M.r2 s) = true) (ho : M.wi (M.valN (M.r2 s)) 12 = false) : M.rd s = (0, 0, 0, 3, 1 + gk) := by unfold M.rd; rw [if_neg h, hG, if_neg (by simp), if_neg (by simp [hn]), if_pos ho]
theorem M.rd_yes (s : ByteArray) (h : ¬ M.ix s < 0) (ga gk : Int) (hG : M.sg (M.r1 s) = (ga, gk, 0)) (hn : M.isN (M.r2 s) = true) (ho : M.wi (M.valN (M.r2 s)) 12 = true) : M.rd s = (M.ix s, ga, M.valN (M.r2 s), 0, 0) := by unfold M.rd; rw [if_neg h, hG, if_neg (by simp), if_neg (by simp [hn]), if_neg (by simp [ho])]
def RdQ (r : Int × Int × Int × Int × Int) (w : World) (e : Ending) (w' : World) : Prop := e = .returned (.tuple #[.agg #[.int .i64 r.1, .int .i64 r.2.1, .int .i64 r.2.2.1], .agg #[.int .i64 r.2.2.2.1, .int .i64 r.2.2.2.2]]) ∧ Below w.heap.size w w'

set_option maxHeartbeats 2000000 in
theorem Read_any (s : ByteArray) (w : World) (hs : s.size ≤ 140737488355328) : Calls Tryz.prog 115 #[.string s] w fun e w' => RdQ (M.rd s) w e w' := by
  rcases Nat.eq_zero_or_pos s.size with h0 | h0
  · have hx : M.ix s < 0 := by
      by_cases h : 0 ≤ M.ix s
      · have := M.ix_pos s h; omega
      · omega
    rw [M.rd_letter s hx]; exact (Read_none s w h0).mono fun e w' h => ⟨h.1, h.2⟩
  · by_cases hx : M.ix s < 0
    · rw [M.rd_letter s hx]; exact (Read_letter s w h0 hx).mono fun e w' h => ⟨h.1, h.2⟩
    · cases hG : M.sg (M.r1 s) with
      | mk ga r =>
        obtain ⟨gk, ge⟩ := r
        by_cases he : ge = 0
        · subst he
          cases hn : M.isN (M.r2 s)
          · rw [M.rd_number s hx ga gk hG hn]; exact (Read_number s w h0 hs (by omega) ga gk hG hn).mono fun e w' h => ⟨h.1, h.2⟩
          · cases ho : M.wi (M.valN (M.r2 s)) 12
            · rw [M.rd_octave s hx ga gk hG hn ho]; exact (Read_octave s w h0 hs (by omega) ga gk hG hn ho).mono fun e w' h => ⟨h.1, h.2⟩
            · have hR := Read_yes s w h0 hs (by omega) ga gk hG hn ho
              rw [M.rd_yes s hx ga gk hG hn ho]
              generalize M.ix s = X at hR ⊢
              generalize M.valN (M.r2 s) = N at hR ⊢
              exact hR.mono fun e w' h => ⟨h.1, h.2⟩
        · rw [M.rd_signs s hx ga gk ge hG he]; exact (Read_signs s w h0 hs (by omega) ga gk ge hG he).mono fun e w' h => ⟨h.1, h.2⟩

end Go.Proofs.YtaohahahhjkcdaeGreatDoor.P
