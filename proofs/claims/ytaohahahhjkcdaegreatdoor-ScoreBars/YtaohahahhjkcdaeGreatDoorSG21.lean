/- What the program's Print comes to. -/
import Derived.Test.YtaohahahhjkcdaeGreatDoorSG20
import Derived.Test.YtaohahahhjkcdaeGreatDoorSG8
import Derived.Lib.ItoaLen
import Derived.Laws.Concat
import Derived.Deep.RegionHeld3
import Derived.Deep.DrawnRows
namespace Go.Proofs.YtaohahahhjkcdaeGreatDoor
open Go.RowKit Go.Lib Go.Joins
set_option linter.unusedSimpArgs false
set_option linter.unusedVariables false

def Pows (w : World) : Prop := Lib.TabIs Tryz.prog w "internal/strconv.uint64pow10" .u64 Lib.pow10Tab
theorem gPow : Tryz.prog.globalNamed "internal/strconv.uint64pow10" = some 6 := by kernel_rfl
theorem Pows.step {w w' : World} (h : Pows w) (hb : Below w.heap.size w w') : Pows w' := tab_stays gPow h hb (Nat.le_refl _)

theorem below_grow (w : World) (k : Nat) (os : Array Obj) : Below w.heap.size w (Sort.grow (w.drewN k) os) :=
  ⟨rfl, rfl, rfl, by simp [Sort.grow, World.drewN], fun j hj => by simp [Sort.grow, World.drewN, Array.getElem?_append, hj]⟩

theorem itoa_any (n : Int) (w : World) (hp : Pows w) (h0 : -9223372036854775808 ≤ n) (h1 : n ≤ 9223372036854775807) :
    Calls Tryz.prog 83 #[.int .i64 n] w fun e w' => e = .returned (.string ⟨(Lib.itoa n).toArray⟩) ∧ Below w.heap.size w w' :=
  (Tryz.strconv_Itoa n h0 h1 w hp).mono fun _ _ ⟨a, k, os, b⟩ => ⟨a, by rw [b]; exact below_grow w k os⟩

namespace M
/-- A letter's sign. -/
def ltr (l : Int) : List UInt8 := if l = 0 then [67] else if l = 1 then [68] else if l = 2 then [69] else if l = 3 then [70] else if l = 4 then [71] else if l = 5 then [65] else if l = 6 then [66] else []
/-- The signs of what a pitch is altered by. -/
def sgn (a : Int) : List UInt8 := if a = (-3) then [240, 157, 132, 171, 226, 153, 173] else if a = (-2) then [240, 157, 132, 171] else if a = (-1) then [226, 153, 173] else if a = (0) then [] else if a = (1) then [226, 153, 175] else if a = (2) then [240, 157, 132, 170] else if a = (3) then [240, 157, 132, 170, 226, 153, 175] else []
/-- A pitch as it is written. -/
def pr (l a o : Int) : ByteArray := ⟨(ltr l ++ sgn a ++ Lib.itoa o).toArray⟩
theorem pr_add (x y z : List UInt8) : (ByteArray.mk x.toArray ++ ByteArray.mk y.toArray ++ ByteArray.mk z.toArray) = ByteArray.mk (x ++ y ++ z).toArray := by
  apply ByteArray.ext
  simp [ByteArray.data_append]
end M
theorem pr_ret {X : ByteArray} {l a o : Int} (x y : List UInt8) (h1 : M.ltr l = x) (h2 : M.sgn a = y) (h : X = ByteArray.mk x.toArray ++ ByteArray.mk y.toArray ++ ByteArray.mk (Lib.itoa o).toArray) : X = M.pr l a o := by
  unfold M.pr; rw [h1, h2, h]; exact M.pr_add _ _ _

end Go.Proofs.YtaohahahhjkcdaeGreatDoor

/- What the program's Read comes to at a text that is a pitch. -/
namespace Go.Proofs.YtaohahahhjkcdaeGreatDoor
open Go.RowKit Go.Lib Go.Joins
set_option linter.unusedSimpArgs false
set_option linter.unusedVariables false

/-- A text that is a pitch: its letter, its signs, its octave, where the octave begins. -/
structure IsPitch (s s1 s2 d : ByteArray) (neg : Bool) (l a o : Int) (k : Nat) : Prop where
  pos : 0 < s.size
  letter : Lib.indexByte [67, 68, 69, 70, 71, 65, 66] (s[0]'pos) = l
  lpos : 0 ≤ l
  rest : s.extract 1 s.size = s1
  small : s1.size ≤ 1000
  signs : M.sg s1 = (a, (k : Int), 0)
  k1 : k + 1 ≤ s.size
  k2 : s.size ≤ 1000
  rest2 : s.extract (1 + k) s.size = s2
  num : IsNum s2 d neg o
  o1 : -12 ≤ o
  o2 : o ≤ 12

set_option maxRecDepth 100000 in
set_option maxHeartbeats 2000000 in
theorem Read_ok (s s1 s2 d : ByteArray) (neg : Bool) (l a o : Int) (k : Nat) (w : World) (h : IsPitch s s1 s2 d neg l a o k) :
    Calls Tryz.prog 115 #[.string s] w fun e w' => e = .returned (.tuple #[.agg #[.int .i64 l, .int .i64 a, .int .i64 o], .agg #[.int .i64 0, .int .i64 0]]) ∧ Below w.heap.size w w' := by
  obtain ⟨h0, h1, h2, h3, h4, h5, h6, h7, h8, h9, h10, h11⟩ := h
  have hem : s.toList.isEmpty = false := by
    rw [ByteArray.toList_eq]
    cases hc : s.data.toList with
    | nil => exact absurd h0 (by rw [Lib.size_eq, hc]; decide)
    | cons x r => rfl
  have hlen : (1 : Int) ≤ s.size := by omega
  have hk : (1 : Int) + k ≤ s.size := by omega
  have hto : ((1 : Int) + k).toNat = 1 + k := by omega
  have hwi : M.wi o 12 = true := by unfold M.wi; simp; omega
  go_enter Tryz.func115, Tryz.ntmps115
  have hix : ((s[0]'h0).toNat : Int).toNat.toUInt8 = s[0]'h0 := by simp
  go_wp2_with (go_at_call 53; refine (Tryz.strings_IndexByte _ _ _).mono ?_; rintro e w' ⟨rfl, hw⟩; rw [hw, hix, show (ByteArray.mk #[67, 68, 69, 70, 71, 65, 66]).data.toList = [67, 68, 69, 70, 71, 65, 66] from rfl, h1])
  refine (readSigns_any s1 _ (by omega)).mono ?_
  rintro e w1 ⟨rfl, hb1⟩
  rw [h5]
  have z1 := hb1.size
  simp at z1
  have hb01 : Below w.heap.size w w1 := Below.trans (by go_grown) (hb1.mono (by simp; omega))
  have p0 : w1.cell? ⟨w.heap.size, 0, none⟩ = some (.int .i64 0) := keepC hb1 (by simp; omega) (by simp [go_sem])
  have p1 : w1.cell? ⟨w.heap.size, 1, none⟩ = some (.int .i64 0) := keepC hb1 (by simp; omega) (by simp [go_sem])
  have p2 : w1.cell? ⟨w.heap.size, 2, none⟩ = some (.int .i64 0) := keepC hb1 (by simp; omega) (by simp [go_sem])
  have q0 : w1.cell? ⟨w.heap.size + 1, 0, none⟩ = some (.int .i64 0) := keepC hb1 (by simp) (by simp [go_sem])
  have q1 : w1.cell? ⟨w.heap.size + 1, 1, none⟩ = some (.int .i64 0) := keepC hb1 (by simp) (by simp [go_sem])
  have f0 : w1.frozen? ⟨w.heap.size, 0, none⟩ = false := keepF hb1 (by simp; omega) (by simp [go_sem])
  have f1 : w1.frozen? ⟨w.heap.size, 1, none⟩ = false := keepF hb1 (by simp; omega) (by simp [go_sem])
  have f2 : w1.frozen? ⟨w.heap.size, 2, none⟩ = false := keepF hb1 (by simp; omega) (by simp [go_sem])
  have g0 : w1.frozen? ⟨w.heap.size + 1, 0, none⟩ = false := keepF hb1 (by simp) (by simp [go_sem])
  have g1 : w1.frozen? ⟨w.heap.size + 1, 1, none⟩ = false := keepF hb1 (by simp) (by simp [go_sem])
  have t1 : w.heap.size + 1 < w1.heap.size := by omega
  go_wp2_with fail
  refine (readNumber_ok s2 d neg o _ h9).mono ?_
  rintro e w2 ⟨rfl, hb2⟩
  have z2 := hb2.size
  replace p0 := keepC hb2 (by omega) p0
  replace p1 := keepC hb2 (by omega) p1
  replace p2 := keepC hb2 (by omega) p2
  replace q0 := keepC hb2 (by omega) q0
  replace q1 := keepC hb2 (by omega) q1
  replace f0 := keepF hb2 (by omega) f0
  replace f1 := keepF hb2 (by omega) f1
  replace f2 := keepF hb2 (by omega) f2
  replace g0 := keepF hb2 (by omega) g0
  replace g1 := keepF hb2 (by omega) g1
  have hb02 := hb01.trans (hb2.mono hb01.size)
  go_wp2_with (go_at_call 95; refine (within_any _ _ _ (by omega) (by omega)).mono ?_; rintro e w' ⟨rfl, hw⟩; rw [hw, hwi])
  refine bodyPost_ret (v := .tuple #[.agg #[.int .i64 l, .int .i64 a, .int .i64 o], .agg #[.int .i64 0, .int .i64 0]]) (by simp [results, Tryz.results115, go_sem, p0, p1, p2, q0, q1]) rfl ⟨rfl, ?_⟩
  exact ((((hb02.setCell (by simp) _).setCell (by simp) _).setCell (by simp) _).setCell (by simp) _).setCell (by simp) _
end Go.Proofs.YtaohahahhjkcdaeGreatDoor

/- Plain texts: what Print writes is a pitch, what Itoa writes is a number. -/
namespace Go.Proofs.YtaohahahhjkcdaeGreatDoor
open Go.RowKit Go.Lib Go.Joins
set_option linter.unusedSimpArgs false
set_option linter.unusedVariables false

namespace M
def dg (u : Nat) : List UInt8 := if u < 10 then [UInt8.ofNat (48 + u)] else if u < 100 then [UInt8.ofNat (48 + u / 10), UInt8.ofNat (48 + u % 10)] else [UInt8.ofNat (48 + u / 10 / 10), UInt8.ofNat (48 + u / 10 % 10), UInt8.ofNat (48 + u % 10)]
theorem dec_dg (u : Nat) (h : u < 1000) : Lib.decDigits u = dg u := by
  unfold dg
  by_cases h1 : u < 10
  · rw [Lib.decDigits, dif_pos h1, if_pos h1]
  · rw [Lib.decDigits, dif_neg h1, if_neg h1]
    by_cases h2 : u < 100
    · rw [Lib.decDigits, dif_pos (by omega), if_pos h2]; rfl
    · rw [Lib.decDigits, dif_neg (by omega), if_neg h2, Lib.decDigits, dif_pos (by omega)]; rfl
/-- The digits of a number, and the number as a text. -/
def dd (n : Int) : List UInt8 := if n < 0 then dg n.natAbs else dg n.toNat
def tx (n : Int) : List UInt8 := if n < 0 then 45 :: dg n.natAbs else dg n.toNat
theorem itoa_tx (n : Int) (h1 : -1000 < n) (h2 : n < 1000) : Lib.itoa n = tx n := by
  unfold Lib.itoa tx
  split
  · rw [dec_dg _ (by omega)]
  · rw [dec_dg _ (by omega)]
def numB (n : Int) : Bool := decide (Lib.hasPrefix (tx n) [45] = decide (n < 0)) && (decide (Lib.trimPrefix (tx n) [45] = dd n) && (decide (1 ≤ (dd n).length ∧ (dd n).length ≤ 4 ∧ (tx n).length ≤ 18) && (decide (Lib.idxFunc nd true ⟨(dd n).toArray⟩ = -1) && (decide ((dd n).headD 0 ≠ 48 ∨ (¬ n < 0 ∧ (dd n).length = 1)) && decide (Lib.atoi (tx n) = some n)))))
theorem num_all : ∀ k : Fin 214, numB ((k.val : Int) - 12) = true := by decide +kernel
theorem num_at (n : Int) (h1 : -12 ≤ n) (h2 : n ≤ 201) : numB n = true := by
  have := num_all ⟨(n + 12).toNat, by omega⟩
  rwa [show ((((n + 12).toNat : Nat) : Int)) - 12 = n by omega] at this
def sgB (a o : Int) : Bool := decide (sg ⟨(sgn a ++ tx o).toArray⟩ = (a, ((sgn a).length : Int), 0)) && decide ((sgn a).length ≤ 7)
theorem sg_all : ∀ i : Fin 7, ∀ k : Fin 25, sgB ((i.val : Int) - 3) ((k.val : Int) - 12) = true := by decide +kernel
theorem sg_at (a o : Int) (h1 : -3 ≤ a) (h2 : a ≤ 3) (h3 : -12 ≤ o) (h4 : o ≤ 12) : sgB a o = true := by
  have := sg_all ⟨(a + 3).toNat, by omega⟩ ⟨(o + 12).toNat, by omega⟩
  rwa [show ((((a + 3).toNat : Nat) : Int)) - 3 = a by omega, show ((((o + 12).toNat : Nat) : Int)) - 12 = o by omega] at this
end M

theorem bsize (l : List UInt8) : (ByteArray.mk l.toArray).size = l.length := by simp [ByteArray.size]
theorem bdata (l : List UInt8) : (ByteArray.mk l.toArray).data.toList = l := by simp
theorem bdrop (x y : List UInt8) (n : Nat) (h : n = x.length) : (ByteArray.mk (x ++ y).toArray).extract n (ByteArray.mk (x ++ y).toArray).size = ByteArray.mk y.toArray := by
  subst h
  apply ByteArray.ext
  rw [bsize]
  simp [ByteArray.data_extract]

theorem bhead : ∀ (l : List UInt8) (hp : 0 < (ByteArray.mk l.toArray).size), l.headD 0 ≠ 48 → ((ByteArray.mk l.toArray)[0]'hp).toNat ≠ 48
  | [], hp, _ => by rw [bsize] at hp; exact absurd hp (by decide)
  | x :: r, hp, h => by
    intro hc
    apply h
    have e : (ByteArray.mk (x :: r).toArray)[0]'hp = x := rfl
    rw [e] at hc
    exact UInt8.toNat_inj.1 (show x.toNat = UInt8.toNat 48 by rw [hc]; rfl)
theorem isNum_tx (n : Int) (h1 : -12 ≤ n) (h2 : n ≤ 201) : IsNum ⟨(M.tx n).toArray⟩ ⟨(M.dd n).toArray⟩ (decide (n < 0)) n := by
  have h := M.num_at n h1 h2
  unfold M.numB at h
  simp only [Bool.and_eq_true, decide_eq_true_eq] at h
  obtain ⟨a1, a2, ⟨a3, a4, a5⟩, a6, a7, a8⟩ := h
  refine ⟨by rw [bdata]; exact a1, by rw [bdata, bdata]; exact a2, by rw [bsize]; exact a3, by rw [bsize]; exact a4, a6, ⟨by rw [bsize]; exact a5, ?_⟩, by rw [bdata]; exact a8⟩
  rcases a7 with a7 | ⟨a7, a9⟩
  · left
    intro hp
    exact bhead _ hp a7
  · right
    exact ⟨by simp; omega, by rw [bsize]; exact a9⟩

theorem isPitch_pr (l a o : Int) (hr : M.rt l a o = true) : IsPitch (M.pr l a o) ⟨(M.sgn a ++ M.tx o).toArray⟩ ⟨(M.tx o).toArray⟩ ⟨(M.dd o).toArray⟩ (decide (o < 0)) l a o (M.sgn a).length := by
  obtain ⟨h1, h2, h3, h4, h5, h6⟩ := M.rt_yes hr
  have hs := M.sg_at a o h3 h4 h5 h6
  unfold M.sgB at hs
  simp only [Bool.and_eq_true, decide_eq_true_eq] at hs
  have hn := isNum_tx o h5 (by omega)
  have hn2 : (M.tx o).length ≤ 18 := by have := hn.head.1; rw [bsize] at this; exact this
  obtain ⟨x, hx, hi⟩ : ∃ x : UInt8, M.ltr l = [x] ∧ Lib.indexByte [67, 68, 69, 70, 71, 65, 66] x = l := by
    rcases (show l = 0 ∨ l = 1 ∨ l = 2 ∨ l = 3 ∨ l = 4 ∨ l = 5 ∨ l = 6 by omega) with rfl | rfl | rfl | rfl | rfl | rfl | rfl
    · exact ⟨67, rfl, by decide⟩
    · exact ⟨68, rfl, by decide⟩
    · exact ⟨69, rfl, by decide⟩
    · exact ⟨70, rfl, by decide⟩
    · exact ⟨71, rfl, by decide⟩
    · exact ⟨65, rfl, by decide⟩
    · exact ⟨66, rfl, by decide⟩
  have hp : M.pr l a o = ByteArray.mk ([x] ++ (M.sgn a ++ M.tx o)).toArray := by
    unfold M.pr; rw [hx, M.itoa_tx o (by omega) (by omega), List.append_assoc]
  rw [hp]
  have hz : (ByteArray.mk ([x] ++ (M.sgn a ++ M.tx o)).toArray).size = 1 + ((M.sgn a).length + (M.tx o).length) := by rw [bsize]; simp; omega
  have ht : 1 ≤ (M.tx o).length := by
    have h7 := hn.few
    rw [bsize] at h7
    unfold M.dd at h7
    unfold M.tx
    split at h7 <;> rename_i hc <;> simp only [hc, if_true, if_false, List.length_cons] <;> omega
  refine ⟨by rw [hz]; omega, hi, h1, bdrop [x] _ 1 rfl, by rw [bsize]; simp; omega, hs.1, by rw [hz]; omega, by rw [hz]; omega, ?_, hn, h5, h6⟩
  rw [← List.append_assoc]
  exact bdrop ([x] ++ M.sgn a) _ _ (by simp; omega)
end Go.Proofs.YtaohahahhjkcdaeGreatDoor
