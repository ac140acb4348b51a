/- Plain facts on the quarter's numbers, the circle's and the sine, as words of IEEE 754's double format. -/
import Derived.Test.YtjfmpgfpehnnjahFm3
namespace Go.Proofs.Ytjfmpgfpehnnjah.Vo
set_option linter.unusedVariables false
open Ieee Fl

/-- Both parts of the points that lie a turn behind each other. -/
def tre : List Nat := [4607182418800017408, 4607179706000002317, 4607171569234046334, 4607158013403433019, 4607139046673687847, 4607114680469659605, 4607084929468638489, 4607049811591515052, 4607009347991985331, 4606963563043808652, 4606912484326125786, 4606856142606846310, 4606794571824115166, 4606727809065869589, 4606655894547498728, 4606578871587619392, 4606496786581982538, 4606409688975526206, 4606317631232591735, 4606220668805321210, 4606118860100255158, 4606012266443150639, 4605900952042040899, 4605784983948558853, 4605664432017547689, 4605539368864982920, 4605409869824231239, 4605276012900672514, 4605137878724712264, 4604995550503212917, 4604849113969373110, 4604698657331085213, 4604544271217802196, 4604386048625945830, 4604224084862889126, 4604058477489546736, 4603889326261607901, 4603716733069447360, 4603540801876750395, 4603361638657888997, 4603179351334086863, 4602994049708411689, 4602805845399633908, 4602550884377336518, 4602163548591158855, 4601771097584682090, 4601373767755717836, 4600971798440897942, 4600565431771507055, 4600154912527631787, 4599740487990714345, 4599322407794599437, 4598900923775164177, 4598476289818621571, 4597922303871901489, 4597061974398750584, 4596196889902818847, 4595327571478659033, 4594454542771183948, 4593485039402578736, 4591727299969791051, 4589965306122607122, 4587232218149935175, 4582730748936808155]
def tim : List Nat := [0, 4582730748936808062, 4587232218149935124, 4589965306122607094, 4591727299969791020, 4593485039402578702, 4594454542771183930, 4595327571478659015, 4596196889902818828, 4597061974398750565, 4597922303871901469, 4598476289818621561, 4598900923775164167, 4599322407794599427, 4599740487990714335, 4600154912527631777, 4600565431771507045, 4600971798440897933, 4601373767755717828, 4601771097584682082, 4602163548591158848, 4602550884377336511, 4602805845399633904, 4602994049708411685, 4603179351334086860, 4603361638657888994, 4603540801876750392, 4603716733069447356, 4603889326261607897, 4604058477489546732, 4604224084862889123, 4604386048625945827, 4604544271217802193, 4604698657331085211, 4604849113969373108, 4604995550503212915, 4605137878724712262, 4605276012900672513, 4605409869824231239, 4605539368864982920, 4605664432017547689, 4605784983948558854, 4605900952042040900, 4606012266443150640, 4606118860100255160, 4606220668805321213, 4606317631232591739, 4606409688975526210, 4606496786581982543, 4606578871587619398, 4606655894547498734, 4606727809065869596, 4606794571824115173, 4606856142606846318, 4606912484326125795, 4606963563043808661, 4607009347991985341, 4607049811591515062, 4607084929468638499, 4607114680469659616, 4607139046673687859, 4607158013403433031, 4607171569234046347, 4607179706000002330]
def re (i : Nat) : Nat := tre.getD i 0
def im (i : Nat) : Nat := tim.getD i 0
abbrev wc : Nat := 4607179706000002317
abbrev wd' : Nat := 4582730748936808062
/-- The quarter. -/
def qr (i : Nat) : Nat := if i = 64 then 4607182418800017408 else im i
def stepB (i : Nat) : Bool := double.mul (re i) wc == some ((double.mul (re i) wc).getD 0) && double.mul (im i) wd' == some ((double.mul (im i) wd').getD 0) && double.sub ((double.mul (re i) wc).getD 0) ((double.mul (im i) wd').getD 0) == some (re (i + 1)) && (double.mul (re i) wd' == some ((double.mul (re i) wd').getD 0)) && (double.mul (im i) wc == some ((double.mul (im i) wc).getD 0)) && (double.add ((double.mul (re i) wd').getD 0) ((double.mul (im i) wc).getD 0) == some (im (i + 1)))
theorem steps_ok : (List.range 63).all stepB = true := by decide +kernel
theorem tab_re : re 0 = 4607182418800017408 ∧ im 0 = 0 := by decide +kernel
/-- One turn more. -/
theorem turn_ok (i : Nat) (h : i < 63) : ∃ a b c d, double.mul (re i) wc = some a ∧ double.mul (im i) wd' = some b ∧ double.sub a b = some (re (i + 1)) ∧ double.mul (re i) wd' = some c ∧ double.mul (im i) wc = some d ∧ double.add c d = some (im (i + 1)) := by
  have := List.all_eq_true.1 steps_ok i (by simp; omega)
  unfold stepB at this
  simp only [Bool.and_eq_true, beq_iff_eq] at this
  obtain ⟨⟨⟨⟨⟨h1, h2⟩, h3⟩, h4⟩, h5⟩, h6⟩ := this
  exact ⟨_, _, _, _, h1, h2, h3, h4, h5, h6⟩
/-- The circle. -/
def ng (x : Nat) : Nat := x ^^^ 9223372036854775808
def cr (k : Nat) : Nat := if k ≤ 64 then qr k else if k ≤ 128 then qr (128 - k) else if k ≤ 192 then ng (qr (k - 128)) else ng (qr (256 - k))
def nx (k : Nat) : Nat := (k + 1) % 256
def dk (k : Nat) : Nat := (double.sub (cr (nx k)) (cr k)).getD 0
def tabB (k : Nat) : Bool :=
  decide (cr k < 18446744073709551616) && decide (rg (cr k) ≤ 4607182418800017408) && decide (dk k < 18446744073709551616) && decide (rg (dk k) ≤ 4607182418800017408) && decide (rg (dk k) ≠ 0) &&
  decide (double.sub (cr (nx k)) (cr k) = some (dk k)) && decide ((va (cr k)).natAbs ≤ vl 4607182418800017408) && decide ((va (cr k) + va (dk k)).natAbs ≤ vl 4607182418800017408) &&
  decide (va (cr ((k + 128) % 256)) = - va (cr k)) && decide (sg (dk ((k + 128) % 256)) = !sg (dk k)) && decide (rg (dk ((k + 128) % 256)) = rg (dk k))
theorem tab_ok : (List.range 256).all tabB = true := by decide +kernel
structure Tb (k : Nat) : Prop where
  c1 : Fi (cr k)
  c2 : rg (cr k) ≤ 4607182418800017408
  d1 : Fi (dk k)
  d2 : rg (dk k) ≤ 4607182418800017408
  d3 : rg (dk k) ≠ 0
  s1 : double.sub (cr (nx k)) (cr k) = some (dk k)
  v1 : (va (cr k)).natAbs ≤ vl 4607182418800017408
  v2 : (va (cr k) + va (dk k)).natAbs ≤ vl 4607182418800017408
  o1 : va (cr ((k + 128) % 256)) = - va (cr k)
  o2 : sg (dk ((k + 128) % 256)) = !sg (dk k)
  o3 : rg (dk ((k + 128) % 256)) = rg (dk k)
theorem tab (k : Nat) (h : k < 256) : Tb k := by
  have := List.all_eq_true.1 tab_ok k (by simp; omega)
  unfold tabB at this
  simp only [Bool.and_eq_true, decide_eq_true_eq] at this
  obtain ⟨⟨⟨⟨⟨⟨⟨⟨⟨⟨h1, h2⟩, h3⟩, h4⟩, h5⟩, h6⟩, h7⟩, h8⟩, h9⟩, h10⟩, h11⟩ := this
  exact ⟨⟨h1, by omega⟩, h2, ⟨h3, by omega⟩, h4, h5, h6, h7, h8, h9, h10, h11⟩

/-- A part of a step on the circle: from 0 to 1. -/
structure Pa (f : Nat) : Prop where
  f1 : Fi f
  f2 : rg f ≤ 4607182418800017408
  f3 : sg f = false
def pt (k f : Nat) : Nat := (double.mul (dk k) f).getD 0
def sn (k f : Nat) : Nat := (double.add (cr k) (pt k f)).getD 0
theorem part_ok (k f : Nat) (h : k < 256) (hf : Pa f) : ∃ r, double.mul (dk k) f = some (pt k f) ∧ pt k f = wd (sg (dk k)) r ∧ r ≤ rg (dk k) ∧ Fi (pt k f) ∧ r = min (rr 1074 (vl (rg (dk k)) * vl (rg f))) 9218868437227405312 := by
  have t := tab k h
  obtain ⟨r, h1, h2⟩ := mul_one_le (dk k) f t.d1 hf.f1 hf.f2
  have h3 := mul_fi (dk k) f t.d1 hf.f1
  rw [hf.f3, Bool.xor_false] at h1 h3
  have hr : rg (dk k) < 9218868437227405312 := t.d1.2
  have e : pt k f = wd (sg (dk k)) r := by unfold pt; rw [h1]; rfl
  refine ⟨r, by rw [e, h1], e, h2, by rw [e]; exact fi_wd _ _ (by omega), ?_⟩
  have h4 : some (wd (sg (dk k)) r) = some (wd (sg (dk k)) (min (rr 1074 (vl (rg (dk k)) * vl (rg f))) 9218868437227405312)) := by rw [← h1, h3]
  have h5 : wd (sg (dk k)) r = wd (sg (dk k)) (min (rr 1074 (vl (rg (dk k)) * vl (rg f))) 9218868437227405312) := Option.some.inj h4
  have h6 := congrArg rg h5
  rw [rg_wd _ _ (by omega), rg_wd _ _ (Nat.lt_of_le_of_lt (Nat.min_le_right _ _) (by decide))] at h6
  exact h6
theorem between (a d p : Int) (M : Nat) (h1 : a.natAbs ≤ M) (h2 : (a + d).natAbs ≤ M) (hp : (0 ≤ p ∧ p ≤ d) ∨ (d ≤ p ∧ p ≤ 0)) : (a + p).natAbs ≤ M := by omega
theorem sine_ok (k f : Nat) (h : k < 256) (hf : Pa f) : double.add (cr k) (pt k f) = some (sn k f) ∧ Fi (sn k f) ∧ rg (sn k f) ≤ 4607182418800017408 ∧ (va (cr k) + va (pt k f)).natAbs ≤ vl 4607182418800017408 ∧ sn k f = sm (sg (cr k) && sg (pt k f)) (va (cr k) + va (pt k f)) := by
  have t := tab k h
  obtain ⟨r, h1, h2, h3, h4, h5⟩ := part_ok k f h hf
  have hr : rg (dk k) < 9218868437227405312 := t.d1.2
  have ha := add_fi (cr k) (pt k f) t.c1 h4
  have e : sn k f = sm (sg (cr k) && sg (pt k f)) (va (cr k) + va (pt k f)) := by unfold sn; rw [ha]; rfl
  have hb : (va (cr k) + va (pt k f)).natAbs ≤ vl 4607182418800017408 := by
    refine between _ (va (dk k)) _ _ t.v1 t.v2 ?_
    rw [h2, va_wd _ _ (by omega)]
    have hv := vl_mono h3
    unfold va
    cases sg (dk k)
    · left; simp; omega
    · right; simp; omega
  have hs := sm_fi (sg (cr k) && sg (pt k f)) _ 4607182418800017408 (by decide) hb
  refine ⟨by rw [e, ha], by rw [e]; exact hs.1, by rw [e]; exact hs.2.1, hb, e⟩
/-- Half a circle on: the same with the other sign. -/
theorem sine_opp (k f : Nat) (h : k < 256) (hf : Pa f) : va (sn ((k + 128) % 256) f) = - va (sn k f) := by
  have t := tab k h
  have h' : (k + 128) % 256 < 256 := Nat.mod_lt _ (by decide)
  obtain ⟨r, h1, h2, h3, h4, h5⟩ := part_ok k f h hf
  obtain ⟨r', h1', h2', h3', h4', h5'⟩ := part_ok _ f h' hf
  have hr : rg (dk k) < 9218868437227405312 := t.d1.2
  obtain ⟨_, _, _, hb, e⟩ := sine_ok k f h hf
  obtain ⟨_, _, _, _, e'⟩ := sine_ok _ f h' hf
  have er : r' = r := by rw [h5', h5, t.o3]
  have hq : r < 9223372036854775808 := Nat.lt_of_le_of_lt h3 (Nat.lt_trans hr (by decide))
  clear h5 h5' h1 h1' h4 h4' 
  have ep : va (pt ((k + 128) % 256) f) = - va (pt k f) := by
    rw [h2', h2, er, t.o2, va_wd _ _ hq, va_wd _ _ hq]
    cases sg (dk k) <;> simp
  rw [e', e, t.o1, ep, show -va (cr k) + -va (pt k f) = -(va (cr k) + va (pt k f)) by omega]
  exact sm_neg _ _ _ 4607182418800017408 (by decide) hb
end Go.Proofs.Ytjfmpgfpehnnjah.Vo
