/- What comes later comes out later; turned round it comes out turned round: in plain words. -/
import Derived.Test.YtjfmpgfpehnnjaiFiMath3
import Derived.Test.YtjfmpgfpehnnjaiFiMath4
namespace Go.Proofs.Ytjfmpgfpehnnjai.Fi
open Fl
set_option linter.unusedSimpArgs false
set_option linter.unusedVariables false

/-- The same states but for signs of noughts. -/
structure Rz (s s' : St) : Prop where
  x1 : oz s.x1 = oz s'.x1
  x2 : oz s.x2 = oz s'.x2
  y1 : oz s.y1 = oz s'.y1
  y2 : oz s.y2 = oz s'.y2
theorem om_c {a b c d : Option Nat} (h1 : oz a = oz c) (h2 : oz b = oz d) : oz (om a b) = oz (om c d) := by rw [om_z, h1, h2, ← om_z]
theorem oa_c {a b c d : Option Nat} (h1 : oz a = oz c) (h2 : oz b = oz d) : oz (oa a b) = oz (oa c d) := by rw [oa_z, h1, h2, ← oa_z]
theorem os_c {a b c d : Option Nat} (h1 : oz a = oz c) (h2 : oz b = oz d) : oz (os a b) = oz (os c d) := by rw [os_z, h1, h2, ← os_z]
theorem nx_z (c : Cf) {s s' : St} (h : Rz s s') {x x' : Option Nat} (hx : oz x = oz x') : oz (nx c s x) = oz (nx c s' x') :=
  os_c (os_c (oa_c (oa_c (om_c rfl hx) (om_c rfl h.x1)) (om_c rfl h.x2)) (om_c rfl h.y1)) (om_c rfl h.y2)
theorem adv_z (c : Cf) {s s' : St} (h : Rz s s') {x x' : Option Nat} (hx : oz x = oz x') : Rz (adv c s x) (adv c s' x') := ⟨hx, h.x1, nx_z c h hx, h.y1⟩
theorem outs_z (c : Cf) (l : List (Option Nat)) {s s' : St} (h : Rz s s') : (outs c s l).map oz = (outs c s' l).map oz := by
  induction l generalizing s s' with
  | nil => rfl
  | cons x l ih => show oz (nx c s x) :: _ = oz (nx c s' x) :: _; rw [nx_z c h rfl, ih (adv_z c h rfl)]
theorem fi_nn {x : Nat} (h : Fi x) : ab x = some x := by
  unfold ab
  cases hc : nn x with
  | false => rfl
  | true => have := nn_of x hc; have := h.2; omega
theorem mul_nought {x : Nat} (h : Fi x) : oz (om (ab x) (some 0)) = some 0 := by
  rw [fi_nn h]
  show oz (Ieee.double.mul x 0) = _
  rw [mul_zero x 0 h ⟨by decide, by decide⟩ rfl]
  show some (z1 (wd _ 0)) = _
  rw [z1_wd0]
theorem oz_some {a : Option Nat} (h : oz a = some 0) : oz a = oz (some 0) := h
/-- Coefficients that are numbers. -/
structure FiC (c : Cf) : Prop where
  b0 : Fi c.b0
  b1 : Fi c.b1
  b2 : Fi c.b2
  a1 : Fi c.a1
  a2 : Fi c.a2
theorem mul_n {x : Nat} {a : Option Nat} (h : Fi x) (ha : oz a = some 0) : oz (om (ab x) a) = oz (some 0) := by
  rw [om_c (c := ab x) (d := some 0) rfl ha]; exact mul_nought h
theorem add_n {a b : Option Nat} (ha : oz a = oz (some 0)) (hb : oz b = oz (some 0)) : oz (oa a b) = oz (some 0) := by
  rw [oa_c ha hb]; decide
theorem sub_n {a b : Option Nat} (ha : oz a = oz (some 0)) (hb : oz b = oz (some 0)) : oz (os a b) = oz (some 0) := by
  rw [os_c ha hb]; decide
theorem nx_n (c : Cf) (hc : FiC c) {s : St} (h : Rz s rest0) : oz (nx c s (some 0)) = some 0 :=
  sub_n (sub_n (add_n (add_n (mul_n hc.b0 rfl) (mul_n hc.b1 h.x1)) (mul_n hc.b2 h.x2)) (mul_n hc.a1 h.y1)) (mul_n hc.a2 h.y2)
theorem adv_n (c : Cf) (hc : FiC c) {s : St} (h : Rz s rest0) : Rz (adv c s (some 0)) rest0 := ⟨rfl, h.x1, nx_n c hc h, h.y1⟩
/-- Behind silence it is at rest; of silence comes silence. -/
theorem silence (c : Cf) (hc : FiC c) (n : Nat) {s : St} (h : Rz s rest0) : Rz (sts c s (List.replicate n (some 0))) rest0 ∧ ∀ x ∈ outs c s (List.replicate n (some 0)), oz x = some 0 := by
  induction n generalizing s with
  | zero => exact ⟨h, fun x hx => absurd hx (by simp [outs])⟩
  | succ n ih =>
    rw [List.replicate_succ]
    obtain ⟨h1, h2⟩ := ih (adv_n c hc h)
    refine ⟨h1, fun x hx => ?_⟩
    rcases List.mem_cons.1 hx with e | e
    · rw [e]; exact nx_n c hc h
    · exact h2 x e
theorem zero_eq {x : Nat} (h : oz (ab x) = some 0) : (Ieee.double.order x 0 != some .eq) = false := by
  unfold ab at h
  cases hn : nn x
  · rw [hn] at h
    simp [oz] at h
    have : x = 0 ∨ x = 9223372036854775808 := by
      unfold z1 at h
      by_cases c : x = 9223372036854775808
      · exact Or.inr c
      · rw [if_neg c] at h; exact Or.inl h
    rcases this with rfl | rfl <;> decide
  · rw [hn] at h; simp [oz] at h
/-- Words that fit. -/
def Wf (a : Option Nat) : Prop := ∀ x, a = some x → x < 18446744073709551616
theorem om_w (a b : Option Nat) : Wf (om a b) := fun r h => by
  cases a with
  | none => cases h
  | some x => cases b with
    | none => cases h
    | some y => exact (mul_some h).2
theorem oa_w (a b : Option Nat) : Wf (oa a b) := fun r h => by
  cases a with
  | none => cases h
  | some x => cases b with
    | none => cases h
    | some y => exact (add_some h).2
theorem os_w (a b : Option Nat) : Wf (os a b) := fun r h => by
  cases a with
  | none => cases h
  | some x => cases b with
    | none => cases h
    | some y => exact (sub_some h).2
theorem om_g (a b : Option Nat) (hb : Wf b) : om a (og b) = og (om a b) := by
  cases a with
  | none => rfl
  | some x => cases b with
    | none => rfl
    | some y => exact mul_ng x y (hb y rfl)
theorem oa_g (a b : Option Nat) (ha : Wf a) (hb : Wf b) : oz (oa (og a) (og b)) = oz (og (oa a b)) := by
  cases a with
  | none => rfl
  | some x => cases b with
    | none => rfl
    | some y => exact add_ng x y (ha x rfl) (hb y rfl)
theorem os_g (a b : Option Nat) (ha : Wf a) (hb : Wf b) : oz (os (og a) (og b)) = oz (og (os a b)) := by
  cases a with
  | none => rfl
  | some x => cases b with
    | none => rfl
    | some y => exact sub_ng x y (ha x rfl) (hb y rfl)
theorem z1_ng {x y : Nat} (h : z1 x = z1 y) : z1 (ng' x) = z1 (ng' y) := by
  unfold z1 at h
  by_cases c : x = 9223372036854775808 <;> by_cases d : y = 9223372036854775808
  · rw [c, d]
  · rw [if_pos c, if_neg d] at h; rw [c, ← h]; decide
  · rw [if_neg c, if_pos d] at h; rw [d, h]; decide
  · rw [if_neg c, if_neg d] at h; rw [h]
theorem og_c {a b : Option Nat} (h : oz a = oz b) : oz (og a) = oz (og b) := by
  cases a with
  | none => cases b with
    | none => rfl
    | some y => simp [oz] at h
  | some x => cases b with
    | none => simp [oz] at h
    | some y =>
      simp [oz] at h
      show some (z1 (ng' x)) = some (z1 (ng' y))
      rw [z1_ng h]
/-- One state is the other one turned round. -/
structure Rg (s s' : St) : Prop where
  x1 : oz s'.x1 = oz (og s.x1)
  x2 : oz s'.x2 = oz (og s.x2)
  y1 : oz s'.y1 = oz (og s.y1)
  y2 : oz s'.y2 = oz (og s.y2)
  w1 : Wf s.x1
  w2 : Wf s.x2
  w3 : Wf s.y1
  w4 : Wf s.y2
theorem om_r (a : Option Nat) {b b' : Option Nat} (h : oz b' = oz (og b)) (hb : Wf b) : oz (om a b') = oz (og (om a b)) := by
  rw [om_c (c := a) rfl h, om_g a b hb]
theorem oa_r {a b a' b' : Option Nat} (h1 : oz a' = oz (og a)) (h2 : oz b' = oz (og b)) (ha : Wf a) (hb : Wf b) : oz (oa a' b') = oz (og (oa a b)) := by rw [oa_c h1 h2, oa_g a b ha hb]
theorem os_r {a b a' b' : Option Nat} (h1 : oz a' = oz (og a)) (h2 : oz b' = oz (og b)) (ha : Wf a) (hb : Wf b) : oz (os a' b') = oz (og (os a b)) := by rw [os_c h1 h2, os_g a b ha hb]
theorem nx_r (c : Cf) {s s' : St} (h : Rg s s') {x x' : Option Nat} (hx : oz x' = oz (og x)) (hw : Wf x) : oz (nx c s' x') = oz (og (nx c s x)) :=
  os_r (os_r (oa_r (oa_r (om_r _ hx hw) (om_r _ h.x1 h.w1) (om_w _ _) (om_w _ _)) (om_r _ h.x2 h.w2) (oa_w _ _) (om_w _ _)) (om_r _ h.y1 h.w3) (oa_w _ _) (om_w _ _)) (om_r _ h.y2 h.w4) (os_w _ _) (om_w _ _)
theorem adv_r (c : Cf) {s s' : St} (h : Rg s s') {x x' : Option Nat} (hx : oz x' = oz (og x)) (hw : Wf x) : Rg (adv c s x) (adv c s' x') := ⟨hx, h.x1, nx_r c h hx hw, h.y1, hw, h.w1, os_w _ _, h.w3⟩
theorem outs_r (c : Cf) (l : List (Option Nat)) (hl : ∀ x ∈ l, Wf x) {s s' : St} (h : Rg s s') : (outs c s' (l.map og)).map oz = (outs c s l).map fun x => oz (og x) := by
  induction l generalizing s s' with
  | nil => rfl
  | cons x l ih =>
    have hw := hl x (by simp)
    show oz (nx c s' (og x)) :: _ = oz (og (nx c s x)) :: _
    rw [nx_r c h rfl hw, ih (fun y hy => hl y (by simp [hy])) (adv_r c h rfl hw)]
theorem rest_r : Rg rest0 rest0 := ⟨by decide, by decide, by decide, by decide, fun x h => by cases h; decide, fun x h => by cases h; decide, fun x h => by cases h; decide, fun x h => by cases h; decide⟩
theorem abs_ng (l : List Nat) (hl : ∀ x ∈ l, x < 18446744073709551616) : abs (l.map ng') = (abs l).map og := by
  unfold abs
  rw [List.map_map, List.map_map]
  exact List.map_congr_left fun x hx => ab_ng x (hl x hx)
theorem abs_w {l : List Nat} (hl : ∀ x ∈ l, x < 18446744073709551616) : ∀ x ∈ abs l, Wf x := fun x hx y hy => by
  unfold abs at hx
  obtain ⟨z, hz, e⟩ := List.mem_map.1 hx
  rw [← e] at hy
  unfold ab at hy
  cases hn : nn z
  · rw [hn] at hy; cases hy; exact hl _ hz
  · rw [hn] at hy; cases hy
end Go.Proofs.Ytjfmpgfpehnnjai.Fi
