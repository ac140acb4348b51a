/- What the document's Same answers of two lines. -/
import Derived.Test.YtpacfppnmenndaaTkAl
import Derived.Laws.StructEq
import Derived.Test.YtpacfppnmenndaaTk4
namespace Go.Proofs.Ytpacfppnmenndaa.Tk
open Go.RowKit Go.Maps Go.Sort Go.Proofs.Ytpacfppnmenndaa.Rg
open Go.Proofs.Ytpacfppnmenndaa.Y
set_option linter.unusedVariables false
set_option linter.unusedSimpArgs false

def eqT (x y : Tn) : Bool := x.t == y.t && (x.g == y.g && (x.l == y.l && (x.a == y.a && x.o == y.o)))
theorem eqT_yes {x y : Tn} (h : eqT x y = true) : x = y := by
  unfold eqT at h; simp at h
  exact Tn.same h.1 h.2.1 h.2.2.1 h.2.2.2.1 h.2.2.2.2
theorem eqT_self (x : Tn) : eqT x x = true := by unfold eqT; simp
theorem eqT_no {x y : Tn} (h : eqT x y = false) : x ≠ y := fun e => by rw [e, eqT_self] at h; cases h
set_option maxRecDepth 20000 in
theorem equalTones (x y : Tn) (w : World) : (Op.equalIn 10000 38 (.agg #[.int .i64 x.t, .int .i64 x.g, .int .i64 x.l, .int .i64 x.a, .int .i64 x.o]) (.agg #[.int .i64 y.t, .int .i64 y.g, .int .i64 y.l, .int .i64 y.a, .int .i64 y.o])).run Try.prog w = .ok (eqT x y) w := by
  have u3 := Try.underlying3
  have a3 := Try.isAgg3
  have z3 := Try.sizeOf3
  have aP := Try.isAgg36
  have zP := Try.sizeOf36
  have hS : Try.prog.underlying 38 = some (.struct (Try.prog.fieldsOf 38)) := by kernel_rfl
  have hp : Try.prog.stoodInHeld 38 = false := by kernel_rfl
  have hS2 : Try.prog.underlying 36 = some (.struct (Try.prog.fieldsOf 36)) := by kernel_rfl
  have hp2 : Try.prog.stoodInHeld 36 = false := by kernel_rfl
  obtain ⟨xt, xg, xl, xa, xo⟩ := x
  obtain ⟨yt, yg, yl, ya, yo⟩ := y
  have hF2 : ∀ w : World, (Op.equalIn 9999 36 (.agg #[.int .i64 xl, .int .i64 xa, .int .i64 xo]) (.agg #[.int .i64 yl, .int .i64 ya, .int .i64 yo])).run Try.prog w = .ok (xl == yl && (xa == ya && xo == yo)) w := fun w => by
    rw [show (9999 : Nat) = 9998 + 1 from rfl, run_equalIn_agg w 9998 36 _ _ hS2 hp2]
    simp only [Program.fieldsOf, Try.underlying36]
    go_simp
    by_cases h1 : xl = yl <;> by_cases h2 : xa = ya <;> by_cases h3 : xo = yo <;> simp [h1, h2, h3]
  rw [show (10000 : Nat) = 9999 + 1 from rfl, run_equalIn_agg w 9999 38 _ _ hS hp]
  simp only [Program.fieldsOf, Try.underlying38]
  unfold eqT
  go_simp
  by_cases h1 : xt = yt <;> by_cases h2 : xg = yg <;> by_cases h3 : xl = yl <;> by_cases h4 : xa = ya <;> by_cases h5 : xo = yo <;> simp [h1, h2, h3, h4, h5, Result.andThen]
/-- It answers whether something is so. -/
def SaysQ (e : Ending) (P : Prop) : Prop := ∃ B : Bool, e = .returned (.bool B) ∧ (B = true ↔ P)
theorem says_yes {P : Prop} (h : P) : SaysQ (.returned (.bool true)) P := ⟨true, rfl, fun _ => h, fun _ => rfl⟩
theorem says_no {P : Prop} (h : ¬ P) : SaysQ (.returned (.bool false)) P := ⟨false, rfl, fun e => absurd e (by decide), fun e => absurd e h⟩

set_option maxRecDepth 20000 in
set_option maxHeartbeats 4000000 in
theorem Same_any (ao bo : Option Addr) (n m c1 c2 : Nat) (T U : Nat → Tn) (w : World) (hT : TL w ao n T) (hU : TL w bo m U) (hn : n ≤ c1) (hm : m ≤ c2) (hb1 : c1 ≤ 9223372036854775807) (hb2 : c2 ≤ 9223372036854775807) :
    Calls Try.prog 9 #[.slice ao n c1, .slice bo m c2] w fun e w' => SaysQ e (tab T n = tab U m) ∧ Go.RowKit.Below w.heap.size w w' := by
  by_cases hnm : n = m
  · subst hnm
    have hne : ((n : Int) != (n : Int)) = false := by simp
    go_enter Try.func9, Try.ntmps9
    go_wp2_with fail
    go_loopw [13] (fun i wr => ∃ k : Nat, k ≤ n ∧ i = .int .i64 k ∧ Hid (∀ j, j < k → T j = U j) ∧ Go.RowKit.Below w.heap.size w wr) (fun i _ => n - (intOf i).toNat)
    case atStart => exact ⟨0, by omega, rfl, fun j hj => by omega, Below.refl _ _⟩
    case round =>
      obtain ⟨k, hkn, rfl, hz, hbr⟩ := hrel
      by_cases hlt : k < n
      · obtain ⟨b, off, rfl, hbl, p0, p1, p2, p3, p4⟩ := (hT.keep hbr).at' (by omega)
        obtain ⟨b', off', rfl, hbl', q0, q1, q2, q3, q4⟩ := (hU.keep hbr).at' (by omega)
        have r0 := p0 k hlt
        have r1 := p1 k hlt
        have r2 := p2 k hlt
        have r3 := p3 k hlt
        have r4 := p4 k hlt
        have s0 := q0 k hlt
        have s1 := q1 k hlt
        have s2 := q2 k hlt
        have s3 := q3 k hlt
        have s4 := q4 k hlt
        have heq := equalTones (T k) (U k)
        have HN : Hid (eqT (T k) (U k) = true → ∀ j, j < k + 1 → T j = U j) := fun e j hj => by
          by_cases ej : j = k
          · rw [ej]; exact eqT_yes e
          · exact hz.out j (by omega)
        have HF : Hid (eqT (T k) (U k) = false → SaysQ (.returned (.bool false)) (tab T n = tab U n)) := fun e => says_no fun h => absurd (tab_eq h k hlt) (eqT_no e)
        clear p0 p1 p2 p3 p4 q0 q1 q2 q3 q4 hz
        generalize T k = X at *
        generalize U k = Y at *
        cases he : eqT X Y
        · rw [he] at heq
          have HF2 := HF.out he
          clear HN HF he
          go_wp2_with fail
          go_quiet (fail)
          go_wp2_with fail
          go_ret
          exact ⟨HF2, below_drewN hbr _⟩
        · rw [he] at heq
          have HN2 := HN.out he
          clear HN HF he
          go_wp2_with fail
          go_quiet (fail)
          go_wp2_with fail
          go_roundw
          case rel => exact ⟨k + 1, by omega, by go_num, HN2, below_drewN hbr _⟩
          case measure => simp [intOf]; omega
      · obtain rfl : k = n := by omega
        have HF : Hid (SaysQ (.returned (.bool true)) (tab T k = tab U k)) := says_yes (tab_ext hz.out)
        go_wp2_with fail
        go_ret
        exact ⟨HF.out, hbr⟩
  · have hne : ((n : Int) != (m : Int)) = true := by simp; omega
    have HF : Hid (SaysQ (.returned (.bool false)) (tab T n = tab U m)) := says_no fun h => hnm (by have := congrArg List.length h; rw [tab_len, tab_len] at this; exact this)
    go_enter Try.func9, Try.ntmps9
    go_wp2_with fail
    go_ret
    exact ⟨HF.out, Below.refl _ _⟩


/-- Same of two lines. -/
theorem fn_tab (L : List Tn) : tab (fn L) L.length = L := by
  refine List.ext_getElem? fun i => ?_
  unfold tab
  rw [List.getElem?_map]
  by_cases h : i < L.length
  · rw [List.getElem?_range h, fn_lt h]; rfl
  · rw [List.getElem?_eq_none (by simpa using h), List.getElem?_eq_none (by omega)]; rfl
theorem same_any (S S' : Nat → Prop) (ao bo : Option Addr) (c1 c2 : Nat) (L M : List Tn) (w : World) (hL : LN w S ao L) (hM : LN w S' bo M) (h1 : L.length ≤ c1) (h2 : M.length ≤ c2) (hb1 : c1 ≤ 9223372036854775807) (hb2 : c2 ≤ 9223372036854775807) :
    Calls Try.prog 9 #[.slice ao L.length c1, .slice bo M.length c2] w fun e w' => SaysQ e (L = M) ∧ Below w.heap.size w w' := by
  refine (Same_any ao bo L.length M.length c1 c2 (fn L) (fn M) w hL.tl hM.tl h1 h2 hb1 hb2).mono ?_
  rintro e w' ⟨hs, hb⟩
  rw [fn_tab, fn_tab] at hs
  exact ⟨hs, hb⟩
end Go.Proofs.Ytpacfppnmenndaa.Tk
