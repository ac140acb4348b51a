/- What slices.SortFunc and slices.Equal come to at tones. -/
import Derived.Test.YtjakaceckmhjiafDoorY6
import Derived.Test.YtjakaceckmhjiafDoorYShelf
import Derived.Laws.StructEq
namespace Go.Proofs.YtjakaceckmhjiafDoor.Y
open Go.RowKit Go.Sort Go.Shelf Go.Lib
set_option linter.unusedVariables false
set_option linter.unusedSimpArgs false

/-- A tone's five cells. -/
def enc (y : Tn) : List Value := [.int .i64 y.t, .int .i64 y.g, .int .i64 y.l, .int .i64 y.a, .int .i64 y.o]
def eqT (x y : Tn) : Bool := x.t == y.t && (x.g == y.g && (x.l == y.l && (x.a == y.a && x.o == y.o)))
theorem eqT_yes {x y : Tn} (h : eqT x y = true) : x = y := by
  unfold eqT at h; simp at h
  exact Tn.same h.1 h.2.1 h.2.2.1 h.2.2.2.1 h.2.2.2.2
theorem eqT_self (x : Tn) : eqT x x = true := by unfold eqT; simp
theorem eqT_no {x y : Tn} (h : eqT x y = false) : x ≠ y := fun e => by rw [e, eqT_self] at h; cases h
set_option maxRecDepth 20000 in
theorem equalTones (x y : Tn) (w : World) : (Op.equalIn 10000 44 (.agg #[.int .i64 x.t, .int .i64 x.g, .int .i64 x.l, .int .i64 x.a, .int .i64 x.o]) (.agg #[.int .i64 y.t, .int .i64 y.g, .int .i64 y.l, .int .i64 y.a, .int .i64 y.o])).run Tryd.prog w = .ok (eqT x y) w := by
  have u3 := Tryd.underlying3
  have a3 := Tryd.isAgg3
  have z3 := Tryd.sizeOf3
  have aP := Tryd.isAgg24
  have zP := Tryd.sizeOf24
  have hS : Tryd.prog.underlying 44 = some (.struct (Tryd.prog.fieldsOf 44)) := by kernel_rfl
  have hp : Tryd.prog.stoodInHeld 44 = false := by kernel_rfl
  have hS2 : Tryd.prog.underlying 24 = some (.struct (Tryd.prog.fieldsOf 24)) := by kernel_rfl
  have hp2 : Tryd.prog.stoodInHeld 24 = false := by kernel_rfl
  obtain ⟨xt, xg, xl, xa, xo⟩ := x
  obtain ⟨yt, yg, yl, ya, yo⟩ := y
  have hF2 : ∀ w : World, (Op.equalIn 9999 24 (.agg #[.int .i64 xl, .int .i64 xa, .int .i64 xo]) (.agg #[.int .i64 yl, .int .i64 ya, .int .i64 yo])).run Tryd.prog w = .ok (xl == yl && (xa == ya && xo == yo)) w := fun w => by
    rw [show (9999 : Nat) = 9998 + 1 from rfl, run_equalIn_agg w 9998 24 _ _ hS2 hp2]
    simp only [Program.fieldsOf, Tryd.underlying24]
    go_simp
    by_cases h1 : xl = yl <;> by_cases h2 : xa = ya <;> by_cases h3 : xo = yo <;> simp [h1, h2, h3]
  rw [show (10000 : Nat) = 9999 + 1 from rfl, run_equalIn_agg w 9999 44 _ _ hS hp]
  simp only [Program.fieldsOf, Tryd.underlying44]
  unfold eqT
  go_simp
  by_cases h1 : xt = yt <;> by_cases h2 : xg = yg <;> by_cases h3 : xl = yl <;> by_cases h4 : xa = ya <;> by_cases h5 : xo = yo <;> simp [h1, h2, h3, h4, h5, Result.andThen]
theorem cmpLays [Inhabited Tn] (blk off size : Nat) (w : World) :
    CmpLays Tryd.prog 21 #[] enc 5 cf blk off size w :=
  fun _ _ _ _ x y => order_any x y _

theorem below_sort {w : World} {mb m : Nat} {f : Array Value → Array Value} {os : Array Obj} {B : Nat} (hB : B ≤ mb) (hB2 : B ≤ w.heap.size) : Go.RowKit.Below B w (Go.Sort.grow (Go.Sort.mapBlock (Go.Sort.ahead w m) mb f) os) :=
  ⟨rfl, rfl, rfl, by simp [Go.Sort.grow, Go.Sort.mapBlock, Go.Sort.ahead] <;> omega, fun k hk => by
    simp only [Go.Sort.grow, Go.Sort.mapBlock, Go.Sort.ahead]
    rw [Array.getElem?_append_left (by simp; omega), Array.getElem?_modify, if_neg (by omega)]⟩

theorem arr_get [Inhabited Tn] (Y : Nat → Tn) (n i : Nat) (hi : i < n) : ((Array.range n).map Y)[i]! = Y i := by
  rw [getElem!_pos _ i (by simpa using hi)]
  simp
theorem arr_tab (Y : Nat → Tn) (n : Nat) : ((Array.range n).map Y).toList = tab Y n := by simp [tab]

set_option maxHeartbeats 2000000 in
theorem sort_any (mb n : Nat) (Y : Nat → Tn) (w : World) (hR : Row w mb n Y) (hn : n ≤ 1024) :
    Calls Tryd.prog 25 #[.slice (some ⟨mb, 0, none⟩) n n, .func (.func 21) #[] #[]] w fun e w' => e = .returned (.tuple #[]) ∧ ∃ U, Row w' mb n U ∧ (tab U n).Perm (tab Y n) ∧ Ord (tab U n) ∧ ∀ B, B ≤ mb → Go.RowKit.Below B w w' := by
  have inh : Inhabited Tn := ⟨⟨0, 0, 0, 0, 0⟩⟩
  have eg : ∀ args w, (callFunc 21 args).run Tryd.prog w = .ok (.enter 21 args) w := enters_of Tryd.func21 (by kernel_rfl) rfl
  have hlt : ∀ x y, ltOf cf x y = lt x y := cf_neg
  have hO : SWO (ltOf cf) := ⟨fun x => by rw [hlt]; exact lt_irrefl x, fun x y z h1 h2 => by rw [hlt] at *; exact lt_trans x y z h1 h2, fun x y z h1 h2 => by rw [hlt] at *; exact lt_ntrans x y z h1 h2⟩
  have hsz : ((Array.range n).map Y).size = n := by simp
  have hH : HoldsK enc 5 w mb 0 ((Array.range n).map Y) := by
    intro q hq
    rw [size_flatK, hsz] at hq
    have hd : q / 5 < n := by omega
    have e : q = (q / 5) * 5 + q % 5 := by omega
    have h1 := hR.c (q / 5) (q % 5) hd (by omega)
    have h2 := hR.f (q / 5) (q % 5) hd (by omega)
    rw [← e] at h1 h2
    rw [Nat.zero_add, get_flatK _ _ _ _ (by rw [hsz]; exact hq), arr_get Y n _ hd]
    refine ⟨h1.trans ?_, h2⟩
    have hm : q % 5 = 0 ∨ q % 5 = 1 ∨ q % 5 = 2 ∨ q % 5 = 3 ∨ q % 5 = 4 := by omega
    rcases hm with e | e | e | e | e <;> rw [e] <;> rfl
  have hcon := AnyQ.slices_SortFunc Tryd.sortTone 5 Tryd.isAgg44 Tryd.sizeOf44 enc (fun _ => rfl) (fun x v hv => by simp [enc] at hv; rcases hv with rfl | rfl | rfl | rfl | rfl <;> rfl) cf hO 21 #[] mb 0 n ((Array.range n).map Y) w eg (cmpLays mb 0 _ w) hH hR.lt (by rw [hsz]; omega)
  rw [hsz] at hcon
  refine Calls.mono hcon ?_
  rintro e w' ⟨rfl, d', m, os, hp, hs, rfl⟩
  refine ⟨rfl, fun i => d'[i]!, ?_, ?_, ?_, fun B hB => below_sort hB (by have := hR.lt; omega)⟩
  · have hd : d'.size = ((Array.range n).map Y).size := hp.1
    have hh := holdsK_sortWorldK_c enc 5 w mb 0 _ d' m os hH hR.lt hd
    have hsz' : d'.size = n := hd.trans hsz
    refine ⟨by have := size_sortWorldK_c enc 5 w mb 0 m d' os; have := hR.lt; omega, fun j i hj hi => ?_, fun j i hj hi => ?_⟩
    · have := (hh.cell (i := j) (c := i) (by omega) hi).1
      rw [Nat.zero_add] at this
      rw [this]
      match i, hi with
      | 0, _ => rfl
      | 1, _ => rfl
      | 2, _ => rfl
      | 3, _ => rfl
      | 4, _ => rfl
    · have := (hh.cell (i := j) (c := i) (by omega) hi).2
      rw [Nat.zero_add] at this
      exact this
  · have hsz' : d'.size = n := hp.1.trans hsz
    have h3 := hp.2.2
    rw [show d'.extract 0 n = d' by rw [← hsz']; exact Array.extract_size, show ((Array.range n).map Y).extract 0 n = (Array.range n).map Y by rw [show n = ((Array.range n).map Y).size from hsz.symm]; simp, arr_tab] at h3
    have : tab (fun i => d'[i]!) n = d'.toList := by
      apply List.ext_getElem
      · rw [tab_len]; simp [hsz']
      · intro i h1 h2
        rw [tab_get]
        rw [getElem!_pos d' i (by simpa using h2)]
        simp
    rw [this]; exact h3
  · rw [ord_tab]
    intro i j hij hj
    have := hs i j (by omega) hij hj
    rw [hlt] at this
    exact this

theorem neqTones : NeqAt Tryd.prog 44 (fun x => .agg (enc x).toArray) eqT := by
  refine ⟨fun x y w => ?_, GuardAt.agg _ (by kernel_rfl)⟩
  have := equalTones x y w
  simp only [enc]
  rw [run_neq_struct]
  show Result.andThen (Sem.run Tryd.prog (Op.equalIn 10000 44 (.agg #[.int .i64 x.t, .int .i64 x.g, .int .i64 x.l, .int .i64 x.a, .int .i64 x.o]) (.agg #[.int .i64 y.t, .int .i64 y.g, .int .i64 y.l, .int .i64 y.a, .int .i64 y.o])) w) _ = _
  rw [this]
  rfl
theorem tab_get! [Inhabited Tn] (T : Nat → Tn) (n j : Nat) (h : j < n) : (tab T n)[j]! = T j := by
  rw [getElem!_pos _ j (by rw [tab_len]; exact h), tab_get]
theorem enc_cells {W : World} {b off n : Nat} {T : Nat → Tn} (h0 : ∀ j, j < n → W.cell? ⟨b, off + j * 5, none⟩ = some (.int .i64 (T j).t)) (h1 : ∀ j, j < n → W.cell? ⟨b, off + j * 5 + 1, none⟩ = some (.int .i64 (T j).g)) (h2 : ∀ j, j < n → W.cell? ⟨b, off + j * 5 + 2, none⟩ = some (.int .i64 (T j).l)) (h3 : ∀ j, j < n → W.cell? ⟨b, off + j * 5 + 3, none⟩ = some (.int .i64 (T j).a)) (h4 : ∀ j, j < n → W.cell? ⟨b, off + j * 5 + 4, none⟩ = some (.int .i64 (T j).o)) (j : Nat) (hj : j < n) (i : Nat) (v : Value) (hv : (enc (T j))[i]? = some v) : W.cell? ⟨b, off + j * 5 + i, none⟩ = some v := by
  unfold enc at hv
  match i, hv with
  | 0, hv => simp at hv; subst hv; exact h0 j hj
  | 1, hv => simp at hv; subst hv; exact h1 j hj
  | 2, hv => simp at hv; subst hv; exact h2 j hj
  | 3, hv => simp at hv; subst hv; exact h3 j hj
  | 4, hv => simp at hv; subst hv; exact h4 j hj
  | i + 5, hv => simp at hv
theorem equal_any (ao bo : Option Addr) (n c1 c2 : Nat) (T U : Nat → Tn) (w : World) (h0 : 0 < n) (hn : n ≤ 1024) (hT : TL w ao n T) (hU : TL w bo n U) :
    Calls Tryd.prog 47 #[.slice ao n c1, .slice bo n c2] w fun e w' => (∃ B : Bool, e = .returned (.bool B) ∧ (B = true ↔ tab T n = tab U n)) ∧ Go.RowKit.Below w.heap.size w w' := by
  have inh : Inhabited Tn := ⟨⟨0, 0, 0, 0, 0⟩⟩
  obtain ⟨b1, o1, rfl, hl1, p0, p1, p2, p3, p4⟩ := hT.at' h0
  obtain ⟨b2, o2, rfl, hl2, q0, q1, q2, q3, q4⟩ := hU.at' h0
  have hcon := AnyQ.slices_Equal Tryd.equalTone 5 Tryd.isAgg44 Tryd.sizeOf44 enc (fun _ => rfl) eqT neqTones b1 o1 n c1 b2 o2 n c2 (tab T n) (tab U n) w (by rw [tab_len]; omega) (by rw [tab_len]; omega) (by omega) (by omega)
    (fun j hj i v hv => by rw [tab_len] at hj; rw [tab_get! T n j hj] at hv; exact enc_cells p0 p1 p2 p3 p4 j hj i v hv)
    (fun j hj i v hv => by rw [tab_len] at hj; rw [tab_get! U n j hj] at hv; exact enc_cells q0 q1 q2 q3 q4 j hj i v hv)
  rw [show (tab T n).take n = tab T n from List.take_of_length_le (by rw [tab_len]; omega), show (tab U n).take n = tab U n from List.take_of_length_le (by rw [tab_len]; omega)] at hcon
  refine Calls.mono hcon ?_
  rintro e w' ⟨rfl, q, rfl⟩
  refine ⟨⟨_, rfl, ?_, ?_⟩, ⟨rfl, rfl, rfl, Nat.le_refl _, fun k hk => rfl⟩⟩
  · intro hB
    refine tab_ext fun j hj => ?_
    cases hq : eqT (T j) (U j)
    · have := Lib.allEq_elem eqT (tab T n) (tab U n) j (by rw [tab_len]; exact hj) (by rw [tab_len]; exact hj) (by rw [tab_get! T n j hj, tab_get! U n j hj]; exact hq)
      rw [this] at hB; cases hB
    · exact eqT_yes hq
  · intro hB
    rw [hB]
    exact Lib.allEq_all eqT _ _ rfl fun j hj => eqT_self _
end Go.Proofs.YtjakaceckmhjiafDoor.Y
