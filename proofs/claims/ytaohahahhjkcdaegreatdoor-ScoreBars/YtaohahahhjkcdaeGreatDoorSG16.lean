/- What the program's Spans comes to, at every beat and every length. -/
import Derived.Test.YtaohahahhjkcdaeGreatDoorSG15
import Derived.Test.YtaohahahhjkcdaeGreatDoorSG9
namespace Go.Proofs.YtaohahahhjkcdaeGreatDoor.F
open Go.RowKit
set_option linter.unusedVariables false
set_option linter.unusedSimpArgs false

/-- The errno and the spans. -/
def M.spn (b : M.Bt) (u d : Int) : Int × List M.Sp :=
  if (M.wr b 1 4096).1 ≠ 0 then ((M.wr b 1 4096).1, []) else if M.ok u d = false then (2, []) else if u ≤ 0 then (3, []) else match M.sh b (0, 1) (u, d) [] with | none => (4, []) | some o => (0, o)
theorem M.spn_wrong (b : M.Bt) (u d : Int) (h : (M.wr b 1 4096).1 ≠ 0) : M.spn b u d = ((M.wr b 1 4096).1, []) := if_pos h
theorem M.spn_form (b : M.Bt) (u d : Int) (h : (M.wr b 1 4096).1 = 0) (h2 : M.ok u d = false) : M.spn b u d = (2, []) := by unfold M.spn; rw [if_neg (by simpa using h), if_pos h2]
theorem M.spn_range (b : M.Bt) (u d : Int) (h : (M.wr b 1 4096).1 = 0) (h2 : M.ok u d = true) (h3 : u ≤ 0) : M.spn b u d = (3, []) := by unfold M.spn; rw [if_neg (by simpa using h), if_neg (by simp [h2]), if_pos h3]
theorem M.spn_much (b : M.Bt) (u d : Int) (h : (M.wr b 1 4096).1 = 0) (h2 : M.ok u d = true) (h3 : ¬ u ≤ 0) (h4 : M.sh b (0, 1) (u, d) [] = none) : M.spn b u d = (4, []) := by unfold M.spn; rw [if_neg (by simpa using h), if_neg (by simp [h2]), if_neg h3, h4]
theorem M.spn_ok (b : M.Bt) (u d : Int) (o : List M.Sp) (h : (M.wr b 1 4096).1 = 0) (h2 : M.ok u d = true) (h3 : ¬ u ≤ 0) (h4 : M.sh b (0, 1) (u, d) [] = some o) : M.spn b u d = (0, o) := by unfold M.spn; rw [if_neg (by simpa using h), if_neg (by simp [h2]), if_neg h3, h4]

/-- An answer: the errno, and the spans as a row of its own. -/
def SpQ (r : Int × List M.Sp) (w : World) (e : Ending) (w' : World) : Prop := ∃ v, e = .returned (.tuple #[v, .int .i64 r.1]) ∧ w'.ownsRow w.heap.size 89 5 v r.2.length (spL r.2) ∧ Below w.heap.size w w'
theorem own_nil (w : World) (base : Nat) (e : TypeId) (size : Nat) : w.ownsRow base e size (.slice none 0 0) 0 [] := ⟨by simp, .inl ⟨rfl, rfl⟩⟩
theorem SpQ.nil {w w' : World} {E : Int} (hb : Below w.heap.size w w') : SpQ (E, []) w (.returned (.tuple #[.slice none 0 0, .int .i64 E])) w' := ⟨_, rfl, own_nil _ _ _ _, hb⟩

set_option maxHeartbeats 2000000 in
theorem Spans_prog (b : M.Bt) (u d : Int) (w : World) (v : Value) (hL : Lies w w.heap.size b v) (h1 : -9223372036854775808 ≤ u) (h2 : u ≤ 9223372036854775807) (h3 : -9223372036854775808 ≤ d) (h4 : d ≤ 9223372036854775807) :
    Calls Tryz.prog 21 #[v, .agg #[.int .i64 u, .int .i64 d]] w fun e w' => SpQ (M.spn b u d) w e w' := by
  have hL0 := hL
  obtain ⟨_, _, _, _, rfl⟩ | ⟨k, s, n, kid, rfl⟩ := M.Bt.two b
  · exact False.elim hL
  obtain ⟨ao, cap, rfl, hn, _⟩ := hL
  have hW := fun (X : World) (hb : Below w.heap.size w X) => Wrong_any _ X w.heap.size _ (Lies.step _ _ hL0 hb) hb.size
  generalize hbt : M.Bt.mk k s n kid = bt at *
  have g0 : ∀ o1 o2 : Obj, Below w.heap.size w ((w.alloc o1).alloc o2) := fun o1 o2 => by go_grown
  by_cases c1 : (M.wr bt 1 4096).1 = 0
  case neg =>
    rw [M.spn_wrong bt u d c1]
    have hE : ((M.wr bt 1 4096).1 != 0) = true := by simpa using c1
    clear c1
    generalize (M.wr bt 1 4096).1 = E at *
    go_enter Tryz.func21, Tryz.ntmps21
    go_wp2_with fail
    refine (hW _ (g0 _ _)).mono ?_
    rintro e w1 ⟨rfl, hb1⟩
    go_wp2_with fail
    go_returns
    exact SpQ.nil (Below.trans (g0 _ _) (hb1.mono (by simp; omega)))
  case pos =>
    have hFin := M.cnt_bd bt c1
    have hsp : ∀ hk : M.ok u d = true, ¬ u ≤ 0 → (M.sh bt (0, 1) (u, d) [] = none ∧ M.spn bt u d = (4, [])) ∨ ∃ o, M.sh bt (0, 1) (u, d) [] = some o ∧ M.spn bt u d = (0, o) := fun hk hu => by
      cases hs : M.sh bt (0, 1) (u, d) [] with
      | none => exact .inl ⟨rfl, M.spn_much bt u d c1 hk hu hs⟩
      | some o => exact .inr ⟨o, rfl, M.spn_ok bt u d o c1 hk hu hs⟩
    have hform := M.spn_form bt u d c1
    have hrange := M.spn_range bt u d c1
    rw [c1] at hW
    clear c1
    cases hok : M.ok u d
    · rw [hform hok]
      have hw := fun X => wrongLength_form u d X h1 h2 h3 h4 hok
      clear hform hrange hsp
      go_enter Tryz.func21, Tryz.ntmps21
      go_wp2_with fail
      refine (hW _ (g0 _ _)).mono ?_
      rintro e w1 ⟨rfl, hb1⟩
      have B0 : w1.cell? ⟨w.heap.size + 1, 0, none⟩ = some (.int .i64 u) := keepC hb1 (by simp) (by simp [go_sem])
      have B1 : w1.cell? ⟨w.heap.size + 1, 1, none⟩ = some (.int .i64 d) := keepC hb1 (by simp) (by simp [go_sem])
      have h01 : Below w.heap.size w w1 := Below.trans (g0 _ _) (hb1.mono (by simp; omega))
      go_wp2_with fail
      refine (hw _).mono ?_
      rintro e w2 ⟨rfl, hb2⟩
      go_wp2_with fail
      go_returns
      exact SpQ.nil (h01.trans (hb2.mono h01.size))
    · by_cases hu : u ≤ 0
      · rw [hrange hok hu]
        have hw := fun X => wrongLength_range u d X hok hu
        clear hform hrange hsp
        go_enter Tryz.func21, Tryz.ntmps21
        go_wp2_with fail
        refine (hW _ (g0 _ _)).mono ?_
        rintro e w1 ⟨rfl, hb1⟩
        have B0 : w1.cell? ⟨w.heap.size + 1, 0, none⟩ = some (.int .i64 u) := keepC hb1 (by simp) (by simp [go_sem])
        have B1 : w1.cell? ⟨w.heap.size + 1, 1, none⟩ = some (.int .i64 d) := keepC hb1 (by simp) (by simp [go_sem])
        have h01 : Below w.heap.size w w1 := Below.trans (g0 _ _) (hb1.mono (by simp; omega))
        go_wp2_with fail
        refine (hw _).mono ?_
        rintro e w2 ⟨rfl, hb2⟩
        go_wp2_with fail
        go_returns
        exact SpQ.nil (h01.trans (hb2.mono h01.size))
      · have hw := fun X => wrongLength_yes u d X hok (by omega)
        have ok01 : M.Ok (0, 1) := by unfold M.Ok M.ok; decide
        have hS := fun (X : World) (po : Nat) (hb : Below w.heap.size w X) (hp : w.heap.size ≤ po) (hO : OutAt X po []) => share_any bt hFin.2 (0, 1) (u, d) false [] X po w.heap.size _ (Lies.step _ _ hL0 hb) hp hO (by have := hFin.1; simp; omega) (fun s hs => by simp at hs) ok01 hok
        have hsp' := hsp hok hu
        clear hform hrange hsp hFin
        go_enter Tryz.func21, Tryz.ntmps21
        go_wp2_with fail
        refine (hW _ (g0 _ _)).mono ?_
        rintro e w1 ⟨rfl, hb1⟩
        have A0 : w1.cell? ⟨w.heap.size, 0, none⟩ = some (.int .i64 k) := keepC hb1 (by simp; omega) (by simp [go_sem])
        have A1 : w1.cell? ⟨w.heap.size, 1, none⟩ = some (.int .i64 s) := keepC hb1 (by simp; omega) (by simp [go_sem])
        have A2 : w1.cell? ⟨w.heap.size, 2, none⟩ = some (.slice ao n cap) := keepC hb1 (by simp; omega) (by simp [go_sem])
        have B0 : w1.cell? ⟨w.heap.size + 1, 0, none⟩ = some (.int .i64 u) := keepC hb1 (by simp) (by simp [go_sem])
        have B1 : w1.cell? ⟨w.heap.size + 1, 1, none⟩ = some (.int .i64 d) := keepC hb1 (by simp) (by simp [go_sem])
        have h01 : Below w.heap.size w w1 := Below.trans (g0 _ _) (hb1.mono (by simp; omega))
        have z1 := hb1.size
        simp at z1
        have s1 : w.heap.size < w1.heap.size := by omega
        have s2 : w.heap.size + 1 < w1.heap.size := by omega
        clear hb1
        go_wp2_with fail
        refine (hw _).mono ?_
        rintro e w2 ⟨rfl, hb2⟩
        have h02 : Below w.heap.size w w2 := h01.trans (hb2.mono h01.size)
        replace A0 := keepC hb2 s1 A0
        replace A1 := keepC hb2 s1 A1
        replace A2 := keepC hb2 s1 A2
        replace B0 := keepC hb2 s2 B0
        replace B1 := keepC hb2 s2 B1
        have z2 := hb2.size
        have s3 : w.heap.size < w2.heap.size := by omega
        have s4 : w.heap.size + 1 < w2.heap.size := by omega
        clear hb2
        have O0 : OutAt (w2.alloc (Obj.cells #[.slice none 0 0] 51)) w2.heap.size [] := ⟨by simp, by simp [go_sem], .slice none 0 0, by simp [go_sem], own_nil _ _ _ _⟩
        have h03 : Below w.heap.size w (w2.alloc (Obj.cells #[.slice none 0 0] 51)) := h02.alloc (by omega) _
        go_wp2_with fail
        refine (hS _ w2.heap.size h03 (by omega) O0).mono ?_
        rintro e w4 ⟨rfl, g1, g2⟩
        rcases hsp' with ⟨hs, hv⟩ | ⟨o, hs, hv⟩
        · rw [hs, show M.aE none = 4 from rfl]
          go_wp2_with fail
          go_returns
          rw [hv]
          exact SpQ.nil (h03.trans g2)
        · obtain ⟨g3, g4⟩ := g1 o hs
          rw [hs, show M.aE (some o) = 0 from rfl]
          obtain ⟨v, hv2, hown⟩ := g3.v
          obtain ⟨va, vc, rfl⟩ := own_form hown
          have l4 := g3.lt
          go_wp2_with fail
          go_returns
          rw [hv]
          exact ⟨_, rfl, own_base hown (by omega), h03.trans g2⟩
end Go.Proofs.YtaohahahhjkcdaeGreatDoor.F
