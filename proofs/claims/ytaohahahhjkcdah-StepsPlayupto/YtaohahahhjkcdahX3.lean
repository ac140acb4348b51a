/- What cmp.Compare, the ear's closure and slices.BinarySearchFunc come to. -/
import Derived.Test.YtaohahahhjkcdahX1
namespace Go.Proofs.Ytaohahahhjkcdah.X
open Go.RowKit Go.Maps
set_option linter.unusedVariables false
set_option linter.unusedSimpArgs false

/-- How x stands to y. -/
def M.cp (x y : Int) : Int := if x < y then -1 else if y < x then 1 else 0
/-- How many events come ahead of a tick. -/
def M.ft (t : Int) : List Z.M.Ev → Nat
  | [] => 0
  | e :: r => if e.t < t then M.ft t r + 1 else 0
def M.fb (t : Int) (l : List Z.M.Ev) : Bool := match l[M.ft t l]? with | some e => decide (M.cp e.t t = 0) | none => false
theorem M.ft_le (t : Int) (l : List Z.M.Ev) : M.ft t l ≤ l.length := by
  induction l with
  | nil => exact Nat.le_refl _
  | cons e r ih => rw [M.ft]; split <;> simp <;> omega
theorem M.ft_iff {t a : Int} {l : List Z.M.Ev} (h : M.Inc a l) : ∀ {j : Nat} {e : Z.M.Ev}, l[j]? = some e → (e.t < t ↔ j < M.ft t l) := by
  induction l generalizing a with
  | nil => intro j e he; simp at he
  | cons x r ih =>
    intro j e he
    rw [M.ft]
    cases j with
    | zero =>
      simp at he
      subst he
      by_cases c : x.t < t
      · rw [if_pos c]; constructor
        · intro; omega
        · intro; exact c
      · rw [if_neg c]; constructor
        · intro q; exact absurd q c
        · intro q; omega
    | succ j =>
      have he' : r[j]? = some e := by simpa using he
      have := ih h.2 he'
      by_cases c : x.t < t
      · rw [if_pos c, this]; omega
      · rw [if_neg c]
        have g := M.inc_ge h.2 e (List.mem_of_getElem? he')
        constructor
        · intro q; omega
        · intro q; omega
theorem isNaN_any (x : Int) (w : World) : Calls Try.prog 40 #[.int .i64 x] w fun e w' => e = .returned (.bool false) ∧ w' = w := by
  have hx : (x != x) = false := by simp
  go_enter Try.func40, Try.ntmps40
  go_wp2_with fail
  go_ret
  exact ⟨rfl, rfl⟩
theorem Compare_any (x y : Int) (w : World) : Calls Try.prog 36 #[.int .i64 x, .int .i64 y] w fun e w' => e = .returned (.int .i64 (M.cp x y)) ∧ w' = w := by
  have HX := isNaN_any x
  have HY := isNaN_any y
  have HV : Hid (M.cp x y = if x < y then -1 else if y < x then 1 else 0) := rfl
  generalize M.cp x y = V at *
  rcases (show x < y ∨ (¬ x < y ∧ y < x) ∨ (¬ x < y ∧ ¬ y < x) by omega) with c | ⟨c, c2⟩ | ⟨c, c2⟩
  all_goals
    have hV := HV.out
    first | rw [if_pos c] at hV | (rw [if_neg c] at hV; first | rw [if_pos c2] at hV | rw [if_neg c2] at hV)
    subst hV
    clear HV
    go_enter Try.func36, Try.ntmps36
    go_wp2_with fail
    refine (HX _).mono ?_
    rintro e w1 ⟨rfl, rfl⟩
    go_wp2_with fail
    refine (HY _).mono ?_
    rintro e w1 ⟨rfl, rfl⟩
    go_wp2_with fail
    go_ret
    exact ⟨rfl, rfl⟩
theorem closure_any (e : Z.M.Ev) (t : Int) (w : World) : Calls Try.prog 35 #[Z.ea e, .int .i64 t] w fun x w' => x = .returned (.int .i64 (M.cp e.t t)) ∧ Below w.heap.size w w' := by
  have HC := Compare_any e.t t
  obtain ⟨et, ek, ec, ea', eb'⟩ := e
  dsimp only at *
  generalize M.cp et t = V at *
  go_enter Try.func35, Try.ntmps35
  go_wp2_with fail
  refine (HC _).mono ?_
  rintro x w1 ⟨rfl, rfl⟩
  go_wp2_with fail
  go_ret
  exact ⟨rfl, by go_grown⟩
set_option maxHeartbeats 4000000 in
theorem search_any (l : List Z.M.Ev) (t : Int) (ao : Option Addr) (c : Nat) (w : World) (hp : Z.LE w ao l) (hi : M.Inc 0 l) (hc : l.length ≤ c) (hcm : c ≤ 9223372036854775807) (hn : l.length ≤ 4096) :
    Calls Try.prog 34 #[.slice ao l.length c, .int .i64 t, .func (.func 35) #[] #[]] w fun e w' => e = .returned (.tuple #[.int .i64 (M.ft t l), .bool (M.fb t l)]) ∧ Below w.heap.size w w' := by
  have HF : Hid (∀ {j : Nat} {e : Z.M.Ev}, l[j]? = some e → (e.t < t ↔ j < M.ft t l)) := M.ft_iff hi
  have HL := M.ft_le t l
  have HB : Hid (M.fb t l = match l[M.ft t l]? with | some e => decide (M.cp e.t t = 0) | none => false) := rfl
  have HC := closure_any
  generalize M.ft t l = N at *
  generalize M.fb t l = FB at *
  clear hi
  go_enter Try.func34, Try.ntmps34
  go_wp2_with fail
  go_loopw [9, 10] (fun a b wr => ∃ (lo hi : Nat), a = .int .i64 lo ∧ b = .int .i64 hi ∧ lo ≤ N ∧ N ≤ hi ∧ hi ≤ l.length ∧ Below w.heap.size w wr) (fun a b _ => (intOf b - intOf a).toNat)
  case atStart => exact ⟨0, l.length, rfl, rfl, by omega, HL, Nat.le_refl _, Below.refl _ _⟩
  case round =>
    obtain ⟨lo, hi, rfl, rfl, h1, h2, h3, hbr⟩ := hrel
    have zr := hbr.size
    by_cases hlt : lo < hi
    · have hlt' : (lo : Int) < hi := by omega
      obtain ⟨b, off, rfl, hbl, q0⟩ := (hp.step hbr).at' (by omega)
      obtain ⟨m, hm⟩ : ∃ m, m = (lo + hi) / 2 := ⟨_, rfl⟩
      have hm1 : lo ≤ m := by omega
      have hm2 : m < hi := by omega
      obtain ⟨e, he⟩ : ∃ e, l[m]? = some e := ⟨_, List.getElem?_eq_getElem (by omega)⟩
      have q := q0 m e he
      rw [hm] at q
      have r0 := q.c0
      have r1 := q.c1
      have r2 := q.c2
      have r3 := q.c3
      have r4 := q.c4
      have hiff := HF.out he
      have HCe := HC e t
      have hcp : (M.cp e.t t < 0 ↔ e.t < t) := by
        unfold M.cp
        split
        · constructor
          · intro; assumption
          · intro; omega
        · split
          · constructor
            · intro; omega
            · intro; omega
          · constructor
            · intro; omega
            · intro; omega
      generalize M.cp e.t t = V at *
      clear q q0 he HB
      obtain ⟨et, ek, ec, ea', eb'⟩ := e
      simp only at *
      by_cases hv : V < 0
      · have hN : m < N := hiff.1 (hcp.1 hv)
        clear hiff hcp
        go_wp2_with fail
        refine (HCe _).mono ?_
        rintro e w1 ⟨rfl, hb1⟩
        have hb2 : Below w.heap.size w w1 := hbr.trans (hb1.mono zr)
        clear hb1 r0 r1 r2 r3 r4
        go_wp2_with fail
        go_roundw
        case rel => exact ⟨m + 1, hi, by rw [hm]; congr 1, rfl, by omega, h2, h3, hb2⟩
        case measure => simp [intOf]; omega
      · have hN : ¬ m < N := fun q => hv (hcp.2 (hiff.2 q))
        clear hiff hcp
        go_wp2_with fail
        refine (HCe _).mono ?_
        rintro e w1 ⟨rfl, hb1⟩
        have hb2 : Below w.heap.size w w1 := hbr.trans (hb1.mono zr)
        clear hb1 r0 r1 r2 r3 r4
        go_wp2_with fail
        go_roundw
        case rel => exact ⟨lo, m, rfl, by rw [hm]; congr 1, h1, by omega, by omega, hb2⟩
        case measure => simp [intOf]; omega
    · obtain rfl : lo = hi := by omega
      obtain rfl : lo = N := by omega
      by_cases hd : lo < l.length
      · have hd' : (lo : Int) < l.length := by omega
        have hlo' : ¬ (lo : Int) < lo := by omega
        obtain ⟨b, off, rfl, hbl, q0⟩ := (hp.step hbr).at' (by omega)
        obtain ⟨e, he⟩ : ∃ e, l[lo]? = some e := ⟨_, List.getElem?_eq_getElem hd⟩
        have q := q0 lo e he
        have r0 := q.c0
        have r1 := q.c1
        have r2 := q.c2
        have r3 := q.c3
        have r4 := q.c4
        have HCe := HC e t
        have hB := HB.out
        rw [he] at hB
        simp only at hB
        clear q q0 he HB HF
        obtain ⟨et, ek, ec, ea', eb'⟩ := e
        simp only at *
        generalize M.cp et t = V at *
        have HB : Hid (FB = decide (V = 0)) := hB
        clear hB
        go_wp2_with fail
        refine (HCe _).mono ?_
        rintro e w1 ⟨rfl, hb1⟩
        have hb2 : Below w.heap.size w w1 := hbr.trans (hb1.mono zr)
        clear hb1
        go_wp2_with fail
        go_returns
        exact ⟨by rw [HB.out, show decide (V = 0) = (V == 0) by by_cases hq : V = 0 <;> simp [hq]]; rfl, hb2⟩
      · have hd' : ¬ (lo : Int) < l.length := by omega
        have hlo' : ¬ (lo : Int) < lo := by omega
        have hB := HB.out
        rw [List.getElem?_eq_none (by omega)] at hB
        simp only at hB
        subst hB
        clear HB HF
        go_wp2_with fail
        go_returns
        exact ⟨rfl, hbr⟩
end Go.Proofs.Ytaohahahhjkcdah.X
