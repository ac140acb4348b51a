/- What Sum comes to. -/
import Derived.Test.YtdlcnbfiklbiiaaMxRow2
import Derived.Deep.RegionHeld3
namespace Go.Proofs.Ytdlcnbfiklbiiaa.Mx
open Go.RowKit Go.Maps Go.Sort
set_option linter.unusedVariables false
set_option linter.unusedSimpArgs false

def se (P : List (List Int)) (G : List Int) : Int := if 256 < P.length then 5 else if G.length = P.length then (if (P.zip G).all tok = true then 0 else 3) else 8
def so (P : List (List Int)) (G : List Int) : List Int := if se P G = 0 then sums (P.zip G) else []
/-- What Sum leaves. -/
structure SmQ (w : World) (P : List (List Int)) (G : List Int) (e : Ending) (w' : World) : Prop where
  ex : ∃ ao c, e = .returned (.tuple #[.slice ao (so P G).length c, .int .i64 (se P G)]) ∧ (so P G).length ≤ c ∧ c ≤ 9223372036854775807 ∧ (ao = none → c = 0) ∧ IL w' (fun k => w.heap.size ≤ k) ao (so P G)
  b : Below w.heap.size w w'
theorem SmQ.bad {w w' : World} {P : List (List Int)} {G : List Int} {n : Int} (h : se P G = n) (h0 : n ≠ 0) (hb : Below w.heap.size w w') : SmQ w P G (.returned (.tuple #[.slice none 0 0, .int .i64 n])) w' := by
  have e : so P G = [] := by unfold so; rw [if_neg (by rw [h]; exact h0)]
  exact ⟨⟨none, 0, by rw [e, h]; rfl, by rw [e]; exact Nat.le_refl _, by omega, fun _ => rfl, by rw [e]; exact IL.nil _ _ _⟩, hb⟩
theorem lng_le {ts : List Tr} {N : Nat} (h : ∀ t ∈ ts, t.1.length ≤ N) : lng ts ≤ N := by
  induction ts with
  | nil => exact Nat.zero_le _
  | cons t ts ih =>
    have h1 := h t (by simp)
    have h2 := ih (fun t ht => h t (by simp [ht]))
    show max t.1.length (lng ts) ≤ N
    omega
theorem lng_mem {ts : List Tr} {t : Tr} (h : t ∈ ts) : t.1.length ≤ lng ts := by
  induction ts with
  | nil => exact absurd h (by simp)
  | cons a ts ih =>
    show t.1.length ≤ max a.1.length (lng ts)
    rcases List.mem_cons.1 h with rfl | q
    · omega
    · have := ih q; omega
theorem lng_step {ts : List Tr} {k : Nat} {t : Tr} (h : ts[k]? = some t) : lng (ts.take (k + 1)) = max (lng (ts.take k)) t.1.length := by
  rw [take_one h, lng_app]; show max _ (max t.1.length 0) = _; omega
theorem tot_step {ts : List Tr} {k : Nat} {t : Tr} (h : ts[k]? = some t) (j : Nat) : tot (ts.take (k + 1)) j = tot (ts.take k) j + t.2 * at0 t.1 j := by
  rw [take_one h, tot_app]; show _ + (t.2 * at0 t.1 j + 0) = _; omega
theorem all_step {ts : List Tr} {k : Nat} {t : Tr} (h : ts[k]? = some t) (h1 : (ts.take k).all tok = true) (h2 : tok t = true) : (ts.take (k + 1)).all tok = true := by
  rw [take_one h, List.all_append, h1]; simp [h2]
theorem all_no {ts : List Tr} {k : Nat} {t : Tr} (h : ts[k]? = some t) (h2 : tok t = false) : ts.all tok = false := by
  cases hc : ts.all tok with
  | false => rfl
  | true => rw [List.all_eq_true.1 hc t (List.mem_of_getElem? h)] at h2; cases h2
theorem zip_get {P : List (List Int)} {G : List Int} {k : Nat} {p : List Int} {g : Int} (h1 : P[k]? = some p) (h2 : G[k]? = some g) : (P.zip G)[k]? = some (p, g) := by
  rw [List.getElem?_zip_eq_some]; exact ⟨h1, h2⟩
theorem inR_one (m x : Int) : inR m [x] = inB m x := by simp [inR]
/-- What stands in the sums while track k is added, up to place q. -/
def part (ts : List Tr) (k q : Nat) (t : Tr) (j : Nat) : Int := tot (ts.take k) j + (if j < q then t.2 * at0 t.1 j else 0)
theorem part_zero (ts : List Tr) (k : Nat) (t : Tr) (j : Nat) : part ts k 0 t j = tot (ts.take k) j := by unfold part; simp
theorem part_end {ts : List Tr} {k : Nat} {t : Tr} (h : ts[k]? = some t) (j : Nat) : part ts k t.1.length t j = tot (ts.take (k + 1)) j := by
  rw [tot_step h]; unfold part
  by_cases c : j < t.1.length
  · rw [if_pos c]
  · rw [if_neg c]
    have : at0 t.1 j = 0 := by unfold at0; rw [List.getD_eq_getElem?_getD, List.getElem?_eq_none (by omega)]; rfl
    rw [this]; simp
theorem part_at (ts : List Tr) (k q : Nat) (t : Tr) : part ts k q t q = tot (ts.take k) q := by unfold part; simp
theorem part_step (ts : List Tr) (k q : Nat) (t : Tr) (j : Nat) : part ts k (q + 1) t j = if j = q then tot (ts.take k) q + t.2 * at0 t.1 q else part ts k q t j := by
  unfold part
  by_cases c : j = q
  · subst c; rw [if_pos rfl, if_pos (by omega)]
  · rw [if_neg c]
    by_cases d : j < q
    · rw [if_pos d, if_pos (by omega)]
    · rw [if_neg d, if_neg (by omega)]
set_option maxHeartbeats 2000000 in
theorem Sum_many (P : List (List Int)) (G : List Int) (ao bo : Option Addr) (n m cp cg : Nat) (w : World) (hn : P.length = n) (h : 256 < n) :
    Calls Try.prog 9 #[.slice ao n cp, .slice bo m cg] w fun e w' => SmQ w P G e w' := by
  have HQ : Hid (SmQ w P G (.returned (.tuple #[.slice none 0 0, .int .i64 5])) w) := SmQ.bad (by unfold se; rw [if_pos (by omega)]) (by decide) (Below.refl _ _)
  have h' : (256 : Int) < (n : Int) := by omega
  clear hn h
  go_enter Try.func9, Try.ntmps9
  go_wp2_with fail
  go_returns
  exact HQ.out
set_option maxHeartbeats 2000000 in
theorem Sum_fit (P : List (List Int)) (G : List Int) (ao bo : Option Addr) (n m cp cg : Nat) (w : World) (hn : P.length = n) (hm : G.length = m) (h : ¬ 256 < n) (hd : m ≠ n) :
    Calls Try.prog 9 #[.slice ao n cp, .slice bo m cg] w fun e w' => SmQ w P G e w' := by
  have HQ : Hid (SmQ w P G (.returned (.tuple #[.slice none 0 0, .int .i64 8])) w) := SmQ.bad (by unfold se; rw [if_neg (by omega), if_neg (by omega)]) (by decide) (Below.refl _ _)
  have h' : ¬ (256 : Int) < (n : Int) := by omega
  have hd' : ((m : Int) != (n : Int)) = true := by simp; omega
  clear hn h hd
  go_enter Try.func9, Try.ntmps9
  go_wp2_with fail
  go_returns
  exact HQ.out
end Go.Proofs.Ytdlcnbfiklbiiaa.Mx
