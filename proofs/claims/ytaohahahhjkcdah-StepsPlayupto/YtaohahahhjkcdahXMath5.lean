/- What the document's Walk keeps of what is played: at most 4,097 events, as plain facts. -/
import Derived.Test.YtaohahahhjkcdahXMath3
namespace Go.Proofs.Ytaohahahhjkcdah.X.M
open Go.Proofs.Ytaohahahhjkcdah.Z.M
set_option linter.unusedVariables false
set_option linter.unusedSimpArgs false

def gc (f t : Int) (out L : List Ev) : List Ev := (out ++ win f t L).take 4097
theorem gc_nil {f t : Int} {out : List Ev} (h : out.length ≤ 4097) : gc f t out [] = out := by
  unfold gc; rw [win_nil, List.append_nil]; exact List.take_of_length_le h
theorem gc_len (f t : Int) (out L : List Ev) : (gc f t out L).length ≤ 4097 := by unfold gc; rw [List.length_take]; omega
theorem take_app {α : Type} (x y : List α) (n : Nat) : (x.take n ++ y).take n = (x ++ y).take n := by
  by_cases h : x.length ≤ n
  · rw [List.take_of_length_le h]
  · rw [List.take_append_of_le_length (by rw [List.length_take]; omega), List.take_take, Nat.min_self, List.take_append_of_le_length (by omega)]
theorem gc_rec (f t : Int) (out L K : List Ev) : gc f t (gc f t out L) K = gc f t out (L ++ K) := by
  unfold gc; rw [win_append, take_app, List.append_assoc]
theorem gc_full {f t : Int} {out L : List Ev} (K : List Ev) (h : 4096 < (gc f t out L).length) : gc f t out (L ++ K) = gc f t out L := by
  have h1 : 4097 ≤ (out ++ win f t L).length := by unfold gc at h; rw [List.length_take] at h; omega
  unfold gc
  rw [win_append, ← List.append_assoc, List.take_append_of_le_length h1]
theorem gc_late {f t : Int} {out L K : List Ev} (h : ∀ e ∈ K, t ≤ e.t) : gc f t out (L ++ K) = gc f t out L := by
  unfold gc; rw [win_append, win_late h, List.append_nil]
theorem gc_in {f t : Int} {out L : List Ev} {e : Ev} (h : (gc f t out L).length ≤ 4096) (h1 : f ≤ e.t) (h2 : e.t < t) : gc f t out (L ++ [e]) = gc f t out L ++ [e] := by
  have h3 : (out ++ win f t L).length ≤ 4096 := by unfold gc at h; rw [List.length_take] at h; omega
  unfold gc
  rw [win_append, win_one_in h1 h2, ← List.append_assoc, List.take_of_length_le (by rw [List.length_append]; simp; simp at h3; omega), List.take_of_length_le (by omega)]
theorem gc_out {f t : Int} {out L : List Ev} {e : Ev} (h : ¬ (f ≤ e.t ∧ e.t < t)) : gc f t out (L ++ [e]) = gc f t out L := by
  unfold gc
  have : win f t [e] = [] := by unfold win; rw [List.filter_cons, if_neg (by simp; omega)]; rfl
  rw [win_append, this, List.append_nil]
theorem pl_split (s : Sc) (hok : Ok s) (n : Nat) (hn : (n : Int) ≤ s.t) (a : Int) : ∃ K, pl s a = tm (one s) (onc s) n a ++ K ∧ ∀ e ∈ K, a + n * onc s ≤ e.t := by
  rw [pl_eq]
  have ht := hok.fine.t0
  obtain ⟨m, hm⟩ : ∃ m, s.t.toNat = n + m := ⟨s.t.toNat - n, by omega⟩
  rw [hm, tm_split]
  refine ⟨_, rfl, fun e he => ?_⟩
  have := tm_rng (onc_bd hok).1 (fun a => (pl_rng s hok a).1) m (a + n * onc s)
  exact inc_ge this.1 e he
end Go.Proofs.Ytaohahahhjkcdah.X.M
