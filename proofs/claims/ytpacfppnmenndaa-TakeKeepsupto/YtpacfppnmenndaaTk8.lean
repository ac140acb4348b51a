/- undo, redo; what an edit answers. -/
import Derived.Test.YtpacfppnmenndaaTk7
namespace Go.Proofs.Ytpacfppnmenndaa.Tk
open Go.RowKit Go.Maps Go.Sort Go.Proofs.Ytpacfppnmenndaa.Rg
open Go.Proofs.Ytpacfppnmenndaa.Y (Tn lt okT wr fst cod bfr OkL TL tab tc rows)
set_option linter.unusedVariables false
set_option linter.unusedSimpArgs false

/-- What an edit of a history answers. -/
structure AfQ (w : World) (S : Nat → Prop) (z : Int) (h' : Hs) (e : Ending) (w' : World) : Prop where
  b : Below w.heap.size w w'
  bad : z ≠ 0 → e = .returned (.tuple #[.agg #[.slice none 0 0, .int .i64 0], .int .i64 z])
  ok : z = 0 → ∃ va vc, e = .returned (.tuple #[.agg #[.slice va h'.vs.length vc, .int .i64 h'.st], .int .i64 0]) ∧ HV w' S va vc h'
set_option maxRecDepth 20000 in
set_option maxHeartbeats 4000000 in
theorem undo_any (S : Nat → Prop) (va : Option Addr) (vc : Nat) (h : Hs) (w : World) (hV : HV w S va vc h) (hk : HOk h) (hs : h.st ≤ 1024) :
    Calls Try.prog 37 #[.agg #[.slice va h.vs.length vc, .int .i64 h.st]] w fun e w' => AfQ w S (if h.st = 0 then 6 else 0) ⟨h.vs, h.st - 1⟩ e w' := by
  have hst := hk.st
  by_cases h0 : h.st = 0
  · have HQ : Hid (∀ w', Below w.heap.size w w' → AfQ w S (if h.st = 0 then 6 else 0) ⟨h.vs, h.st - 1⟩ (.returned (.tuple #[.agg #[.slice none 0 0, .int .i64 0], .int .i64 6])) w') := fun w' hb => by
      rw [if_pos h0]
      exact ⟨hb, fun _ => rfl, fun e => absurd e (by decide)⟩
    generalize (if h.st = 0 then (6 : Int) else 0) = Z at *
    generalize (⟨h.vs, h.st - 1⟩ : Hs) = H' at *
    have e0 : (h.st : Int) = 0 := by omega
    rw [e0]
    clear hV hk hst
    generalize h.vs.length = n at *
    go_enter Try.func37, Try.ntmps37
    go_wp2_with fail
    go_returns
    refine HQ.out _ ?_
    go_grown
  · obtain ⟨st, hst2⟩ : ∃ st, h.st = st + 1 := ⟨h.st - 1, by omega⟩
    have HQ : Hid (∀ w', Below w.heap.size w w' → AfQ w S (if h.st = 0 then 6 else 0) ⟨h.vs, h.st - 1⟩ (.returned (.tuple #[.agg #[.slice va h.vs.length vc, .int .i64 st], .int .i64 0])) w') := fun w' hb => by
      rw [if_neg h0]
      refine ⟨hb, fun e => absurd rfl e, fun _ => ⟨va, vc, ?_, ⟨hV.v.bel hb, hV.c1, hV.c2, hV.c3⟩⟩⟩
      show _ = Ending.returned (.tuple #[.agg #[.slice va h.vs.length vc, .int .i64 ((h.st - 1 : Nat) : Int)], .int .i64 0])
      rw [hst2]; rfl
    generalize (if h.st = 0 then (6 : Int) else 0) = Z at *
    generalize (⟨h.vs, h.st - 1⟩ : Hs) = H' at *
    have e1 : IntKind.i64.wrap (((st + 1 : Nat) : Int) - 1) = (st : Int) := by rw [wid (by omega) (by omega)]; omega
    have e2 : ((((st + 1 : Nat) : Int)) == 0) = false := by simp; omega
    have he : (h.st : Int) = ((st + 1 : Nat) : Int) := by omega
    rw [he]
    clear hV hk hst
    generalize h.vs.length = n at *
    go_enter Try.func37, Try.ntmps37
    go_wp2_with fail
    go_returns
    refine HQ.out _ ?_
    go_grown
set_option maxRecDepth 20000 in
set_option maxHeartbeats 4000000 in
theorem redo_any (S : Nat → Prop) (va : Option Addr) (vc : Nat) (h : Hs) (w : World) (hV : HV w S va vc h) (hk : HOk h) (hs : h.st ≤ 1024) :
    Calls Try.prog 38 #[.agg #[.slice va h.vs.length vc, .int .i64 h.st]] w fun e w' => AfQ w S (if h.st = h.vs.length then 6 else 0) ⟨h.vs, h.st + 1⟩ e w' := by
  have hst := hk.st
  by_cases h0 : h.st = h.vs.length
  · have HQ : Hid (∀ w', Below w.heap.size w w' → AfQ w S (if h.st = h.vs.length then 6 else 0) ⟨h.vs, h.st + 1⟩ (.returned (.tuple #[.agg #[.slice none 0 0, .int .i64 0], .int .i64 6])) w') := fun w' hb => by
      rw [if_pos h0]
      exact ⟨hb, fun _ => rfl, fun e => absurd e (by decide)⟩
    generalize (if h.st = h.vs.length then (6 : Int) else 0) = Z at *
    generalize (⟨h.vs, h.st + 1⟩ : Hs) = H' at *
    rw [← h0]
    clear hV hk hst
    generalize h.st = n at *
    go_enter Try.func38, Try.ntmps38
    go_wp2_with fail
    go_returns
    refine HQ.out _ ?_
    go_grown
  · have HQ : Hid (∀ w', Below w.heap.size w w' → AfQ w S (if h.st = h.vs.length then 6 else 0) ⟨h.vs, h.st + 1⟩ (.returned (.tuple #[.agg #[.slice va h.vs.length vc, .int .i64 ((h.st : Int) + 1)], .int .i64 0])) w') := fun w' hb => by
      rw [if_neg h0]
      refine ⟨hb, fun e => absurd rfl e, fun _ => ⟨va, vc, ?_, ⟨hV.v.bel hb, hV.c1, hV.c2, hV.c3⟩⟩⟩
      show _ = Ending.returned (.tuple #[.agg #[.slice va h.vs.length vc, .int .i64 ((h.st + 1 : Nat) : Int)], .int .i64 0])
      push_cast; rfl
    generalize (if h.st = h.vs.length then (6 : Int) else 0) = Z at *
    generalize (⟨h.vs, h.st + 1⟩ : Hs) = H' at *
    have e1 : IntKind.i64.wrap ((h.st : Int) + 1) = (h.st : Int) + 1 := wid (by omega) (by omega)
    have e2 : ((h.st : Int) == (h.vs.length : Int)) = false := by simp; omega
    clear hV hk hst
    generalize h.vs.length = n at *
    generalize h.st = st at *
    go_enter Try.func38, Try.ntmps38
    go_wp2_with fail
    go_returns
    refine HQ.out _ ?_
    go_grown
end Go.Proofs.Ytpacfppnmenndaa.Tk
