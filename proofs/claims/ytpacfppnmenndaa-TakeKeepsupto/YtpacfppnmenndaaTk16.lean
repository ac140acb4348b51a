/- A take: room, end, went, Tones. -/
import Derived.Test.YtpacfppnmenndaaTk12
namespace Go.Proofs.Ytpacfppnmenndaa.Tk
open Go.RowKit Go.Maps Go.Sort Go.Proofs.Ytpacfppnmenndaa.Rg
open Go.Proofs.Ytpacfppnmenndaa.Y (Tn lt okT wr fst cod bfr OkL TL tab tc rows)
set_option linter.unusedVariables false
set_option linter.unusedSimpArgs false

/-- A take's cells. -/
def tk (va : Option Addr) (vc db : Nat) (s : Ta) (i : Nat) : Value := if i = 0 then .slice va s.h.vs.length vc else if i = 1 then .int .i64 s.h.st else if i = 2 then (if s.br = true then .nilIface else .iface 50 (.pointer (some ⟨db, 0, none⟩))) else if i = 3 then .int .i64 s.d else .bool s.br
/-- A take at block tb. -/
structure TB (w : World) (S : Nat → Prop) (tb db : Nat) (s : Ta) : Prop where
  ex : ∃ va vc, w.rowIs tb 72 5 (tk va vc db s) ∧ HV w S va vc s.h
  ok : TOk s
theorem TB.lt {w : World} {S : Nat → Prop} {tb db : Nat} {s : Ta} (h : TB w S tb db s) : tb < w.heap.size := by
  obtain ⟨va, vc, ⟨c, hb, _⟩, _⟩ := h.ex
  exact (Array.getElem?_eq_some_iff.1 hb).1
theorem TB.keep {w w' : World} {S S' : Nat → Prop} {tb db : Nat} {s : Ta} (h : TB w S tb db s) (h1 : w'.heap[tb]? = w.heap[tb]?) (hk : ∀ b, S b → b < w.heap.size → w'.heap[b]? = w.heap[b]?) (hz : w.heap.size ≤ w'.heap.size) (hs : ∀ b, S b → b < w.heap.size → S' b) : TB w' S' tb db s := by
  obtain ⟨va, vc, hr, hv⟩ := h.ex
  exact ⟨⟨va, vc, World.rowIs.of_block hr h1, hv.keep hk hz hs⟩, h.ok⟩
theorem TB.bel {w w' : World} {S : Nat → Prop} {tb db : Nat} {s : Ta} (h : TB w S tb db s) (hb : Below w.heap.size w w') : TB w' S tb db s := h.keep (hb.block tb h.lt) (fun b _ hl => hb.block b hl) hb.size (fun _ h _ => h)
set_option maxHeartbeats 2000000 in
theorem end_any (tb d : Nat) (w : World) (h3 : w.cell? ⟨tb, 3, none⟩ = some (.int .i64 d)) (hd : d ≤ 1024) :
    Calls Try.prog 26 #[.pointer (some ⟨tb, 0, none⟩)] w fun e w' => e = .returned (.int .i64 (d * 8 : Nat)) ∧ w' = w := by
  have hl := lt_cell h3
  have e1 : IntKind.i64.wrap ((d : Int) * 8) = ((d * 8 : Nat) : Int) := by rw [wid (by omega) (by omega)]; push_cast; rfl
  go_enter Try.func26, Try.ntmps26
  go_wp2_with fail
  go_ret
  exact ⟨rfl, rfl⟩
set_option maxRecDepth 20000 in
set_option maxHeartbeats 4000000 in
theorem room_any (S : Nat → Prop) (tb db wb cap : Nat) (wo : Option Addr) (ws : List Int) (lf : Int) (s : Ta) (w : World) (hT : TB w S tb db s) (hD : DB w db wb wo cap ws lf) (hb : s.br = false) (hw : ws.length ≤ 1048576) :
    Calls Try.prog 24 #[.pointer (some ⟨tb, 0, none⟩)] w fun e w' => e = .returned (.bool (decide (s.d < 1024 ∧ s.d * 8 + 8 ≤ ws.length))) ∧ w' = w := by
  obtain ⟨va, vc, hr, hv⟩ := hT.ex
  have hl := hT.lt
  have c2 := World.rowIs.cell hr (i := 2) (by omega)
  have c3 := World.rowIs.cell hr (i := 3) (by omega)
  unfold tk at c2 c3
  rw [if_neg (by omega), if_neg (by omega), if_pos rfl, if_neg (by rw [hb]; decide)] at c2
  rw [if_neg (by omega), if_neg (by omega), if_neg (by omega), if_pos rfl] at c3
  have hd := hT.ok.d
  have hE := end_any tb s.d w c3 hd
  have hS := Size_any db wb cap wo ws lf w hD
  clear hr hv hT hD
  generalize s.d = d at *
  generalize ws.length = n at *
  by_cases h1 : d < 1024
  · have d1 : decide ((d : Int) < 1024) = true := by simp; omega
    have e8 : IntKind.i64.wrap (((d * 8 : Nat) : Int) + 8) = ((d * 8 + 8 : Nat) : Int) := by rw [wid (by omega) (by omega)]; push_cast; rfl
    have HB : Hid (decide ((d : Int) * 8 + 8 ≤ (n : Int)) = decide (d < 1024 ∧ d * 8 + 8 ≤ n)) := by
      show _ = _
      rw [decide_eq_decide]; omega
    go_enter Try.func24, Try.ntmps24
    go_wp2_with fail
    refine hS.mono ?_
    rintro e w1 ⟨rfl, hw1⟩
    rw [hw1]
    go_wp2_with fail
    refine hE.mono ?_
    rintro e w2 ⟨rfl, hw2⟩
    rw [hw2]
    clear hw1 hw2 hE hS
    go_wp2_with fail
    go_ret
    exact ⟨congrArg (fun b => Ending.returned (.bool b)) HB.out, rfl⟩
  · have d1 : decide ((d : Int) < 1024) = false := by simp; omega
    have HB : Hid (false = decide (d < 1024 ∧ d * 8 + 8 ≤ n)) := by
      show _ = _
      symm; rw [decide_eq_false_iff_not]; omega
    go_enter Try.func24, Try.ntmps24
    go_wp2_with fail
    go_ret
    exact ⟨congrArg (fun b => Ending.returned (.bool b)) HB.out, rfl⟩
/-- What went leaves. -/
structure WeQ (w : World) (S : Nat → Prop) (tb db : Nat) (s : Ta) (e : Ending) (w' : World) : Prop where
  e : e = .returned (.tuple #[])
  t : TB w' S tb db s
  k : KD tb tb w w'
set_option maxRecDepth 20000 in
set_option maxHeartbeats 4000000 in
theorem went_any (S : Nat → Prop) (tb db : Nat) (s : Ta) (h' : Hs) (va' : Option Addr) (vc' : Nat) (w : World) (hT : TB w S tb db s) (hb : s.br = false) (hV : HV w S va' vc' h') (hS : ∀ b, S b → b ≠ tb) (hk : HOk h') (hd : s.d < 1024) (hl : h'.vs.length ≤ s.d + 1) :
    Calls Try.prog 28 #[.pointer (some ⟨tb, 0, none⟩), .agg #[.slice va' h'.vs.length vc', .int .i64 h'.st]] w fun e w' => WeQ w S tb db ⟨h', s.d + 1, false⟩ e w' := by
  obtain ⟨va, vc, hr, hv⟩ := hT.ex
  have htl := hT.lt
  have c0 := World.rowIs.cell hr (i := 0) (by omega)
  have c1 := World.rowIs.cell hr (i := 1) (by omega)
  have c3 := World.rowIs.cell hr (i := 3) (by omega)
  have cf : ∀ i, w.frozen? ⟨tb, i, none⟩ = false := fun i => World.rowIs.frozen hr i
  have e0 : tk va vc db s 0 = .slice va s.h.vs.length vc := rfl
  have e1 : tk va vc db s 1 = .int .i64 s.h.st := rfl
  have e3 : tk va vc db s 3 = .int .i64 s.d := rfl
  rw [e0] at c0
  rw [e1] at c1
  rw [e3] at c3
  clear e0 e1 e3
  obtain ⟨W1, hW1⟩ : ∃ X, X = ((w.setCell ⟨tb, 0, none⟩ (.slice va' h'.vs.length vc')).setCell ⟨tb, 1, none⟩ (.int .i64 h'.st)).setCell ⟨tb, 3, none⟩ (.int .i64 ((s.d : Int) + 1)) := ⟨_, rfl⟩
  obtain ⟨WF, hWF⟩ : ∃ X, X = W1.alloc (.cells #[.slice va' h'.vs.length vc', .int .i64 h'.st] 70) := ⟨_, rfl⟩
  have HQ : Hid (WeQ w S tb db ⟨h', s.d + 1, false⟩ (.returned (.tuple #[])) WF) := by
    have zz : W1.heap.size = w.heap.size := by rw [hW1]; simp [World.setCell]
    have hb1 : Below W1.heap.size W1 WF := by rw [hWF]; exact (Below.refl _ _).alloc (Nat.le_refl _) _
    have k1 : ∀ j, j ≠ tb → W1.heap[j]? = w.heap[j]? := fun j hj => by rw [hW1]; exact (Below.heap_setCell _ _ _ _ hj).trans ((Below.heap_setCell _ _ _ _ hj).trans (Below.heap_setCell _ _ _ _ hj))
    have kk : ∀ j, j < w.heap.size → j ≠ tb → WF.heap[j]? = w.heap[j]? := fun j h1 h2 => (hb1.block j (by omega)).trans (k1 j h2)
    have z1 := hb1.size
    have hr1 : W1.rowIs tb 72 5 (tk va' vc' db ⟨h', s.d + 1, false⟩) := by
      rw [hW1]
      refine World.rowIs.congr (World.rowIs.set (World.rowIs.set (World.rowIs.set hr 0 _) 1 _) 3 _) (fun i hi => ?_)
      match i, hi with
      | 0, _ => rfl
      | 1, _ => rfl
      | 2, _ => show (if s.br = true then Value.nilIface else .iface 50 (.pointer (some ⟨db, 0, none⟩))) = (if false = true then Value.nilIface else .iface 50 (.pointer (some ⟨db, 0, none⟩))); rw [hb]
      | 3, _ => show Value.int .i64 ((s.d : Int) + 1) = .int .i64 ((s.d + 1 : Nat) : Int); push_cast; rfl
      | 4, _ => show Value.bool s.br = .bool false; rw [hb]
    refine ⟨rfl, ⟨⟨va', vc', World.rowIs.of_block hr1 (hb1.block tb (by omega)), hV.keep (fun b hb2 hl => kk b hl (hS b hb2)) (by omega) (fun _ h _ => h)⟩, ⟨hk, hd, hl, fun h => by cases h⟩⟩, ⟨?_, ?_, ?_, by omega, fun j hj h1 _ => kk j hj h1⟩⟩
    · rw [hWF, hW1]; rfl
    · rw [hWF, hW1]; rfl
    · rw [hWF, hW1]; rfl
  have wd1 : IntKind.i64.wrap ((s.d : Int) + 1) = (s.d : Int) + 1 := wid (by omega) (by omega)
  clear hT hv hr hV hS hk hl hb
  generalize h'.vs.length = n at *
  generalize h'.st = st at *
  generalize s.h.vs.length = n0 at *
  generalize s.h.st = st0 at *
  generalize s.d = d at *
  have lne : tb ≠ w.heap.size := by omega
  go_enter Try.func28, Try.ntmps28
  go_wp2_with fail
  rw [← hW1, ← hWF]
  go_end0
  exact HQ.out
end Go.Proofs.Ytpacfppnmenndaa.Tk
