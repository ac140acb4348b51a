/- What was answered OK is kept, step by step (TakeKeeps). -/
import Derived.Test.YtpacfppnmenndaaTkKeep
namespace Go.Proofs.Ytpacfppnmenndaa.Tk
set_option linter.unusedVariables false
set_option linter.unusedSimpArgs false

theorem wt_le (t : Go.Proofs.Ytpacfppnmenndaa.Y.Tn) : 0 ≤ wt t ∧ wt t ≤ 6 := by
  unfold wt
  repeat' split
  all_goals omega
theorem er_le (h : Hs) (e : Ed) : 0 ≤ er h e ∧ er h e ≤ 6 := by
  have h1 := wt_le e.t
  unfold er
  repeat' split
  all_goals omega
/-- A disk, and a take that is not broken stands where it does. -/
structure KS (s : Ta) (k : Dk) (h : Hs) (d : Nat) : Prop where
  w : KI k.ws h d
  g : s.br = false → s.h = h ∧ s.d = d
theorem KS.new (n : Nat) (lf : Int) : KS (new (List.replicate n 0)) ⟨List.replicate n 0, lf⟩ ⟨[], 0⟩ 0 := by
  have hk := KI.none n
  refine ⟨hk, fun _ => ?_⟩
  show (opn (List.replicate n 0)).1 = _ ∧ (opn (List.replicate n 0)).2 = _
  rw [hk.o]; exact ⟨rfl, rfl⟩
/-- Broken, or opened anew. -/
def bk (b : Bool) (x : Sp) : Bool := if x.op = true then false else b
theorem KS.op {s : Ta} {k : Dk} {h : Hs} {d : Nat} (hs : KS s k h d) (x : Sp) : KS (op1 s k.ws x) k h d ∧ (op1 s k.ws x).br = bk s.br x := by
  unfold op1 bk
  by_cases ho : x.op = true
  · rw [if_pos ho, if_pos ho]
    refine ⟨⟨hs.w, fun _ => ?_⟩, rfl⟩
    show (opn k.ws).1 = h ∧ (opn k.ws).2 = d
    rw [hs.w.o]; exact ⟨rfl, rfl⟩
  · rw [if_neg ho, if_neg ho]
    exact ⟨hs, rfl⟩
theorem KS.dk {s : Ta} {k : Dk} {h : Hs} {d : Nat} (hs : KS s k h d) {x : Sp} (hp : x.pk = 0) : KS s (dk2 (dk1 k x) x) h d := by
  have h2 : dk2 (dk1 k x) x = dk1 k x := by unfold dk2; rw [if_neg (by omega)]
  rw [h2]
  unfold dk1
  split
  · exact ⟨hs.w, hs.g⟩
  · exact hs
/-- What an edit leaves. -/
structure KE (s : Ta) (r : Int × Ta × Dk) (h h' : Hs) (d' : Nat) : Prop where
  k : KS r.2.1 r.2.2 h' d'
  b : r.2.1.br = (if s.br = false ∧ r.1 = 11 then true else s.br)
  o : r.1 = 0 → s.br = false
  l : h'.line = if r.1 = 0 then (out1 r.1 r.2.1).l else h.line
theorem KS.ed {s : Ta} {k : Dk} {h : Hs} {d : Nat} (hs : KS s k h d) (e : Ed) : ∃ h' d', KE s (doe s k e) h h' d' := by
  cases hb : s.br
  · obtain ⟨g1, g2⟩ := hs.g hb
    by_cases he : er s.h e = 0
    · by_cases hr : s.d < 1024 ∧ s.d * 8 + 8 ≤ k.ws.length
      · cases hB : (pts (pl (s.d * 8) (rc e)) k.ws k.lf).2
        · have h1 : doe s k e = (11, ⟨⟨[], 0⟩, 0, true⟩, ⟨(pts (pl (s.d * 8) (rc e)) k.ws k.lf).1.1, (pts (pl (s.d * 8) (rc e)) k.ws k.lf).1.2⟩) := by
            unfold doe
            rw [if_neg (by rw [hb]; decide), if_neg (fun hn => hn he), if_neg (fun hn => hn hr), if_neg (by rw [hB]; decide)]
          rw [h1]
          refine ⟨h, d, ⟨⟨?_, fun hf => by cases hf⟩, by rw [if_pos ⟨hb, rfl⟩], fun h0 => absurd h0 (by simp), by rw [if_neg (by simp)]⟩⟩
          rw [g2]
          exact hs.w.half _ _ (by rw [← g2]; exact hB)
        · have h1 : doe s k e = (0, ⟨nx s.h e, s.d + 1, false⟩, ⟨(pts (pl (s.d * 8) (rc e)) k.ws k.lf).1.1, (pts (pl (s.d * 8) (rc e)) k.ws k.lf).1.2⟩) := by
            unfold doe
            rw [if_neg (by rw [hb]; decide), if_neg (fun hn => hn he), if_neg (fun hn => hn hr), if_pos hB]
          rw [h1]
          refine ⟨nx h e, d + 1, ⟨⟨?_, fun _ => ?_⟩, ?_, fun _ => hb, ?_⟩⟩
          · rw [g2]
            exact hs.w.whole e _ (by omega) (by omega) (by rw [← g1]; exact he) (by rw [← g2]; exact hB)
          · exact ⟨by rw [g1], by rw [g2]⟩
          · rw [if_neg (by simp)]; exact hb.symm
          · rw [if_pos rfl]
            show _ = (if false = true then [] else (nx s.h e).line)
            rw [if_neg (by decide), g1]
      · have h1 : doe s k e = (4, s, k) := by
          unfold doe
          rw [if_neg (by rw [hb]; decide), if_neg (fun hn => hn he), if_pos hr]
        rw [h1]
        exact ⟨h, d, ⟨hs, by rw [if_neg (by simp)], fun h0 => absurd h0 (by simp), by rw [if_neg (by simp)]⟩⟩
    · have h1 : doe s k e = (er s.h e, s, k) := by
        unfold doe
        rw [if_neg (by rw [hb]; decide), if_pos he]
      have hl := er_le s.h e
      rw [h1]
      exact ⟨h, d, ⟨hs, by rw [if_neg (fun hn => by have : er s.h e = 11 := hn.2; omega)], fun h0 => absurd h0 he, by rw [if_neg he]⟩⟩
  · have h1 : doe s k e = (9, s, k) := by unfold doe; rw [if_pos hb]
    rw [h1]
    exact ⟨h, d, ⟨hs, by rw [if_neg (by simp)], fun h0 => absurd h0 (by simp), by rw [if_neg (by simp)]⟩⟩
/-- What a step leaves. -/
structure KT (s : Ta) (x : Sp) (r : Int × Ta × Dk) (h h' : Hs) (d' : Nat) : Prop where
  k : KS r.2.1 r.2.2 h' d'
  b : r.2.1.br = (if x.e.k ≠ 0 ∧ bk s.br x = false ∧ r.1 = 11 then true else bk s.br x)
  o : x.e.k ≠ 0 → r.1 = 0 → bk s.br x = false
  l : h'.line = if x.e.k ≠ 0 ∧ r.1 = 0 then (out1 r.1 r.2.1).l else h.line
theorem KS.step {s : Ta} {k : Dk} {h : Hs} {d : Nat} (hs : KS s k h d) {x : Sp} (hp : x.pk = 0) : ∃ h' d', KT s x (stp (s, k) x) h h' d' := by
  have h1 := hs.dk hp
  obtain ⟨h2, hb⟩ := h1.op x
  show ∃ h' d', KT s x (ed1 (op1 s (dk2 (dk1 k x) x).ws x) (dk2 (dk1 k x) x) x) h h' d'
  generalize op1 s (dk2 (dk1 k x) x).ws x = s1 at *
  generalize dk2 (dk1 k x) x = k1 at *
  unfold ed1
  by_cases hk : x.e.k ≠ 0
  · rw [if_pos hk]
    obtain ⟨h', d', e⟩ := h2.ed x.e
    have eb := e.b
    have eo := e.o
    have el := e.l
    rw [hb] at eb eo
    refine ⟨h', d', ⟨e.k, ?_, fun _ => eo, ?_⟩⟩
    · rw [eb]
      by_cases c : bk s.br x = false ∧ (doe s1 k1 x.e).1 = 11
      · rw [if_pos c, if_pos ⟨hk, c⟩]
      · rw [if_neg c, if_neg (fun c2 => c c2.2)]
    · rw [el]
      by_cases c : (doe s1 k1 x.e).1 = 0
      · rw [if_pos c, if_pos ⟨hk, c⟩]
      · rw [if_neg c, if_neg (fun c2 => c c2.2)]
  · rw [if_neg hk]
    exact ⟨h, d, ⟨h2, by rw [if_neg (fun c => hk c.1)]; exact hb, fun c => absurd c hk, by rw [if_neg (fun c => hk c.1)]⟩⟩
/-- A take that is not broken tells its line. -/
theorem KS.tells {s : Ta} {k : Dk} {h : Hs} {d : Nat} (hs : KS s k h d) (z : Int) : (out1 z s).te = (if s.br = true then 9 else 0) ∧ (s.br = false → (out1 z s).l = h.line) := by
  refine ⟨rfl, fun hb => ?_⟩
  show (if s.br = true then [] else s.h.line) = _
  rw [if_neg (by rw [hb]; decide), (hs.g hb).1]
/-- The k-th of what came of the steps. -/
theorem ros_get (s : Ta × Dk) (l : List Sp) (i : Nat) (x : Sp) (hx : l[i]? = some x) : (ros s l)[i]? = some (out1 (stp (rst s (l.take i)) x).1 (stp (rst s (l.take i)) x).2.1) := by
  induction l generalizing s i with
  | nil => simp at hx
  | cons y l ih =>
    cases i with
    | zero =>
      simp at hx
      subst hx
      rfl
    | succ i =>
      have hx' : l[i]? = some x := by simpa using hx
      show (ros (stp s y).2 l)[i]? = _
      rw [ih (stp s y).2 i hx']
      rfl
end Go.Proofs.Ytpacfppnmenndaa.Tk
