/- Between the steps. -/
import Derived.Test.YtpacfppnmenndaaTk21
namespace Go.Proofs.Ytpacfppnmenndaa.Tk
open Go.RowKit Go.Maps Go.Sort Go.Proofs.Ytpacfppnmenndaa.Rg
open Go.Proofs.Ytpacfppnmenndaa.Y (Tn lt okT wr fst cod bfr OkL TL tab tc rows)
set_option linter.unusedVariables false
set_option linter.unusedSimpArgs false

/-- What is kept between the steps. -/
structure RB (w0 ww : World) (base tb db wb : Nat) (wo : Option Addr) (cap : Nat) (v : Value) (s : Ta) (k : Dk) (R : List Tk) : Prop where
  t : TB ww (Sx tb db wb v db) tb db s
  d : DB ww db wb wo cap k.ws k.lf
  o : OR ww (Sx tb db wb v db) base v R
  b : Below w0.heap.size w0 ww
  n1 : w0.heap.size ≤ tb ∧ w0.heap.size ≤ db ∧ w0.heap.size ≤ wb ∧ w0.heap.size ≤ base ∧ base ≤ ww.heap.size
  n2 : tb ≠ db ∧ tb ≠ wb ∧ wb < ww.heap.size ∧ wb ≠ db
  n4 : ∀ j, v.ownBlock = some j → j ≠ tb ∧ j ≠ db ∧ j ≠ wb
  lf : -9223372036854775808 ≤ k.lf ∧ k.lf ≤ 9223372036854775807
  wl : k.ws.length ≤ 1048576
theorem RB.enter {w0 ww W : World} {base tb db wb cap : Nat} {wo : Option Addr} {v : Value} {s : Ta} {k : Dk} {R : List Tk} (h : RB w0 ww base tb db wb wo cap v s k R) (hb : Below ww.heap.size ww W) (sb xb : Nat) (hs : ww.heap.size ≤ sb) (hx : ww.heap.size ≤ xb) (hne : sb ≠ xb) {x : Sp} (hi : SI W sb x) {f : Nat → Value} (hy : W.rowIs xb 32 3 f) :
    RX w0 W base tb db wb wo cap v sb xb x f s k R := by
  have n1 := h.n1
  have n2 := h.n2
  have hbs := h.b.size
  have htl := h.t.lt
  have hdl := h.d.ld
  exact
    { t := h.t.keep (hb.block tb htl) (fun b _ hl => hb.block b hl) hb.size (fun b hb2 hl => ⟨hb2.1, hb2.2.1, hb2.2.2.1, hb2.2.2.2.1, by omega⟩)
      d := h.d.bel hb
      o := h.o.keep (fun q hq => hb.block q (h.o.lt q hq).2) (fun b _ hl => hb.block b hl) hb.size (fun b hb2 hl => ⟨hb2.1, hb2.2.1, hb2.2.2.1, hb2.2.2.2.1, by omega⟩)
      b := h.b.trans (hb.mono hbs)
      i := hi
      y := hy
      n1 := ⟨n1.1, n1.2.1, n1.2.2.1, by omega, by omega, n1.2.2.2.1⟩
      n2 := ⟨n2.1, n2.2.1, Nat.lt_of_lt_of_le n2.2.2.1 hb.size, n2.2.2.2⟩
      n3 := ⟨by omega, by omega, by omega, hne, by omega, by omega, by omega⟩
      n4 := fun j hj => ⟨(h.n4 j hj).1, (h.n4 j hj).2.1, (h.n4 j hj).2.2, by have := (h.o.lt j hj).2; omega, by have := (h.o.lt j hj).2; omega⟩
      lf := h.lf
      wl := h.wl }
theorem RX.leave {w0 ww w' : World} {base tb db wb cap sb xb : Nat} {wo : Option Addr} {v v' : Value} {x : Sp} {f : Nat → Value} {s : Ta} {k : Dk} {R R' : List Tk} (h : RX w0 ww base tb db wb wo cap v sb xb x f s k R) (hg : Gw ww w' v v') (hbz : base ≤ ww.heap.size) (ho : OR w' (fun b => Sx tb db wb v xb b ∧ b < ww.heap.size) base v' R') :
    RB w0 w' base tb db wb wo cap v' s k R' := by
  have hz := hg.gr.size
  have htl := h.t.lt
  have hdl := h.d.ld
  have n1 := h.n1
  have n2 := h.n2
  have hbs := h.b.size
  have kk : ∀ j, j < ww.heap.size → some j ≠ v.ownBlock → w'.heap[j]? = ww.heap[j]? := fun j h1 h2 => hg.gr.block j h1 h2
  have nv : ∀ j, (j = tb ∨ j = db ∨ j = wb) → some j ≠ v.ownBlock := fun j hj he => by have := h.n4 j he.symm; omega
  have cv : ∀ b, b < ww.heap.size → some b ≠ v.ownBlock → some b ≠ v'.ownBlock := fun b hl hb he => by
    rcases hg.ob with e | ⟨q, e, hq⟩
    · rw [e] at he; exact hb he
    · rw [e] at he; cases he; omega
  exact
    { t := h.t.keep (kk tb htl (nv tb (.inl rfl))) (fun b hb hl => kk b hl hb.2.2.2.1) hz (fun b hb hl => ⟨hb.1, hb.2.1, hb.2.2.1, cv b hl hb.2.2.2.1, hb.2.1⟩)
      d := h.d.keep (kk db hdl (nv db (.inr (.inl rfl)))) (fun _ => kk wb n2.2.2.1 (nv wb (.inr (.inr rfl)))) hz
      o := ho.keep (fun _ _ => rfl) (fun _ _ _ => rfl) (Nat.le_refl _) (fun b hb _ => ⟨hb.1.1, hb.1.2.1, hb.1.2.2.1, cv b hb.2 hb.1.2.2.2.1, hb.1.2.1⟩)
      b := h.b.trans (hg.bel hbs (fun q hq => by have := (h.o.lt q hq).1; omega))
      n1 := ⟨n1.1, n1.2.1, n1.2.2.1, n1.2.2.2.2.2, Nat.le_trans hbz hz⟩
      n2 := ⟨n2.1, n2.2.1, Nat.lt_of_lt_of_le n2.2.2.1 hz, n2.2.2.2⟩
      n4 := fun j hj => by
        rcases hg.ob with e | ⟨q, e, hq⟩
        · rw [e] at hj; have := h.n4 j hj; exact ⟨this.1, this.2.1, this.2.2.1⟩
        · rw [e] at hj; cases hj; exact ⟨by omega, by omega, by omega⟩
      lf := h.lf
      wl := h.wl }
theorem own_new_w (w : World) : (w.alloc (.cells #[] 2)).ownsRow w.heap.size 2 1 (.slice (some ⟨w.heap.size, 0, none⟩) 0 0) 0 (ints []) :=
  ⟨rfl, .inr ⟨w.heap.size, 0, #[], rfl, Nat.le_refl _, heap_alloc_new w _, Nat.le_refl _, by decide, rfl, rfl⟩⟩
/-- What plain.Take answers. -/
structure TaQ (w : World) (ws : List Int) (l : List Sp) (e : Ending) (w' : World) : Prop where
  b : Below w.heap.size w w'
  o : ∃ base v wo cap, e = .returned (.tuple #[v, .slice wo ws.length cap, .bool true]) ∧ w.heap.size ≤ base ∧ OR w' (fun _ => True) base v (ros (new ws, ⟨ws, -1⟩) l) ∧ ws.length ≤ cap ∧ cap ≤ 9223372036854775807 ∧ (∀ (i : Nat) x, (rst (new ws, ⟨ws, -1⟩) l).2.ws[i]? = some x → ∃ b, wo = some ⟨b, 0, none⟩ ∧ w'.cell? ⟨b, i, none⟩ = some (.int .i64 x))
theorem take_one {α : Type} {l : List α} {k : Nat} {x : α} (h : l[k]? = some x) : l.take (k + 1) = l.take k ++ [x] := by
  rw [List.take_add_one, h]; rfl
theorem stp_len (s : Ta × Dk) (x : Sp) : (stp s x).2.2.ws.length = s.2.ws.length := by
  have h1 : (dk2 (dk1 s.2 x) x).ws.length = s.2.ws.length := by
    unfold dk2 dk1
    repeat' split
    all_goals simp
  unfold stp ed1
  split
  · rw [doe_len]; exact h1
  · exact h1
theorem rst_len (s : Ta × Dk) (l : List Sp) : (rst s l).2.ws.length = s.2.ws.length := by
  induction l generalizing s with
  | nil => rfl
  | cons x l ih =>
    show (rst (stp s x).2 l).2.ws.length = _
    rw [ih, stp_len]
end Go.Proofs.Ytpacfppnmenndaa.Tk
