/- All that is kept while a take is run step by step. -/
import Derived.Test.YtpacfppnmenndaaTk20
namespace Go.Proofs.Ytpacfppnmenndaa.Tk
open Go.RowKit Go.Maps Go.Sort Go.Proofs.Ytpacfppnmenndaa.Rg
open Go.Proofs.Ytpacfppnmenndaa.Y (Tn lt okT wr fst cod bfr OkL TL tab tc rows)
set_option linter.unusedVariables false
set_option linter.unusedSimpArgs false

/-- Blocks that nobody writes any more. -/
def Sx (tb db wb : Nat) (v : Value) (xb b : Nat) : Prop := b ≠ tb ∧ b ≠ db ∧ b ≠ wb ∧ some b ≠ v.ownBlock ∧ b ≠ xb
/-- A step in a block. -/
structure SI (w : World) (sb : Nat) (x : Sp) : Prop where
  l : sb < w.heap.size
  c0 : w.cell? ⟨sb, 0, none⟩ = some (.bool x.op)
  c1 : w.cell? ⟨sb, 1, none⟩ = some (.int .i64 x.e.k)
  c2 : w.cell? ⟨sb, 2, none⟩ = some (.int .i64 x.e.n)
  c3 : w.cell? ⟨sb, 3, none⟩ = some (.int .i64 x.e.t.t)
  c4 : w.cell? ⟨sb, 4, none⟩ = some (.int .i64 x.e.t.g)
  c5 : w.cell? ⟨sb, 5, none⟩ = some (.int .i64 x.e.t.l)
  c6 : w.cell? ⟨sb, 6, none⟩ = some (.int .i64 x.e.t.a)
  c7 : w.cell? ⟨sb, 7, none⟩ = some (.int .i64 x.e.t.o)
  c8 : w.cell? ⟨sb, 8, none⟩ = some (.int .i64 x.pw)
  c9 : w.cell? ⟨sb, 9, none⟩ = some (.int .i64 x.pk)
  c10 : w.cell? ⟨sb, 10, none⟩ = some (.int .i64 x.wd)
theorem SI.keep {w w' : World} {sb : Nat} {x : Sp} (h : SI w sb x) (hk : w'.heap[sb]? = w.heap[sb]?) (hz : w.heap.size ≤ w'.heap.size) : SI w' sb x :=
  ⟨Nat.lt_of_lt_of_le h.l hz, blk hk h.c0, blk hk h.c1, blk hk h.c2, blk hk h.c3, blk hk h.c4, blk hk h.c5, blk hk h.c6, blk hk h.c7, blk hk h.c8, blk hk h.c9, blk hk h.c10⟩
/-- All of it. -/
structure RX (w0 ww : World) (base tb db wb : Nat) (wo : Option Addr) (cap : Nat) (v : Value) (sb xb : Nat) (x : Sp) (f : Nat → Value) (s : Ta) (k : Dk) (R : List Tk) : Prop where
  t : TB ww (Sx tb db wb v xb) tb db s
  d : DB ww db wb wo cap k.ws k.lf
  o : OR ww (Sx tb db wb v xb) base v R
  b : Below w0.heap.size w0 ww
  i : SI ww sb x
  y : ww.rowIs xb 32 3 f
  n1 : w0.heap.size ≤ tb ∧ w0.heap.size ≤ db ∧ w0.heap.size ≤ wb ∧ w0.heap.size ≤ sb ∧ w0.heap.size ≤ xb ∧ w0.heap.size ≤ base
  n2 : tb ≠ db ∧ tb ≠ wb ∧ wb < ww.heap.size ∧ wb ≠ db
  n3 : sb ≠ tb ∧ sb ≠ db ∧ sb ≠ wb ∧ sb ≠ xb ∧ xb ≠ tb ∧ xb ≠ db ∧ xb ≠ wb
  n4 : ∀ j, v.ownBlock = some j → j ≠ tb ∧ j ≠ db ∧ j ≠ wb ∧ j ≠ sb ∧ j ≠ xb
  lf : -9223372036854775808 ≤ k.lf ∧ k.lf ≤ 9223372036854775807
  wl : k.ws.length ≤ 1048576
theorem RX.xl {w0 ww : World} {base tb db wb cap sb xb : Nat} {wo : Option Addr} {v : Value} {x : Sp} {f : Nat → Value} {s : Ta} {k : Dk} {R : List Tk} (h : RX w0 ww base tb db wb wo cap v sb xb x f s k R) : xb < ww.heap.size := by
  obtain ⟨c, hb, _⟩ := h.y
  exact (Array.getElem?_eq_some_iff.1 hb).1
theorem RX.upd {w0 ww w' : World} {base tb db wb cap sb xb : Nat} {wo : Option Addr} {v : Value} {x : Sp} {f f' : Nat → Value} {s s' : Ta} {k k' : Dk} {R : List Tk} (h : RX w0 ww base tb db wb wo cap v sb xb x f s k R)
    (os : w'.os = ww.os) (tp : w'.tape = ww.tape) (op : w'.output = ww.output) (hz : ww.heap.size ≤ w'.heap.size) (kk : ∀ j, j < ww.heap.size → j ≠ tb → j ≠ db → j ≠ wb → j ≠ xb → w'.heap[j]? = ww.heap[j]?)
    (ht : TB w' (Sx tb db wb v xb) tb db s') (hd : DB w' db wb wo cap k'.ws k'.lf) (hy : w'.rowIs xb 32 3 f') (lf : -9223372036854775808 ≤ k'.lf ∧ k'.lf ≤ 9223372036854775807) (wl : k'.ws.length ≤ 1048576) : RX w0 w' base tb db wb wo cap v sb xb x f' s' k' R :=
  { t := ht
    d := hd
    o := h.o.keep (fun q hq => by have n4 := h.n4 q hq; exact kk q (h.o.lt q hq).2 n4.1 n4.2.1 n4.2.2.1 n4.2.2.2.2) (fun b hb hl => kk b hl hb.1 hb.2.1 hb.2.2.1 hb.2.2.2.2) hz (fun _ h _ => h)
    b := by
      have hb := h.b
      have hzz := hb.size
      have n1 := h.n1
      exact ⟨os.trans hb.os, tp.trans hb.tape, op.trans hb.output, Nat.le_trans hzz hz, fun j hj => (kk j (by omega) (by omega) (by omega) (by omega) (by omega)).trans (hb.block j hj)⟩
    i := h.i.keep (kk sb h.i.l h.n3.1 h.n3.2.1 h.n3.2.2.1 h.n3.2.2.2.1) hz
    y := hy
    n1 := h.n1
    n2 := ⟨h.n2.1, h.n2.2.1, Nat.lt_of_lt_of_le h.n2.2.2.1 hz, h.n2.2.2.2⟩
    n3 := h.n3
    n4 := h.n4
    lf := lf
    wl := wl }
/-- The power is told anew. -/
theorem RX.left {w0 ww : World} {base tb db wb cap sb xb : Nat} {wo : Option Addr} {v : Value} {x : Sp} {f : Nat → Value} {s : Ta} {k : Dk} {R : List Tk} (h : RX w0 ww base tb db wb wo cap v sb xb x f s k R) (z : Int) (hz : -9223372036854775808 ≤ z ∧ z ≤ 9223372036854775807) :
    RX w0 (ww.setCell ⟨db, 1, none⟩ (.int .i64 z)) base tb db wb wo cap v sb xb x f s ⟨k.ws, z⟩ R := by
  have kk : ∀ j, j ≠ db → (ww.setCell ⟨db, 1, none⟩ (.int .i64 z)).heap[j]? = ww.heap[j]? := fun j hj => Below.heap_setCell _ _ _ _ hj
  have zz : (ww.setCell ⟨db, 1, none⟩ (.int .i64 z)).heap.size = ww.heap.size := by simp [World.setCell]
  have oth : ∀ (b' o' : Nat), ¬ (db = b' ∧ 1 = o') → (ww.setCell ⟨db, 1, none⟩ (.int .i64 z)).cell? ⟨b', o', none⟩ = ww.cell? ⟨b', o', none⟩ := fun b' o' hn => World.cell?_setCell_other ww _ _ _ (fun e => hn ⟨congrArg Addr.block e, congrArg Addr.off e⟩)
  refine h.upd rfl rfl rfl (by rw [zz]; exact Nat.le_refl _) (fun j _ _ h2 _ _ => kk j h2) (h.t.keep (kk tb h.n2.1) (fun b hb _ => kk b hb.2.1) (by rw [zz]; exact Nat.le_refl _) (fun _ h _ => h)) ?_ (World.rowIs.of_block h.y (kk xb h.n3.2.2.2.2.2.1)) hz h.wl
  exact { ld := by rw [zz]; exact h.d.ld, lw := fun hn => by rw [zz]; exact h.d.lw hn, c0 := by rw [oth _ _ (by omega)]; exact h.d.c0, c1 := World.cell?_setCell_same _ _ _ h.d.c1, c2 := by rw [oth _ _ (by omega)]; exact h.d.c2, fd := fun i => by rw [World.frozen?_setCell]; exact h.d.fd i, wc := fun i y hi => by rw [oth _ _ (by have := (h.d.lw (by have h1 : i < k.ws.length := (List.getElem?_eq_some_iff.1 hi).1; omega)).2.2; omega)]; exact h.d.wc i y hi, wf := fun i hi => by rw [World.frozen?_setCell]; exact h.d.wf i hi, m1 := h.d.m1, m2 := h.d.m2 }
/-- A word is put from outside. -/
theorem RX.poke {w0 ww : World} {base tb db wb cap sb xb : Nat} {wo : Option Addr} {v : Value} {x : Sp} {f : Nat → Value} {s : Ta} {k : Dk} {R : List Tk} (h : RX w0 ww base tb db wb wo cap v sb xb x f s k R) (i : Nat) (hi : i < k.ws.length) (z : Int) :
    RX w0 (ww.setCell ⟨wb, i, none⟩ (.int .i64 z)) base tb db wb wo cap v sb xb x f s ⟨k.ws.set i z, k.lf⟩ R := by
  have kk : ∀ j, j ≠ wb → (ww.setCell ⟨wb, i, none⟩ (.int .i64 z)).heap[j]? = ww.heap[j]? := fun j hj => Below.heap_setCell _ _ _ _ hj
  have zz : (ww.setCell ⟨wb, i, none⟩ (.int .i64 z)).heap.size = ww.heap.size := by simp [World.setCell]
  obtain ⟨p1, p2⟩ := h.d.put (lf' := k.lf) hi (ww.setCell ⟨wb, i, none⟩ (.int .i64 z)) (.inl ⟨rfl, rfl⟩)
  exact h.upd rfl rfl rfl (by rw [zz]; exact Nat.le_refl _) (fun j _ _ _ h3 _ => kk j h3) (h.t.keep (kk tb h.n2.2.1) (fun b hb _ => kk b hb.2.2.1) (by rw [zz]; exact Nat.le_refl _) (fun _ h _ => h)) p1 (World.rowIs.of_block h.y (kk xb h.n3.2.2.2.2.2.2)) h.lf (by rw [List.length_set]; exact h.wl)
/-- The take is opened anew. -/
theorem RX.opened {w0 ww w' : World} {base tb db wb cap sb xb : Nat} {wo : Option Addr} {v : Value} {x : Sp} {f : Nat → Value} {s : Ta} {k : Dk} {R : List Tk} {e : Ending} (h : RX w0 ww base tb db wb wo cap v sb xb x f s k R) (ho : OpQ ww db k.ws e w') :
    RX w0 w' base ww.heap.size db wb wo cap v sb xb x f (new k.ws) k R := by
  have hb := ho.b
  have hxl := h.xl
  have hol := h.o.lt
  have n4 := h.n4
  have n3 := h.n3
  have n2 := h.n2
  have hdl := h.d.ld
  have hil := h.i.l
  have hbs := h.b.size
  exact
    { t := ho.t.keep rfl (fun _ _ _ => rfl) (Nat.le_refl _) (fun b hb2 hl => by
        have hb3 : ww.heap.size < b := hb2
        refine ⟨by omega, by omega, by omega, fun he => ?_, by omega⟩
        have := (hol b he.symm).2
        omega)
      d := h.d.bel hb
      o := h.o.keep (fun q hq => hb.block q (hol q hq).2) (fun b _ hl => hb.block b hl) hb.size (fun b hb2 hl => ⟨by omega, hb2.2.1, hb2.2.2.1, hb2.2.2.2.1, hb2.2.2.2.2⟩)
      b := h.b.trans (hb.mono hbs)
      i := h.i.keep (hb.block sb hil) hb.size
      y := World.rowIs.of_block h.y (hb.block xb hxl)
      n1 := ⟨hbs, h.n1.2⟩
      n2 := ⟨by omega, by omega, Nat.lt_of_lt_of_le n2.2.2.1 hb.size, n2.2.2.2⟩
      n3 := ⟨by omega, n3.2.1, n3.2.2.1, n3.2.2.2.1, by omega, n3.2.2.2.2.2.1, n3.2.2.2.2.2.2⟩
      n4 := fun j hj => ⟨by have := (hol j hj).2; omega, (n4 j hj).2⟩
      lf := h.lf
      wl := h.wl }
theorem doe_lf (s : Ta) (k : Dk) (e : Ed) (h : -9223372036854775808 ≤ k.lf ∧ k.lf ≤ 9223372036854775807) : -9223372036854775808 ≤ (doe s k e).2.2.lf ∧ (doe s k e).2.2.lf ≤ 9223372036854775807 := by
  have := pts_lf (pl (s.d * 8) (rc e)) k.ws k.lf h
  unfold doe
  repeat' split
  all_goals first | exact h | exact this
theorem doe_len (s : Ta) (k : Dk) (e : Ed) : (doe s k e).2.2.ws.length = k.ws.length := by
  have := pts_len (pl (s.d * 8) (rc e)) k.ws k.lf
  unfold doe
  repeat' split
  all_goals first | rfl | exact this
/-- An edit is done. -/
theorem RX.done {w0 ww w' : World} {base tb db wb cap sb xb : Nat} {wo : Option Addr} {v : Value} {x : Sp} {f : Nat → Value} {s : Ta} {k : Dk} {R : List Tk} {e : Ending} {ed : Ed} (h : RX w0 ww base tb db wb wo cap v sb xb x f s k R) (ho : DoQ ww (Sx tb db wb v xb) tb db wb wo cap (doe s k ed) e w') :
    RX w0 w' base tb db wb wo cap v sb xb x f (doe s k ed).2.1 (doe s k ed).2.2 R :=
  h.upd ho.k.os ho.k.tp ho.k.op ho.k.z (fun j hj h1 h2 h3 _ => ho.k.k j hj h1 h2 h3) ho.t ho.d (World.rowIs.of_block h.y (ho.k.k xb h.xl h.n3.2.2.2.2.1 h.n3.2.2.2.2.2.1 h.n3.2.2.2.2.2.2)) (doe_lf s k ed h.lf) (by rw [doe_len]; exact h.wl)
/-- What comes of it is written. -/
theorem RX.out {w0 ww : World} {base tb db wb cap sb xb : Nat} {wo : Option Addr} {v : Value} {x : Sp} {f : Nat → Value} {s : Ta} {k : Dk} {R : List Tk} (h : RX w0 ww base tb db wb wo cap v sb xb x f s k R) (i : Nat) (u : Value) :
    RX w0 (ww.setCell ⟨xb, i, none⟩ u) base tb db wb wo cap v sb xb x (fun j => if j = i then u else f j) s k R := by
  have kk : ∀ j, j ≠ xb → (ww.setCell ⟨xb, i, none⟩ u).heap[j]? = ww.heap[j]? := fun j hj => Below.heap_setCell _ _ _ _ hj
  have zz : (ww.setCell ⟨xb, i, none⟩ u).heap.size = ww.heap.size := by simp [World.setCell]
  exact h.upd rfl rfl rfl (by rw [zz]; exact Nat.le_refl _) (fun j _ _ _ _ h4 => kk j h4) (h.t.keep (kk tb h.n3.2.2.2.2.1.symm) (fun b hb _ => kk b hb.2.2.2.2) (by rw [zz]; exact Nat.le_refl _) (fun _ h _ => h)) (h.d.keep (kk db h.n3.2.2.2.2.2.1.symm) (fun _ => kk wb h.n3.2.2.2.2.2.2.symm) (by rw [zz]; exact Nat.le_refl _)) (World.rowIs.set h.y i u) h.lf h.wl
theorem RX.bel {w0 ww w' : World} {base tb db wb cap sb xb : Nat} {wo : Option Addr} {v : Value} {x : Sp} {f : Nat → Value} {s : Ta} {k : Dk} {R : List Tk} (h : RX w0 ww base tb db wb wo cap v sb xb x f s k R) (hb : Below ww.heap.size ww w') : RX w0 w' base tb db wb wo cap v sb xb x f s k R :=
  h.upd hb.os hb.tape hb.output hb.size (fun j hj _ _ _ _ => hb.block j hj) (h.t.bel hb) (h.d.bel hb) (World.rowIs.of_block h.y (hb.block xb h.xl)) h.lf h.wl
end Go.Proofs.Ytpacfppnmenndaa.Tk
