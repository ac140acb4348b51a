/- How nodes come to rest; what is asked of them. -/
import Derived.Test.YtjpcebnbkdekkaaGU15
import Derived.Lib.SliceRun
import Derived.BigFrame
namespace Go.Proofs.Ytjpcebnbkdekkaa.Gh
open Go.RowKit Go.Maps Go.Sort Fl
set_option linter.unusedVariables false
set_option linter.unusedSimpArgs false

theorem zeroF (w : World) : (zeroValue 46).run Try.prog w = .ok (.float .f64 0) w := by kernel_rfl
theorem setCells_kx (b : Nat) : ∀ (vs : List Value) (o : Nat) (w : World), Kx (· = b) w (w.setCells b o vs)
  | [], _, w => Kx.refl _ _
  | v :: r, o, w => (Kx.put (w := w) (i := o) (v := v) (M := (· = b)) rfl).trans (setCells_kx b r (o + 1) _)
theorem rowIs_setCells (b : Nat) (t : TypeId) (n : Nat) (z : Value) : ∀ (m o : Nat) (f : Nat → Value) (w : World), w.rowIs b t n f → (w.setCells b o (List.replicate m z)).rowIs b t n (fun j => if o ≤ j ∧ j < o + m then z else f j)
  | 0, o, f, w, h => World.rowIs.congr h (fun j _ => (if_neg (by omega)).symm)
  | m + 1, o, f, w, h => by
    have := rowIs_setCells b t n z m (o + 1) _ _ (World.rowIs.set h o z)
    refine World.rowIs.congr this (fun j _ => ?_)
    show (if o + 1 ≤ j ∧ j < o + 1 + m then z else if j = o then z else f j) = if o ≤ j ∧ j < o + (m + 1) then z else f j
    by_cases c : j = o
    · rw [if_neg (by omega), if_pos c, if_pos (by omega)]
    · by_cases d : o + 1 ≤ j ∧ j < o + 1 + m
      · rw [if_pos d, if_pos (by omega)]
      · rw [if_neg d, if_neg c, if_neg (by omega)]
set_option maxHeartbeats 2000000 in
theorem drest_any (d h D p : Nat) (ev : Value) (g : Nat → Nat) (w : World) (hD : DL w d h D p ev g) :
    Calls Try.prog 91 #[.pointer (some ⟨d, 0, none⟩)] w fun e w' => e = .returned (.tuple #[]) ∧ DL w' d h D 0 ev (fun _ => 0) ∧ Kx (fun b => b = d ∨ b = h) w w' := by
  have hlt := hD.lt
  have c1 := hD.c1
  have ld := lt_cell c1
  have hcl : ∀ ty, (Builtin.clear_ #[38] ty #[.slice (some ⟨h, 0, none⟩) D D]).run Try.prog w = .ok (.tuple #[]) (w.setCells h 0 (List.replicate D (.float .f64 0))) := fun ty => Lib.run_clear_slice w 38 46 ty (.float .f64 0) Try.underlying38 zeroF rfl rfl h 0 D D (by omega) (fun j hj => by rw [World.rowIs.cell hD.fr (by omega)]; rfl) (fun j hj => World.rowIs.frozen hD.fr _)
  have HK : Hid (Kx (· = h) w (w.setCells h 0 (List.replicate D (.float .f64 0)))) := setCells_kx h _ 0 w
  have HR : Hid (Fi.FR (w.setCells h 0 (List.replicate D (.float .f64 0))) h D (fun _ => 0)) := World.rowIs.congr (rowIs_setCells h 46 D (.float .f64 0) D 0 _ w hD.fr) (fun j hj => if_pos (by omega))
  have c2 := HK.out.cell ld hD.ne hD.c2
  have cf := HK.out.froz (o := 2) ld hD.ne (hD.fz 2)
  have ld2 := lt_cell c2
  have HD : Hid (DL w d h D p ev g) := hD
  clear hD
  go_enter Try.func91, Try.ntmps91
  go_wp2_with (simp only [hcl])
  generalize w.setCells h 0 (List.replicate D (.float .f64 0)) = W1 at *
  clear hcl
  go_wp2_with fail
  go_end0
  have h6 : ∀ i, i ≠ 2 → (W1.setCell ⟨d, 2, none⟩ (.int .i64 0)).cell? ⟨d, i, none⟩ = W1.cell? ⟨d, i, none⟩ := fun i hi => World.cell?_setCell_other _ _ _ _ (fun e => hi (congrArg Addr.off e).symm)
  have hD := HD.out
  refine ⟨rfl, ⟨(h6 0 (by omega)).trans (HK.out.cell ld hD.ne hD.c0), (h6 1 (by omega)).trans (HK.out.cell ld hD.ne hD.c1), World.cell?_setCell_same _ _ _ c2, fun i => by rw [World.frozen?_setCell]; exact HK.out.froz ld hD.ne (hD.fz i), World.rowIs.setOther HR.out (fun e => hD.ne e.symm) _, fun _ => by decide, by omega, hD.mx, hD.ne⟩, (HK.out.mono (fun k _ e => .inr e)).trans (Kx.put (.inl rfl))⟩
theorem ahead_any (d h D p : Nat) (ev : Value) (g : Nat → Nat) (w : World) (hD : DL w d h D p ev g) :
    Calls Try.prog 92 #[.pointer (some ⟨d, 0, none⟩)] w fun e w' => e = .returned (.int .i64 D) ∧ w' = w := by
  have c1 := hD.c1
  have ld := lt_cell c1
  clear hD
  go_enter Try.func92, Try.ntmps92
  go_wp2_with fail
  go_ret
  exact ⟨rfl, rfl⟩
theorem from_any (v : Value) (w : World) : Calls Try.prog 90 #[v] w fun e w' => e = .returned v ∧ w' = w := by
  go_enter Try.func90, Try.ntmps90
  go_wp2_with fail
  go_ret
  exact ⟨rfl, rfl⟩
set_option maxHeartbeats 2000000 in
theorem grest_any (hC : Vo.CirC) (sb vb T : Nat) (p : Vo.Pt) (ev : Value) (w : World) (hG : GL w sb vb T p ev) :
    Calls Try.prog 101 #[.pointer (some ⟨sb, 0, none⟩)] w fun e w' => e = .returned (.tuple #[]) ∧ ∃ vb', w.heap.size ≤ vb' ∧ vb' < w'.heap.size ∧ GL w' sb vb' 0 p ev ∧ Kx (· = sb) w w' := by
  have HG : Hid (GL w sb vb T p ev) := hG
  have c1 := hG.c1
  have p0 := hG.p0
  have p1 := hG.p1
  have p2 := hG.p2
  have p3 := hG.p3
  have p4 := hG.p4
  have p5 := hG.p5
  have p6 := hG.p6
  have ls := lt_cell c1
  have HN := fun w => (Vo.New_any hC p w).mono fun e w' h => h
  obtain ⟨shape, step, gain, atk, dec, rel, sus⟩ := p
  simp only at *
  clear hG hC
  go_enter Try.func101, Try.ntmps101
  go_wp2_with fail
  refine (HN _).mono ?_
  intro e w1 hQ
  obtain ⟨v, he, hv1, hv2⟩ := hQ.ok HG.out.wr
  subst he
  have hb1 := hQ.b
  have c1' := Fi.keepC hb1 ls c1
  have cf : w1.frozen? ⟨sb, 1, none⟩ = false := (World.frozen?_of_block (w := w) (w' := w1) (a := ⟨sb, 1, none⟩) (hb1.block sb ls)).trans (HG.out.fz 1)
  have ls1 := lt_cell c1'
  have HV : Hid (Vo.VL w1 v ⟨shape, step, gain, atk, dec, rel, sus⟩ 0 none) := hv2
  have HB : Hid (Below w.heap.size w w1) := hb1
  clear hQ HN hb1 hv2
  go_wp2_with fail
  go_end0
  have hne : sb ≠ v := by omega
  have h6 : ∀ i, i ≠ 1 → (w1.setCell ⟨sb, 1, none⟩ (.pointer (some ⟨v, 0, none⟩))).cell? ⟨sb, i, none⟩ = w1.cell? ⟨sb, i, none⟩ := fun i hi => World.cell?_setCell_other _ _ _ _ (fun e => hi (congrArg Addr.off e).symm)
  have hG := HG.out
  have kc : ∀ {i : Nat} {u : Value}, i ≠ 1 → w.cell? ⟨sb, i, none⟩ = some u → (w1.setCell ⟨sb, 1, none⟩ (.pointer (some ⟨v, 0, none⟩))).cell? ⟨sb, i, none⟩ = some u := fun hi hu => (h6 _ hi).trans (Fi.keepC HB.out ls hu)
  refine ⟨rfl, v, hv1, by simpa [World.setCell] using HV.out.lt, ⟨kc (by omega) hG.c0, World.cell?_setCell_same _ _ _ c1', kc (by omega) hG.p0, kc (by omega) hG.p1, kc (by omega) hG.p2, kc (by omega) hG.p3, kc (by omega) hG.p4, kc (by omega) hG.p5, kc (by omega) hG.p6, fun i => ?_, ?_, hG.ok, hG.st, hG.wr, hne⟩, (Kx.bel HB.out).trans (Kx.put rfl)⟩
  · rw [World.frozen?_setCell]
    exact (World.frozen?_of_block (w := w) (w' := w1) (a := ⟨sb, i, none⟩) (HB.out.block sb ls)).trans (hG.fz i)
  · exact HV.out.keep (Below.heap_setCell _ _ _ _ (fun e => hne e.symm)) (by simp [World.setCell])
theorem aplay_input (s : Sx) (out c1 : Value) (w : World) (Q : World → Prop) (h : Calls Try.prog 60 #[sv s, out, c1] (w.alloc (Obj.cells #[.slice s.io s.il s.ic, .int .i64 s.t, .slice (some ⟨s.mb, 0, none⟩) s.N s.N] 82)) fun e w' => e = .returned (.tuple #[]) ∧ Q w') : Calls Try.prog 95 #[.func (.func 60) #[] #[c1], sv s, out] w fun e w' => e = .returned (.tuple #[]) ∧ Q w' := by
  go_enter Try.func95, Try.ntmps95
  go_wp2_with fail
  refine h.mono ?_
  rintro e w1 ⟨rfl, hq⟩
  go_wp2_with fail
  go_end0
  exact ⟨rfl, hq⟩
theorem aplay_steady (s : Sx) (out c1 : Value) (w : World) (Q : World → Prop) (h : Calls Try.prog 61 #[sv s, out, c1] (w.alloc (Obj.cells #[.slice s.io s.il s.ic, .int .i64 s.t, .slice (some ⟨s.mb, 0, none⟩) s.N s.N] 82)) fun e w' => e = .returned (.tuple #[]) ∧ Q w') : Calls Try.prog 95 #[.func (.func 61) #[] #[c1], sv s, out] w fun e w' => e = .returned (.tuple #[]) ∧ Q w' := by
  go_enter Try.func95, Try.ntmps95
  go_wp2_with fail
  refine h.mono ?_
  rintro e w1 ⟨rfl, hq⟩
  go_wp2_with fail
  go_end0
  exact ⟨rfl, hq⟩
theorem aplay_mix (s : Sx) (out c1 : Value) (w : World) (Q : World → Prop) (h : Calls Try.prog 64 #[sv s, out, c1] (w.alloc (Obj.cells #[.slice s.io s.il s.ic, .int .i64 s.t, .slice (some ⟨s.mb, 0, none⟩) s.N s.N] 82)) fun e w' => e = .returned (.tuple #[]) ∧ Q w') : Calls Try.prog 95 #[.func (.func 64) #[] #[c1], sv s, out] w fun e w' => e = .returned (.tuple #[]) ∧ Q w' := by
  go_enter Try.func95, Try.ntmps95
  go_wp2_with fail
  refine h.mono ?_
  rintro e w1 ⟨rfl, hq⟩
  go_wp2_with fail
  go_end0
  exact ⟨rfl, hq⟩
theorem aplay_gain (s : Sx) (out c1 c2 : Value) (w : World) (Q : World → Prop) (h : Calls Try.prog 62 #[sv s, out, c1, c2] (w.alloc (Obj.cells #[.slice s.io s.il s.ic, .int .i64 s.t, .slice (some ⟨s.mb, 0, none⟩) s.N s.N] 82)) fun e w' => e = .returned (.tuple #[]) ∧ Q w') : Calls Try.prog 95 #[.func (.func 62) #[] #[c1, c2], sv s, out] w fun e w' => e = .returned (.tuple #[]) ∧ Q w' := by
  go_enter Try.func95, Try.ntmps95
  go_wp2_with fail
  refine h.mono ?_
  rintro e w1 ⟨rfl, hq⟩
  go_wp2_with fail
  go_end0
  exact ⟨rfl, hq⟩
theorem aplay_times (s : Sx) (out c1 c2 : Value) (w : World) (Q : World → Prop) (h : Calls Try.prog 63 #[sv s, out, c1, c2] (w.alloc (Obj.cells #[.slice s.io s.il s.ic, .int .i64 s.t, .slice (some ⟨s.mb, 0, none⟩) s.N s.N] 82)) fun e w' => e = .returned (.tuple #[]) ∧ Q w') : Calls Try.prog 95 #[.func (.func 63) #[] #[c1, c2], sv s, out] w fun e w' => e = .returned (.tuple #[]) ∧ Q w' := by
  go_enter Try.func95, Try.ntmps95
  go_wp2_with fail
  refine h.mono ?_
  rintro e w1 ⟨rfl, hq⟩
  go_wp2_with fail
  go_end0
  exact ⟨rfl, hq⟩
end Go.Proofs.Ytjpcebnbkdekkaa.Gh

/- A node in memory; what it hears at once, how far it tells ahead. -/
namespace Go.Proofs.Ytjpcebnbkdekkaa.Gh
open Go.RowKit Go.Maps Go.Sort Fl
set_option linter.unusedVariables false
set_option linter.unusedSimpArgs false

theorem late_yes (v : Value) (x : TypeId) (w : World) : (Instr.typeAssert (.iface 111 v) x 100 true).run Try.prog w = .ok (.tuple #[.iface 111 v, .bool true]) w := run_typeAssert_hasB Try.underlying100 (by kernel_rfl) v x w
theorem late_no1 (v : Value) (x : TypeId) (w : World) : (Instr.typeAssert (.iface 119 v) x 100 true).run Try.prog w = .ok (.tuple #[.nilIface, .bool false]) w := run_typeAssert_lacksB Try.underlying100 (by kernel_rfl) (by kernel_rfl) v x w
theorem late_no2 (v : Value) (x : TypeId) (w : World) : (Instr.typeAssert (.iface 128 v) x 100 true).run Try.prog w = .ok (.tuple #[.nilIface, .bool false]) w := run_typeAssert_lacksB Try.underlying100 (by kernel_rfl) (by kernel_rfl) v x w
theorem late_no3 (v : Value) (x : TypeId) (w : World) : (Instr.typeAssert (.iface 132 v) x 100 true).run Try.prog w = .ok (.tuple #[.nilIface, .bool false]) w := run_typeAssert_lacksB Try.underlying100 (by kernel_rfl) (by kernel_rfl) v x w
theorem rest_yes1 (v : Value) (x : TypeId) (w : World) : (Instr.typeAssert (.iface 111 v) x 97 true).run Try.prog w = .ok (.tuple #[.iface 111 v, .bool true]) w := run_typeAssert_hasB Try.underlying97 (by kernel_rfl) v x w
theorem rest_yes2 (v : Value) (x : TypeId) (w : World) : (Instr.typeAssert (.iface 128 v) x 97 true).run Try.prog w = .ok (.tuple #[.iface 128 v, .bool true]) w := run_typeAssert_hasB Try.underlying97 (by kernel_rfl) v x w
theorem rest_yes3 (v : Value) (x : TypeId) (w : World) : (Instr.typeAssert (.iface 132 v) x 97 true).run Try.prog w = .ok (.tuple #[.iface 132 v, .bool true]) w := run_typeAssert_hasB Try.underlying97 (by kernel_rfl) v x w
theorem rest_no (v : Value) (x : TypeId) (w : World) : (Instr.typeAssert (.iface 119 v) x 97 true).run Try.prog w = .ok (.tuple #[.nilIface, .bool false]) w := run_typeAssert_lacksB Try.underlying97 (by kernel_rfl) (by kernel_rfl) v x w
theorem from_singer0 (n b : Nat) (w : World) : (method (n + 1) 132 (.pointer (some ⟨b, 0, none⟩)) "cantus/graph.from").run Try.prog w = ((do let v ← loadVar 110 ⟨b, 0, none⟩; pure (90, v)) : Sem (FuncId × Value)).run Try.prog w := by kernel_rfl
theorem loadE (b : Nat) (ev : Value) (w : World) (h : w.cell? ⟨b, 0, none⟩ = some ev) : (loadVar 110 ⟨b, 0, none⟩).run Try.prog w = .ok ev w := by
  have hu : Try.prog.underlying 110 = some (.slice 3) := Try.underlying110
  have hagg : (isAgg 110).run Try.prog w = .ok false w := by
    unfold isAgg
    rw [Sem.run_bind, run_underlying hu w]
    rfl
  simp [loadVar, Sem.run_bind, hagg, run_load, h]
theorem from_singer (b : Nat) (ev : Value) (w : World) (h : w.cell? ⟨b, 0, none⟩ = some ev) (n : Nat) : (method (n + 1) 132 (.pointer (some ⟨b, 0, none⟩)) "cantus/graph.from").run Try.prog w = .ok (90, ev) w := by
  rw [from_singer0]
  simp [Sem.run_bind, loadE b ev w h]
/-- The ears of a node. -/
structure EarL (w : World) (F : Nat → Prop) (ev : Value) (l : List Int) : Prop where
  ex : ∃ eo ec, ev = .slice eo l.length ec ∧ l.length ≤ ec ∧ ec ≤ 9223372036854775807 ∧ ZL w F eo l
theorem EarL.keep {w w' : World} {F F' : Nat → Prop} {ev : Value} {l : List Int} (h : EarL w F ev l) (hk : ∀ b, F b → b < w.heap.size → w'.heap[b]? = w.heap[b]?) (hz : w.heap.size ≤ w'.heap.size) (hs : ∀ b, F b → b < w.heap.size → F' b) : EarL w' F' ev l := by
  obtain ⟨eo, ec, h1, h2, h3, h4⟩ := h.ex
  exact ⟨⟨eo, ec, h1, h2, h3, h4.keep hk hz hs⟩⟩
@[reducible] def simV (ev fv : Value) : Value := .iface 119 (.agg #[ev, fv])
@[reducible] def pt (b : Nat) : Value := .pointer (some ⟨b, 0, none⟩)
/-- What lies behind a node, by its kind. -/
def NK (w : World) (F O : Nat → Prop) (V : Hist) (T i : Nat) (d : Nd) (ev v : Value) : Prop :=
  (d.kind = 1 ∧ ∃ cb, v = simV ev (.func (.func 60) #[] #[pt cb]) ∧ F cb ∧ w.cell? ⟨cb, 0, none⟩ = some (.int .i64 d.n)) ∨
  (d.kind = 2 ∧ ∃ cb, v = simV ev (.func (.func 61) #[] #[pt cb]) ∧ F cb ∧ w.cell? ⟨cb, 0, none⟩ = some (.float .f64 d.x) ∧ d.x < 18446744073709551616) ∨
  (d.kind = 3 ∧ ∃ cb cx, v = simV ev (.func (.func 62) #[] #[pt cb, pt cx]) ∧ F cb ∧ F cx ∧ w.cell? ⟨cb, 0, none⟩ = some (.int .i64 (f0 d)) ∧ w.cell? ⟨cx, 0, none⟩ = some (.float .f64 d.x) ∧ d.x < 18446744073709551616) ∨
  (d.kind = 4 ∧ d.frm = [] ∧ ∃ cb, v = simV ev (.func (.func 61) #[] #[pt cb]) ∧ F cb ∧ w.cell? ⟨cb, 0, none⟩ = some (.float .f64 0)) ∨
  (d.kind = 4 ∧ d.frm ≠ [] ∧ ∃ cb, v = simV ev (.func (.func 64) #[] #[pt cb]) ∧ F cb ∧ w.cell? ⟨cb, 0, none⟩ = some ev) ∨
  (d.kind = 5 ∧ ∃ cb cx, v = simV ev (.func (.func 63) #[] #[pt cb, pt cx]) ∧ F cb ∧ F cx ∧ w.cell? ⟨cb, 0, none⟩ = some (.int .i64 (f0 d)) ∧ w.cell? ⟨cx, 0, none⟩ = some (.int .i64 (f1 d))) ∨
  (d.kind = 6 ∧ ∃ b h D p g, v = .iface 111 (pt b) ∧ O b ∧ O h ∧ DL w b h D p ev g ∧ d.n = D ∧ ∀ j, j < D → ab (g ((p + j) % D)) = pv V (f0 d) ((T : Int) + j - D)) ∨
  (d.kind = 7 ∧ ∃ b, v = .iface 128 (.agg #[ev, pt b]) ∧ O b ∧ Fi.FL w b d.c (fst' V (f0 d) i T)) ∨
  (d.kind = 8 ∧ ∃ b vb, v = .iface 132 (pt b) ∧ O b ∧ O vb ∧ GL w b vb T d.p ev)
/-- A node in memory. -/
structure NodeL (w : World) (F O : Nat → Prop) (V : Hist) (T i : Nat) (d : Nd) (ev v : Value) : Prop where
  e : EarL w F ev d.frm
  k : NK w F O V T i d ev v
/-- What is heard at once, as a list in memory. -/
def nowV (d : Nd) (ev : Value) : Value := if d.kind = 6 then .slice none 0 0 else ev
set_option maxHeartbeats 2000000 in
theorem now_any (F O : Nat → Prop) (V : Hist) (T i : Nat) (d : Nd) (ev v : Value) (w : World) (hN : NodeL w F O V T i d ev v) :
    Calls Try.prog 39 #[v] w fun e w' => e = .returned (nowV d ev) ∧ w' = w := by
  have a1 := late_no1
  have a2 := late_no2
  have a3 := late_no3
  have a4 := late_yes
  have q := fun v w => from_any v w
  have hsim : ∀ fv, d.kind ≠ 6 → Calls Try.prog 39 #[simV ev fv] w fun e w' => e = .returned (nowV d ev) ∧ w' = w := fun fv hk => by
    have HR : nowV d ev = ev := if_neg hk
    rw [HR]
    clear hk HR hN
    go_enter Try.func39, Try.ntmps39
    go_wp2_with (simp only [a1])
    refine (q _ _).mono ?_
    rintro e w1 ⟨rfl, hw⟩
    rw [hw]
    go_wp2_with fail
    go_ret
    exact ⟨rfl, rfl⟩
  rcases hN.k with ⟨hk, cb, rfl, _⟩ | ⟨hk, cb, rfl, _⟩ | ⟨hk, cb, cx, rfl, _⟩ | ⟨hk, _, cb, rfl, _⟩ | ⟨hk, _, cb, rfl, _⟩ | ⟨hk, cb, cx, rfl, _⟩ | ⟨hk, b, h, D, p, g, rfl, _⟩ | ⟨hk, b, rfl, _⟩ | ⟨hk, b, vb, rfl, _, _, hG⟩
  · exact hsim _ (by omega)
  · exact hsim _ (by omega)
  · exact hsim _ (by omega)
  · exact hsim _ (by omega)
  · exact hsim _ (by omega)
  · exact hsim _ (by omega)
  · have HR : nowV d ev = .slice none 0 0 := if_pos hk
    rw [HR]
    clear hk HR hN hsim
    go_enter Try.func39, Try.ntmps39
    go_wp2_with (simp only [a4])
    go_ret
    exact ⟨rfl, rfl⟩
  · have HR : nowV d ev = ev := if_neg (by omega)
    rw [HR]
    clear hk HR hN hsim
    go_enter Try.func39, Try.ntmps39
    go_wp2_with (simp only [a2])
    refine (q _ _).mono ?_
    rintro e w1 ⟨rfl, hw⟩
    rw [hw]
    go_wp2_with fail
    go_ret
    exact ⟨rfl, rfl⟩
  · have HR : nowV d ev = ev := if_neg (by omega)
    rw [HR]
    have c0 := hG.c0
    have lb := lt_cell c0
    have hfr := from_singer b ev w c0
    clear hk HR hN hsim hG
    go_enter Try.func39, Try.ntmps39
    go_wp2_with (first | simp only [a3] | simp only [hfr])
    refine (q _ _).mono ?_
    rintro e w1 ⟨rfl, hw⟩
    rw [hw]
    go_wp2_with fail
    go_ret
    exact ⟨rfl, rfl⟩
end Go.Proofs.Ytjpcebnbkdekkaa.Gh

/- What any node makes. -/
namespace Go.Proofs.Ytjpcebnbkdekkaa.Gh
open Go.RowKit Go.Maps Go.Sort Fl
set_option linter.unusedVariables false
set_option linter.unusedSimpArgs false

theorem seg_fit {k N L n : Nat} (hk : k < N) (hn : n ≤ L) : k * L + n ≤ N * L := by
  have := Nat.mul_le_mul_right L (show k + 1 ≤ N by omega)
  rw [Nat.add_mul, Nat.one_mul] at this
  omega
theorem seg_cap {k N L n : Nat} (hk : k < N) (hn : n ≤ L) : n ≤ (N - k) * L := by
  have := Nat.mul_le_mul_right L (show 1 ≤ N - k by omega)
  rw [Nat.one_mul] at this
  omega
theorem seg_dis {k i L n : Nat} (hne : k ≠ i) (hn : n ≤ L) : k * L + n ≤ i * L ∨ i * L + n ≤ k * L := by
  by_cases c : k < i
  · left; exact seg_fit c hn
  · right; exact seg_fit (by omega) hn
theorem cap_max {k N L : Nat} (hN : N ≤ 256) (hL : L ≤ 512) : (N - k) * L ≤ 9223372036854775807 := by
  have := Nat.mul_le_mul (show N - k ≤ 256 by omega) hL
  omega
/-- All that a node wants to know while it plays. -/
structure Cx (w : World) (s : Sx) (F O : Nat → Prop) (B : Nat) (P : List (List Nat)) (n i T : Nat) (f : Nat → Nat) (d : Nd) (I V : Hist) : Prop where
  mA : s.mb ≠ s.A
  FA : ∀ b, F b → b ≠ s.A ∧ b ≠ s.mb
  OA : ∀ b, O b → b ≠ s.A ∧ b ≠ s.mb ∧ ¬ F b
  fr : Fi.FR w s.A (s.N * s.L) f
  f6 : ∀ j, f j < 18446744073709551616
  li : i < s.N
  lN : s.N ≤ 256
  lL : s.L ≤ 512
  ln : n ≤ s.L
  mny : many d
  hd : ∀ k ∈ now d, 0 ≤ k ∧ k.toNat < s.N ∧ k.toNat ≠ i ∧ w.cell? ⟨s.mb, k.toNat, none⟩ = some (.slice (some ⟨s.A, k.toNat * s.L, none⟩) n ((s.N - k.toNat) * s.L)) ∧ ∀ j, j < n → ab (f (k.toNat * s.L + j)) = V k.toNat (T + j)
  inp : d.kind = 1 → ∃ p l, d.n = (p : Nat) ∧ P[p]? = some l ∧ s.t + n ≤ l.length ∧ ∀ j, j < n → I p (T + j) = ab (l.getD (s.t + j) 0)
  pl : Fi.PL w B s.io P
  il : s.il = P.length
  ic : s.il ≤ s.ic
  sol : ∀ j, j < n → V i (T + j) = sampD d I V i (T + j)
  dl : d.kind = 6 → (n : Int) ≤ d.n
  bd : T + n ≤ 4611686018427387904
theorem Cx.hdq {w : World} {s : Sx} {F O : Nat → Prop} {B : Nat} {P : List (List Nat)} {n i T : Nat} {f : Nat → Nat} {d : Nd} {I V : Hist} (h : Cx w s F O B P n i T f d I V) {k : Int} (hk : k ∈ now d) : Hd w s (s.N * s.L) (i * s.L) n (fun k => k * s.L) (fun k => (s.N - k) * s.L) k.toNat := by
  obtain ⟨h0, h1, h2, h3, h4⟩ := h.hd k hk
  exact ⟨h1, h3, seg_cap h1 h.ln, seg_fit h1 h.ln, seg_dis h2 h.ln⟩
/-- What a call of play through the interface must come to. -/
def PlayC (v : Value) (s : Sx) (out : Value) (w : World) (Q : World → Prop) : Prop :=
  (∃ ev fv, v = simV ev fv ∧ Calls Try.prog 95 #[fv, sv s, out] w fun e w' => e = .returned (.tuple #[]) ∧ Q w') ∨
  (∃ b, v = .iface 111 (pt b) ∧ Calls Try.prog 94 #[pt b, sv s, out] w fun e w' => e = .returned (.tuple #[]) ∧ Q w') ∨
  (∃ ev b, v = .iface 128 (.agg #[ev, pt b]) ∧ Calls Try.prog 97 #[.agg #[ev, pt b], sv s, out] w fun e w' => e = .returned (.tuple #[]) ∧ Q w') ∨
  (∃ b, v = .iface 132 (pt b) ∧ Calls Try.prog 102 #[pt b, sv s, out] w fun e w' => e = .returned (.tuple #[]) ∧ Q w')
/-- How far a node is behind play. -/
def tp (d : Nd) (T n : Nat) : Nat := if d.kind = 6 then T else T + n
theorem now_frm {d : Nd} (h : d.kind ≠ 6) : now d = d.frm := if_neg h
theorem f0_one {d : Nd} (h : d.frm.length = 1) (h0 : ∀ k ∈ d.frm, 0 ≤ k) : d.frm = [((f0 d : Nat) : Int)] := by
  match hd : d.frm, h with
  | [a], _ =>
    have := h0 a (by rw [hd]; exact List.mem_cons_self ..)
    unfold f0
    rw [hd]
    show [a] = [((a.toNat : Nat) : Int)]
    rw [Int.toNat_of_nonneg this]
theorem Fi.PL.at {w : World} {B : Nat} {ao : Option Addr} {P : List (List Nat)} (h : Fi.PL w B ao P) {p : Nat} {l : List Nat} (hp : P[p]? = some l) : ∃ b off a c, ao = some ⟨b, off, none⟩ ∧ w.cell? ⟨b, off + p, none⟩ = some (.slice a l.length c) ∧ l.length ≤ c ∧ c ≤ 9223372036854775807 ∧ Fi.IL w (fun k => k < B) a l := by
  obtain ⟨b, off, h1, h2, h3⟩ := h.at' (by have := (List.getElem?_eq_some_iff.1 hp).1; omega)
  obtain ⟨a, c, g1, g2, g3, g4, g5⟩ := h3 p l hp
  exact ⟨b, off, a, c, h1, g1, g2, g3, g5⟩
/-- Facts kept behind an alloc. -/
theorem Cx.bel {w w' : World} {s : Sx} {F O : Nat → Prop} {B : Nat} {P : List (List Nat)} {n i T : Nat} {f : Nat → Nat} {d : Nd} {I V : Hist} (h : Cx w s F O B P n i T f d I V) (hB : B ≤ w.heap.size) (hb : Below w.heap.size w w') : Cx w' s F O B P n i T f d I V :=
  { h with
    fr := World.rowIs.of_block h.fr (hb.block _ (World.rowIs.lt h.fr))
    hd := fun k hk => by
      obtain ⟨h0, h1, h2, h3, h4⟩ := h.hd k hk
      exact ⟨h0, h1, h2, Fi.keepC hb (lt_cell h3) h3, h4⟩
    pl := h.pl.keep hB (fun b hbb => hb.block b (by omega)) hb.size }
set_option maxHeartbeats 2000000 in
theorem nplay_any (hC : Vo.CirC) (s : Sx) (F O : Nat → Prop) (B : Nat) (P : List (List Nat)) (n i T : Nat) (f : Nat → Nat) (d : Nd) (I V : Hist) (ev v : Value) (w : World) (hN : NodeL w F O V T i d ev v) (hX : Cx w s F O B P n i T f d I V) (hB : B ≤ w.heap.size) :
    PlayC v s (.slice (some ⟨s.A, i * s.L, none⟩) n ((s.N - i) * s.L)) w (fun w' => Pq w s.A (s.N * s.L) (i * s.L) n f (fun j => V i (T + j)) O w' ∧ NodeL w' F O V (tp d T n) i d ev v) := by
  have hfit := seg_fit (n := n) hX.li hX.ln
  have hcap := seg_cap (n := n) hX.li hX.ln
  have hcm := cap_max (k := i) hX.lN hX.lL
  have hM : n ≤ 65536 := by have := hX.ln; have := hX.lL; omega
  have hE := hN.e
  have hb1 := (sbox s w).1
  have hX1 := hX.bel hB hb1
  have hEk : ∀ {w'}, Kx (fun b => b = s.A ∨ O b) w w' → EarL w' F ev d.frm := fun hk => hE.keep (fun b hb hl => hk.block b hl (fun q => q.elim (fun e => (hX.FA b hb).1 e) (fun e => (hX.OA b e).2.2 hb))) hk.size (fun _ h _ => h)
  have hFk : ∀ {w' : World} {b : Nat} {u : Value}, Kx (fun b => b = s.A ∨ O b) w w' → F b → w.cell? ⟨b, 0, none⟩ = some u → w'.cell? ⟨b, 0, none⟩ = some u := fun hk hb hu => hk.cell (lt_cell hu) (fun q => q.elim (fun e => (hX.FA _ hb).1 e) (fun e => (hX.OA _ e).2.2 hb)) hu
  have hsol : ∀ {U : Nat → Option Nat} {w' : World}, Pq w s.A (s.N * s.L) (i * s.L) n f U O w' → (∀ j, j < n → U j = V i (T + j)) → Pq w s.A (s.N * s.L) (i * s.L) n f (fun j => V i (T + j)) O w' := fun h e => by
    obtain ⟨g, g1, g2, g3, g4⟩ := h.ex
    exact ⟨⟨g, g1, g2, g3, fun j hj => (g4 j hj).trans (e j hj)⟩, h.k⟩
  rcases hN.k with ⟨hk, cb, rfl, h1, h2⟩ | ⟨hk, cb, rfl, h1, h2, h3⟩ | ⟨hk, cb, cx, rfl, h1, h1x, h2, h3, h4⟩ | ⟨hk, h0, cb, rfl, h1, h2⟩ | ⟨hk, h0, cb, rfl, h1, h2⟩ | ⟨hk, cb, cx, rfl, h1, h1x, h2, h3⟩ | ⟨hk, b, h, D, p, g, rfl, h1, h2, h3, h4, h5⟩ | ⟨hk, b, rfl, h1, h2⟩ | ⟨hk, b, vb, rfl, h1, h2, h3⟩
  · left
    refine ⟨ev, _, rfl, aplay_input s _ _ w _ ?_⟩
    obtain ⟨p, l, hp, hl, hlen, hI⟩ := hX.inp hk
    obtain ⟨ib, io, la, lc, e1, e2, e3, e4, e5⟩ := Fi.PL.at hX1.pl hl
    have hpl := (List.getElem?_eq_some_iff.1 hl).1
    rw [hp] at h2
    refine (input_any s cb p (i * s.L) n ((s.N - i) * s.L) (s.N * s.L) l la lc ib io f _ (Fi.keepC hb1 (lt_cell h2) h2) e1 (by rw [hX.il]; exact hpl) hX.ic e2 e3 e4 _ e5 hlen hX1.fr hX.f6 hfit hcap hM).mono ?_
    rintro e w' ⟨he, hw⟩
    have hP := hsol ((hw.pre hb1).pq O) (fun j hj => by
      rw [hX.sol j hj]
      unfold sampD
      rw [if_pos hk, hp, Int.toNat_natCast, hI j hj])
    exact ⟨he, hP, hEk hP.k, .inl ⟨hk, cb, rfl, h1, by rw [hp]; exact hFk hP.k h1 h2⟩⟩
  · left
    refine ⟨ev, _, rfl, aplay_steady s _ _ w _ ?_⟩
    refine (steady_any s d.x cb (i * s.L) n ((s.N - i) * s.L) (s.N * s.L) f _ (Fi.keepC hb1 (lt_cell h2) h2) h3 (hX.FA cb h1).1 hX1.fr hX.f6 hfit hcap hM).mono ?_
    rintro e w' ⟨he, hw⟩
    have hP := hsol ((hw.pre hb1).pq O) (fun j hj => by
      rw [hX.sol j hj]
      unfold sampD
      rw [if_neg (by omega), if_pos hk])
    exact ⟨he, hP, hEk hP.k, .inr (.inl ⟨hk, cb, rfl, h1, hFk hP.k h1 h2, h3⟩)⟩
  · left
    refine ⟨ev, _, rfl, aplay_gain s _ _ _ w _ ?_⟩
    have hm := hX.mny.1 (.inl hk)
    have hmem : d.frm.getD 0 0 ∈ now d := by rw [now_frm (by omega)]; exact mem_f0 (by omega)
    have hq := hX1.hdq hmem
    have hv := (hX.hd _ hmem).2.2.2.2
    refine (gain_any s d.x cb cx (f0 d) (i * s.L) n ((s.N - i) * s.L) (f0 d * s.L) ((s.N - f0 d) * s.L) (s.N * s.L) f _ (Fi.keepC hb1 (lt_cell h2) h2) (Fi.keepC hb1 (lt_cell h3) h3) (hX.FA cx h1x).1 hq.lt hq.m hq.c hq.f hq.d hX1.fr hX.f6 hfit hcap hM).mono ?_
    rintro e w' ⟨he, hw⟩
    have hP := hsol ((hw.pre hb1).pq O) (fun j hj => by
      rw [hX.sol j hj]
      unfold sampD
      rw [if_neg (by omega), if_neg (by omega), if_pos hk]
      have := hv j hj
      unfold f0
      rw [this])
    exact ⟨he, hP, hEk hP.k, .inr (.inr (.inl ⟨hk, cb, cx, rfl, h1, h1x, hFk hP.k h1 h2, hFk hP.k h1x h3, h4⟩))⟩
  · left
    refine ⟨ev, _, rfl, aplay_steady s _ _ w _ ?_⟩
    refine (steady_any s 0 cb (i * s.L) n ((s.N - i) * s.L) (s.N * s.L) f _ (Fi.keepC hb1 (lt_cell h2) h2) (by decide) (hX.FA cb h1).1 hX1.fr hX.f6 hfit hcap hM).mono ?_
    rintro e w' ⟨he, hw⟩
    have hP := hsol ((hw.pre hb1).pq O) (fun j hj => by
      rw [hX.sol j hj]
      unfold sampD
      rw [if_neg (by omega), if_neg (by omega), if_neg (by omega), if_pos hk, h0]
      exact (show ab 0 = some 0 by decide))
    exact ⟨he, hP, hEk hP.k, .inr (.inr (.inr (.inl ⟨hk, h0, cb, rfl, h1, hFk hP.k h1 h2⟩)))⟩
  · left
    refine ⟨ev, _, rfl, aplay_mix s _ _ w _ ?_⟩
    have hE1 := hE.keep (F' := F) (w' := _) (fun b _ hl => hb1.block b hl) hb1.size (fun _ h _ => h)
    obtain ⟨eo, ec, he, he1, he2, he3⟩ := hE1.ex
    have hlen : 0 < d.frm.length := List.length_pos_iff.2 h0
    obtain ⟨m, hm⟩ : ∃ m, d.frm.length = m + 1 := ⟨d.frm.length - 1, by omega⟩
    have h2' := Fi.keepC hb1 (lt_cell h2) h2
    rw [he, hm] at h2'
    have hnf : now d = d.frm := now_frm (by omega)
    refine (mix_any s cb m ec (i * s.L) n ((s.N - i) * s.L) (s.N * s.L) eo d.frm (fun k => k * s.L) (fun k => (s.N - k) * s.L) f _ h2' (hX.FA cb h1).1 hX.mA hm (by omega) he2 F (fun b hb => (hX.FA b hb).1) he3 (fun x hx => ⟨(hX.hd x (by rw [hnf]; exact hx)).1, hX1.hdq (by rw [hnf]; exact hx)⟩) hX1.fr hX.f6 hfit hcap hM).mono ?_
    rintro e w' ⟨he', hw⟩
    have hP := hsol ((hw.pre hb1).pq O) (fun j hj => by
      rw [hX.sol j hj]
      unfold sampD
      rw [if_neg (by omega), if_neg (by omega), if_neg (by omega), if_pos hk]
      have e0 : mixs (fun k j => ab (f (k * s.L + j))) j d.frm = mixs (fun k t => V k (T + t)) j d.frm := mixs_congr (fun k hk' => (hX.hd k (by rw [hnf]; exact hk')).2.2.2.2 j hj)
      rw [e0]
      cases d.frm with
      | nil => rfl
      | cons a l => rfl)
    exact ⟨he', hP, hEk hP.k, .inr (.inr (.inr (.inr (.inl ⟨hk, h0, cb, rfl, h1, hFk hP.k h1 h2⟩))))⟩
  · left
    refine ⟨ev, _, rfl, aplay_times s _ _ _ w _ ?_⟩
    have hm := hX.mny.2.1 hk
    have hmem0 : d.frm.getD 0 0 ∈ now d := by rw [now_frm (by omega)]; exact mem_f0 (by omega)
    have hmem1 : d.frm.getD 1 0 ∈ now d := by rw [now_frm (by omega)]; exact mem_f1 (by omega)
    have hq0 := hX1.hdq hmem0
    have hq1 := hX1.hdq hmem1
    have hv0 := (hX.hd _ hmem0).2.2.2.2
    have hv1 := (hX.hd _ hmem1).2.2.2.2
    refine (times_any s cb cx (f0 d) (f1 d) (i * s.L) n ((s.N - i) * s.L) (f0 d * s.L) ((s.N - f0 d) * s.L) (f1 d * s.L) ((s.N - f1 d) * s.L) (s.N * s.L) f _ (Fi.keepC hb1 (lt_cell h2) h2) (Fi.keepC hb1 (lt_cell h3) h3) (hX.FA cx h1x).1 hX.mA hq0.lt hq1.lt hq0.m hq1.m hq0.c hq1.c hq0.f hq1.f hq0.d hq1.d hX1.fr hX.f6 hfit hcap hM).mono ?_
    rintro e w' ⟨he, hw⟩
    have hP := hsol ((hw.pre hb1).pq O) (fun j hj => by
      rw [hX.sol j hj]
      unfold sampD
      rw [if_neg (by omega), if_neg (by omega), if_neg (by omega), if_neg (by omega), if_pos hk]
      have := hv0 j hj
      have := hv1 j hj
      unfold f0 f1
      simp only [*])
    exact ⟨he, hP, hEk hP.k, .inr (.inr (.inr (.inr (.inr (.inl ⟨hk, cb, cx, rfl, h1, h1x, hFk hP.k h1 h2, hFk hP.k h1x h3⟩)))))⟩
  · right; left
    refine ⟨b, rfl, ?_⟩
    have hnD := hX.dl hk
    rw [h4] at hnD
    refine (dplay_any s b h D p (i * s.L) n ((s.N - i) * s.L) (s.N * s.L) ev g f w h3 (hX.OA b h1).1 (hX.OA h h2).1 hX.fr hX.f6 hfit hcap hcm (by omega)).mono ?_
    rintro e w' ⟨he, hw⟩
    have hP := hsol (hw.pq O) (fun j hj => by
      rw [hX.sol j hj]
      unfold sampD
      rw [if_neg (by omega), if_neg (by omega), if_neg (by omega), if_neg (by omega), if_neg (by omega), if_pos hk, h5 j (by omega), h4]
      congr 1
      )
    have hb := hw.k.block b (lt_cell h3.c0) (hX.OA b h1).1
    have hh := hw.k.block h (World.rowIs.lt h3.fr) (hX.OA h h2).1
    have htp : tp d T n = T := if_pos hk
    exact ⟨he, hP, hEk hP.k, .inr (.inr (.inr (.inr (.inr (.inr (.inl ⟨hk, b, h, D, p, g, rfl, h1, h2, h3.keep hb hh, h4, by rw [htp]; exact h5⟩))))))⟩
  · right; right; left
    refine ⟨ev, b, rfl, ?_⟩
    have hm := hX.mny.1 (.inr (.inr hk))
    have hnf : now d = d.frm := now_frm (by omega)
    have hmem : d.frm.getD 0 0 ∈ now d := by rw [hnf]; exact mem_f0 (by omega)
    have hq := hX.hdq hmem
    have hv := (hX.hd _ hmem).2.2.2.2
    obtain ⟨eo, ec, he, he1, he2, he3⟩ := hE.ex
    rw [hm] at he he1
    rw [f0_one hm (fun k hk' => (hX.hd k (by rw [hnf]; exact hk')).1)] at he3
    subst he
    refine (splay_any s b (f0 d) (i * s.L) n ((s.N - i) * s.L) (f0 d * s.L) ((s.N - f0 d) * s.L) (s.N * s.L) T i ec eo F d.c V f w h2 he3 he1 (hX.OA b h1).1 hX.mA (fun e => (hX.OA b h1).2.1 e.symm) (fun b' hb' => (hX.FA b' hb').1) (fun b' hb' e => (hX.OA b h1).2.2 (e ▸ hb')) hq.m hq.lt hq.f hq.c (cap_max hX.lN hX.lL) (fun j hj => ?_) hv hX.fr hX.f6 hfit hcap hM).mono ?_
    · rw [hX.sol j hj]
      unfold sampD
      rw [if_neg (by omega), if_neg (by omega), if_neg (by omega), if_neg (by omega), if_neg (by omega), if_neg (by omega), if_pos hk]
    · rintro e w' ⟨he', hw, hFL⟩
      have hP : Pq w s.A (s.N * s.L) (i * s.L) n f (fun j => V i (T + j)) O w' := ⟨hw.ex, hw.k.mono (fun k _ q => q.imp id (fun e => by rw [e]; exact h1))⟩
      have htp : tp d T n = T + n := if_neg (by omega)
      exact ⟨he', hP, hEk hP.k, .inr (.inr (.inr (.inr (.inr (.inr (.inr (.inl ⟨hk, b, rfl, h1, by rw [htp]; exact hFL⟩)))))))⟩
  · right; right; right
    refine ⟨b, rfl, ?_⟩
    refine (gplay_any hC s b vb (i * s.L) n ((s.N - i) * s.L) (s.N * s.L) T ev d.p f w h3 (hX.OA b h1).1 (hX.OA vb h2).1 hX.bd hX.fr hX.f6 hfit hcap hM).mono ?_
    rintro e w' ⟨he', hw, hG⟩
    have hP0 : Pq w s.A (s.N * s.L) (i * s.L) n f (fun j => some (Vo.S d.p none (T + j))) O w' := ⟨hw.ex, hw.k.mono (fun k _ q => q.imp id (fun e => by rw [e]; exact h2))⟩
    have hP := hsol hP0 (fun j hj => by
      rw [hX.sol j hj]
      unfold sampD
      rw [if_neg (by omega), if_neg (by omega), if_neg (by omega), if_neg (by omega), if_neg (by omega), if_neg (by omega), if_neg (by omega), if_pos hk])
    have htp : tp d T n = T + n := if_neg (by omega)
    exact ⟨he', hP, hEk hP.k, .inr (.inr (.inr (.inr (.inr (.inr (.inr (.inr ⟨hk, b, vb, rfl, h1, h2, by rw [htp]; exact hG⟩)))))))⟩
end Go.Proofs.Ytjpcebnbkdekkaa.Gh

/- A node hears late; it forgets; how far all tell ahead. -/
namespace Go.Proofs.Ytjpcebnbkdekkaa.Gh
open Go.RowKit Go.Maps Go.Sort Fl
set_option linter.unusedVariables false
set_option linter.unusedSimpArgs false

theorem NodeL.keep {w w' : World} {F O O' : Nat → Prop} {V : Hist} {T i : Nat} {d : Nd} {ev v : Value} (h : NodeL w F O V T i d ev v) (hk : ∀ b, (F b ∨ O b) → b < w.heap.size → w'.heap[b]? = w.heap[b]?) (hz : w.heap.size ≤ w'.heap.size) (hO : ∀ b, O b → O' b) : NodeL w' F O' V T i d ev v := by
  have hc : ∀ {b : Nat} {u : Value}, F b → w.cell? ⟨b, 0, none⟩ = some u → w'.cell? ⟨b, 0, none⟩ = some u := fun hb hu => (World.cell?_of_block (w := w) (w' := w') (a := ⟨_, 0, none⟩) (hk _ (.inl hb) (lt_cell hu))).trans hu
  refine ⟨h.e.keep (fun b hb hl => hk b (.inl hb) hl) hz (fun _ h _ => h), ?_⟩
  rcases h.k with ⟨hk', cb, rfl, h1, h2⟩ | ⟨hk', cb, rfl, h1, h2, h3⟩ | ⟨hk', cb, cx, rfl, h1, h1x, h2, h3, h4⟩ | ⟨hk', h0, cb, rfl, h1, h2⟩ | ⟨hk', h0, cb, rfl, h1, h2⟩ | ⟨hk', cb, cx, rfl, h1, h1x, h2, h3⟩ | ⟨hk', b, hh, D, p, g, rfl, h1, h2, h3, h4, h5⟩ | ⟨hk', b, rfl, h1, h2⟩ | ⟨hk', b, vb, rfl, h1, h2, h3⟩
  · exact .inl ⟨hk', cb, rfl, h1, hc h1 h2⟩
  · exact .inr (.inl ⟨hk', cb, rfl, h1, hc h1 h2, h3⟩)
  · exact .inr (.inr (.inl ⟨hk', cb, cx, rfl, h1, h1x, hc h1 h2, hc h1x h3, h4⟩))
  · exact .inr (.inr (.inr (.inl ⟨hk', h0, cb, rfl, h1, hc h1 h2⟩)))
  · exact .inr (.inr (.inr (.inr (.inl ⟨hk', h0, cb, rfl, h1, hc h1 h2⟩))))
  · exact .inr (.inr (.inr (.inr (.inr (.inl ⟨hk', cb, cx, rfl, h1, h1x, hc h1 h2, hc h1x h3⟩)))))
  · exact .inr (.inr (.inr (.inr (.inr (.inr (.inl ⟨hk', b, hh, D, p, g, rfl, hO _ h1, hO _ h2, h3.keep (hk b (.inr h1) (lt_cell h3.c0)) (hk hh (.inr h2) (World.rowIs.lt h3.fr)), h4, h5⟩))))))
  · exact .inr (.inr (.inr (.inr (.inr (.inr (.inr (.inl ⟨hk', b, rfl, hO _ h1, h2.keep (hk b (.inr h1) h2.lt) hz⟩)))))))
  · exact .inr (.inr (.inr (.inr (.inr (.inr (.inr (.inr ⟨hk', b, vb, rfl, hO _ h1, hO _ h2, h3.keep (hk b (.inr h1) (lt_cell h3.c0)) (h3.v.keep (hk vb (.inr h2) h3.v.lt) hz)⟩)))))))
theorem NodeL.bel {w w' : World} {F O : Nat → Prop} {V : Hist} {T i : Nat} {d : Nd} {ev v : Value} (h : NodeL w F O V T i d ev v) (hb : Below w.heap.size w w') : NodeL w' F O V T i d ev v := h.keep (fun b _ hl => hb.block b hl) hb.size (fun _ h => h)
/-- What is simple does not hang on time, nor on what was made. -/
theorem NodeL.time {w : World} {F O : Nat → Prop} {V V' : Hist} {T T' i : Nat} {d : Nd} {ev fv : Value} (h : NodeL w F O V T i d ev (simV ev fv)) : NodeL w F O V' T' i d ev (simV ev fv) := by
  refine ⟨h.e, ?_⟩
  rcases h.k with q | q | q | q | q | q | ⟨hk', b, hh, D, p, g, hv, _⟩ | ⟨hk', b, hv, _⟩ | ⟨hk', b, vb, hv, _⟩
  · exact .inl q
  · exact .inr (.inl q)
  · exact .inr (.inr (.inl q))
  · exact .inr (.inr (.inr (.inl q)))
  · exact .inr (.inr (.inr (.inr (.inl q))))
  · exact .inr (.inr (.inr (.inr (.inr (.inl q)))))
  · cases hv
  · cases hv
  · cases hv
theorem NodeL.sim6 {w : World} {F O : Nat → Prop} {V : Hist} {T i : Nat} {d : Nd} {ev fv : Value} (h : NodeL w F O V T i d ev (simV ev fv)) : d.kind ≠ 6 := by
  rcases h.k with ⟨q, _⟩ | ⟨q, _⟩ | ⟨q, _⟩ | ⟨q, _⟩ | ⟨q, _⟩ | ⟨q, _⟩ | ⟨hk', b, hh, D, p, g, hv, _⟩ | ⟨hk', b, hv, _⟩ | ⟨hk', b, vb, hv, _⟩
  all_goals first | omega | cases hv
/-- Four makes of a node. -/
theorem NodeL.four {w : World} {F O : Nat → Prop} {V : Hist} {T i : Nat} {d : Nd} {ev v : Value} (h : NodeL w F O V T i d ev v) :
    (∃ fv, v = simV ev fv) ∨ (d.kind = 6 ∧ ∃ b h D p g, v = .iface 111 (pt b) ∧ O b ∧ O h ∧ DL w b h D p ev g ∧ d.n = D ∧ ∀ j, j < D → ab (g ((p + j) % D)) = pv V (f0 d) ((T : Int) + j - D)) ∨
    (d.kind = 7 ∧ ∃ b, v = .iface 128 (.agg #[ev, pt b]) ∧ O b ∧ Fi.FL w b d.c (fst' V (f0 d) i T)) ∨ (d.kind = 8 ∧ ∃ b vb, v = .iface 132 (pt b) ∧ O b ∧ O vb ∧ GL w b vb T d.p ev) := by
  rcases h.k with ⟨_, cb, rfl, _⟩ | ⟨_, cb, rfl, _⟩ | ⟨_, cb, cx, rfl, _⟩ | ⟨_, _, cb, rfl, _⟩ | ⟨_, _, cb, rfl, _⟩ | ⟨_, cb, cx, rfl, _⟩ | q | q | q
  · exact .inl ⟨_, rfl⟩
  · exact .inl ⟨_, rfl⟩
  · exact .inl ⟨_, rfl⟩
  · exact .inl ⟨_, rfl⟩
  · exact .inl ⟨_, rfl⟩
  · exact .inl ⟨_, rfl⟩
  · exact .inr (.inl q)
  · exact .inr (.inr (.inl q))
  · exact .inr (.inr (.inr q))
set_option maxHeartbeats 2000000 in
theorem hlate_any (s : Sx) (F O : Nat → Prop) (n i T : Nat) (f : Nat → Nat) (d : Nd) (V : Hist) (ev v : Value) (w : World) (hN : NodeL w F O V (tp d T n) i d ev v) (hFA : ∀ b, F b → b ≠ s.A) (hOA : ∀ b, O b → b ≠ s.A ∧ ¬ F b) (hF : Fi.FR w s.A (s.N * s.L) f) (hf : ∀ j, f j < 18446744073709551616)
    (hm : many d) (hp : ∀ k ∈ d.frm, 0 ≤ k ∧ k.toNat < s.N) (hN2 : s.N ≤ 256) (hL : s.L ≤ 512) (hn : n ≤ s.L) (hdl : d.kind = 6 → (n : Int) ≤ d.n) (hh : d.kind = 6 → w.cell? ⟨s.mb, f0 d, none⟩ = some (.slice (some ⟨s.A, f0 d * s.L, none⟩) n ((s.N - f0 d) * s.L)) ∧ ∀ j, j < n → ab (f (f0 d * s.L + j)) = V (f0 d) (T + j)) :
    Calls Try.prog 40 #[v, sv s] w fun e w' => e = .returned (.tuple #[]) ∧ NodeL w' F O V (T + n) i d ev v ∧ Kx O w w' := by
  have a1 := late_no1
  have a2 := late_no2
  have a3 := late_no3
  have a4 := late_yes
  have HB : Hid (Below w.heap.size w (w.alloc (Obj.cells #[.slice s.io s.il s.ic, .int .i64 s.t, .slice (some ⟨s.mb, 0, none⟩) s.N s.N] 82))) := (sbox s w).1
  rcases hN.four with ⟨fv, rfl⟩ | ⟨hk, b, h, D, p, g, rfl, h1, h2, h3, h4, h5⟩ | ⟨hk, b, rfl, h1, h2⟩ | ⟨hk, b, vb, rfl, h1, h2, h3⟩
  · have HN : Hid (NodeL (w.alloc (Obj.cells #[.slice s.io s.il s.ic, .int .i64 s.t, .slice (some ⟨s.mb, 0, none⟩) s.N s.N] 82)) F O V (T + n) i d ev (simV ev fv)) := (hN.bel HB.out).time
    clear hN hFA hOA hF hf hh
    go_enter Try.func40, Try.ntmps40
    go_wp2_with (simp only [a1])
    go_end0
    exact ⟨rfl, HN.out, Kx.bel HB.out⟩
  · obtain ⟨hm1, hm2⟩ := hh hk
    have hlen := hm.1 (.inr (.inl hk))
    obtain ⟨eo, ec, he, he1, he2, he3⟩ := hN.e.ex
    have hE := hN.e
    rw [hlen] at he he1
    rw [f0_one hlen (fun k hk' => (hp k hk').1)] at he3
    subst he
    have hb1 := HB.out
    have htp : tp d T n = T := if_pos hk
    rw [htp] at h5
    have hnD := hdl hk
    rw [h4] at hnD
    have hfo : f0 d < s.N := (hp _ (mem_f0 (by omega))).2
    have hq := fun w' (hb' : Below w.heap.size w w') => hear_any s b h D p n (f0 d * s.L) ((s.N - f0 d) * s.L) (s.N * s.L) (f0 d) ec eo F g f w' (h3.bel hb') he1 (he3.bel hb') (hOA b h1).1 (hOA h h2).1 (World.rowIs.of_block hF (hb'.block _ (World.rowIs.lt hF))) hf (Fi.keepC hb' (lt_cell hm1) hm1) hfo (seg_fit hfo hn) (seg_cap hfo hn) (cap_max hN2 hL) (by omega)
    have HQ : Hid (∀ w' w'', Below w.heap.size w w' → HeQ w' b h D p n (.slice eo 1 ec) g (fun j => f (f0 d * s.L + j)) w'' → NodeL w'' F O V (T + n) i d (.slice eo 1 ec) (.iface 111 (pt b)) ∧ Kx O w w'') := fun w' w'' hb' hQ => by
      obtain ⟨g', g1, g2⟩ := hQ.ex
      have hK : Kx O w w'' := (Kx.bel hb').trans (hQ.k.mono (fun k _ q => q.elim (fun e => by rw [e]; exact h1) (fun e => by rw [e]; exact h2)))
      refine ⟨⟨hE.keep (fun k hk' hl => hK.block k hl (fun q => (hOA k q).2 hk')) hK.size (fun _ h _ => h), .inr (.inr (.inr (.inr (.inr (.inr (.inl ⟨hk, b, h, D, (p + n) % D, g', rfl, h1, h2, g1, h4, fun j hj => ?_⟩))))))⟩, hK⟩
      rw [g2 j hj]
      by_cases c : j + n < D
      · rw [if_pos c, h5 (j + n) c]
        congr 1; omega
      · rw [if_neg c]
        show ab (f (f0 d * s.L + (j + n - D))) = _
        rw [hm2 (j + n - D) (by omega), pv_pos _ _ (by omega)]
        congr 1; omega
    clear hN hFA hOA hF hf hh hE h3 h5 hm1 hm2 hp he3
    go_enter Try.func40, Try.ntmps40
    go_wp2_with (simp only [a4])
    refine (hq _ HB.out).mono ?_
    rintro e w1 ⟨rfl, hQ⟩
    have HR := HQ.out _ _ HB.out hQ
    have HR' : Hid (NodeL w1 F O V (T + n) i d (.slice eo 1 ec) (.iface 111 (pt b)) ∧ Kx O w w1) := HR
    clear HR hQ
    go_wp2_with fail
    go_end0
    exact ⟨rfl, HR'.out.1, HR'.out.2⟩
  · have htp : tp d T n = T + n := if_neg (by omega)
    rw [htp] at hN
    have HN : Hid (NodeL (w.alloc (Obj.cells #[.slice s.io s.il s.ic, .int .i64 s.t, .slice (some ⟨s.mb, 0, none⟩) s.N s.N] 82)) F O V (T + n) i d ev (.iface 128 (.agg #[ev, pt b]))) := hN.bel HB.out
    clear hN hFA hOA hF hf hh h2
    go_enter Try.func40, Try.ntmps40
    go_wp2_with (simp only [a2])
    go_end0
    exact ⟨rfl, HN.out, Kx.bel HB.out⟩
  · have htp : tp d T n = T + n := if_neg (by omega)
    rw [htp] at hN
    have HN : Hid (NodeL (w.alloc (Obj.cells #[.slice s.io s.il s.ic, .int .i64 s.t, .slice (some ⟨s.mb, 0, none⟩) s.N s.N] 82)) F O V (T + n) i d ev (.iface 132 (pt b))) := hN.bel HB.out
    clear hN hFA hOA hF hf hh h3
    go_enter Try.func40, Try.ntmps40
    go_wp2_with (simp only [a3])
    go_end0
    exact ⟨rfl, HN.out, Kx.bel HB.out⟩
/-- What forget leaves. -/
structure FgQ (w : World) (F O : Nat → Prop) (i : Nat) (d : Nd) (ev v : Value) (w' : World) : Prop where
  ex : ∃ O' : Nat → Prop, (∀ b, O b → O' b) ∧ (∀ b, O' b → O b ∨ (w.heap.size ≤ b ∧ b < w'.heap.size)) ∧ ∀ V', NodeL w' F O' V' 0 i d ev v
  k : Kx O w w'
set_option maxHeartbeats 2000000 in
theorem forget_any (hC : Vo.CirC) (F O : Nat → Prop) (i T : Nat) (d : Nd) (V : Hist) (ev v : Value) (w : World) (hN : NodeL w F O V T i d ev v) (hOF : ∀ b, O b → ¬ F b) :
    Calls Try.prog 25 #[v] w fun e w' => e = .returned (.tuple #[]) ∧ FgQ w F O i d ev v w' := by
  have a1 := rest_no
  have a2 := rest_yes1
  have a3 := rest_yes2
  have a4 := rest_yes3
  have hE := hN.e
  rcases hN.four with ⟨fv, rfl⟩ | ⟨hk, b, h, D, p, g, rfl, h1, h2, h3, h4, h5⟩ | ⟨hk, b, rfl, h1, h2⟩ | ⟨hk, b, vb, rfl, h1, h2, h3⟩
  · have HQ : Hid (FgQ w F O i d ev (simV ev fv) w) := ⟨⟨O, fun _ h => h, fun _ h => .inl h, fun V' => hN.time⟩, Kx.refl _ _⟩
    clear hN hC hOF hE
    go_enter Try.func25, Try.ntmps25
    go_wp2_with (simp only [a1])
    go_end0
    exact ⟨rfl, HQ.out⟩
  · have hq := drest_any b h D p ev g w h3
    have HQ : Hid (∀ w', DL w' b h D 0 ev (fun _ => 0) → Kx (fun k => k = b ∨ k = h) w w' → FgQ w F O i d ev (.iface 111 (pt b)) w') := fun w' hD hK => by
      have hK' : Kx O w w' := hK.mono (fun k _ q => q.elim (fun e => by rw [e]; exact h1) (fun e => by rw [e]; exact h2))
      refine ⟨⟨O, fun _ h => h, fun _ h => .inl h, fun V' => ⟨hE.keep (fun k hk' hl => hK'.block k hl (fun q => hOF k q hk')) hK'.size (fun _ h _ => h), .inr (.inr (.inr (.inr (.inr (.inr (.inl ⟨hk, b, h, D, 0, _, rfl, h1, h2, hD, h4, fun j hj => ?_⟩))))))⟩⟩, hK'⟩
      rw [pv_neg _ _ (by omega)]
      decide
    clear hN hC hOF hE h5 h3
    go_enter Try.func25, Try.ntmps25
    go_wp2_with (simp only [a2])
    refine hq.mono ?_
    rintro e w1 ⟨rfl, hD, hK⟩
    have HR : Hid (FgQ w F O i d ev (.iface 111 (pt b)) w1) := HQ.out w1 hD hK
    clear hD hK HQ
    go_wp2_with fail
    go_end0
    exact ⟨rfl, HR.out⟩
  · have hq := Fi.Rest_any d.c (fst' V (f0 d) i T) b w h2
    have HQ : Hid (∀ w', Fi.FL w' b d.c Fi.rest0 → Fi.Kn w b w.heap.size w' → FgQ w F O i d ev (.iface 128 (.agg #[ev, pt b])) w') := fun w' hD hK => by
      have hK' : Kx O w w' := (Kx.kn hK).mono (fun k _ e => by rw [e]; exact h1)
      refine ⟨⟨O, fun _ h => h, fun _ h => .inl h, fun V' => ⟨hE.keep (fun k hk' hl => hK'.block k hl (fun q => hOF k q hk')) hK'.size (fun _ h _ => h), .inr (.inr (.inr (.inr (.inr (.inr (.inr (.inl ⟨hk, b, rfl, h1, hD⟩)))))))⟩⟩, hK'⟩
    clear hN hC hOF hE h2
    go_enter Try.func25, Try.ntmps25
    go_wp2_with (simp only [a3])
    refine hq.mono ?_
    rintro e w1 ⟨rfl, hD, hK⟩
    have HR : Hid (FgQ w F O i d ev (.iface 128 (.agg #[ev, pt b])) w1) := HQ.out w1 hD hK
    clear hD hK HQ
    go_wp2_with fail
    go_end0
    exact ⟨rfl, HR.out⟩
  · have hq := grest_any hC b vb T d.p ev w h3
    have HQ : Hid (∀ w' vb', w.heap.size ≤ vb' → vb' < w'.heap.size → GL w' b vb' 0 d.p ev → Kx (· = b) w w' → FgQ w F O i d ev (.iface 132 (pt b)) w') := fun w' vb' hv1 hv2 hG hK => by
      have hK' : Kx O w w' := hK.mono (fun k _ e => by rw [e]; exact h1)
      refine ⟨⟨fun k => O k ∨ k = vb', fun _ h => .inl h, fun k q => q.imp id (fun e => by omega), fun V' => ⟨hE.keep (fun k hk' hl => hK'.block k hl (fun q => hOF k q hk')) hK'.size (fun _ h _ => h), .inr (.inr (.inr (.inr (.inr (.inr (.inr (.inr ⟨hk, b, vb', rfl, .inl h1, .inr rfl, hG⟩)))))))⟩⟩, hK'⟩
    clear hN hC hOF hE h3
    go_enter Try.func25, Try.ntmps25
    go_wp2_with (simp only [a4])
    refine hq.mono ?_
    rintro e w1 ⟨rfl, vb', hv1, hv2, hG, hK⟩
    have HR : Hid (FgQ w F O i d ev (.iface 132 (pt b)) w1) := HQ.out w1 vb' hv1 hv2 hG hK
    clear hG hK HQ hv1 hv2
    go_wp2_with fail
    go_end0
    exact ⟨rfl, HR.out⟩
end Go.Proofs.Ytjpcebnbkdekkaa.Gh

/- All nodes in memory: how many samples can be made at once; room for what they make. -/
namespace Go.Proofs.Ytjpcebnbkdekkaa.Gh
open Go.RowKit Go.Maps Go.Sort Fl
set_option linter.unusedVariables false
set_option linter.unusedSimpArgs false

/-- All nodes in memory. -/
structure NR (w : World) (F : Nat → Prop) (O : Nat → Nat → Prop) (V : Hist) (τ : Nat → Nat) (ds : List Nd) (no : Option Addr) : Prop where
  at' : ∀ i d, ds[i]? = some d → ∃ nb ev v, no = some ⟨nb, 0, none⟩ ∧ F nb ∧ w.cell? ⟨nb, i, none⟩ = some v ∧ NodeL w F (O i) V (τ i) i d ev v
theorem NR.keep {w w' : World} {F : Nat → Prop} {O : Nat → Nat → Prop} {V : Hist} {τ : Nat → Nat} {ds : List Nd} {no : Option Addr} (h : NR w F O V τ ds no) (hk : ∀ b, (F b ∨ ∃ i, O i b) → b < w.heap.size → w'.heap[b]? = w.heap[b]?) (hz : w.heap.size ≤ w'.heap.size) : NR w' F O V τ ds no := ⟨fun i d hd => by
  obtain ⟨nb, ev, v, h1, h2, h3, h4⟩ := h.at' i d hd
  exact ⟨nb, ev, v, h1, h2, (World.cell?_of_block (w := w) (w' := w') (a := ⟨nb, i, none⟩) (hk nb (.inl h2) (lt_cell h3))).trans h3, h4.keep (fun b hb hl => hk b (hb.imp id (fun q => ⟨i, q⟩)) hl) hz (fun _ h => h)⟩⟩
theorem NR.bel {w w' : World} {F : Nat → Prop} {O : Nat → Nat → Prop} {V : Hist} {τ : Nat → Nat} {ds : List Nd} {no : Option Addr} (h : NR w F O V τ ds no) (hb : Below w.heap.size w w') : NR w' F O V τ ds no := h.keep (fun b _ hl => hb.block b hl) hb.size
set_option maxHeartbeats 2000000 in
theorem atOnce_any (F : Nat → Prop) (O : Nat → Nat → Prop) (V : Hist) (τ : Nat → Nat) (ds : List Nd) (no : Option Addr) (N nc : Nat) (w : World) (hR : NR w F O V τ ds no) (hl : ds.length = N) (hc : N ≤ nc) (hN : N ≤ 256) :
    Calls Try.prog 27 #[.slice no N nc] w fun e w' => ∃ L : Nat, e = .returned (.int .i64 L) ∧ 1 ≤ L ∧ L ≤ 512 ∧ (∀ d ∈ ds, d.kind = 6 → (L : Int) ≤ d.n) ∧ w' = w := by
  have a1 := late_no1
  have a2 := late_no2
  have a3 := late_no3
  have a4 := late_yes
  have HR : Hid (NR w F O V τ ds no) := hR
  have Hl : Hid (ds.length = N) := hl
  clear hR hl
  go_enter Try.func27, Try.ntmps27
  go_wp2_with fail
  go_loopw [10, 3] (fun i o ww => ∃ k L : Nat, k ≤ N ∧ i = .int .i64 k ∧ o = .int .i64 L ∧ ww = w ∧ 1 ≤ L ∧ L ≤ 512 ∧ Hid (∀ (j : Nat) d, j < k → ds[j]? = some d → d.kind = 6 → (L : Int) ≤ d.n)) (fun i _ _ => N - (intOf i).toNat)
  case atStart => exact ⟨0, 512, by omega, rfl, rfl, rfl, by omega, by omega, fun j d hj => absurd hj (by omega)⟩
  case round =>
    obtain ⟨k, L, hk, rfl, rfl, hw, hL1, hL2, hP⟩ := hrel
    subst hw
    by_cases hlt : k < N
    · obtain ⟨d, hd⟩ : ∃ d, ds[k]? = some d := ⟨_, List.getElem?_eq_getElem (by rw [Hl.out]; exact hlt)⟩
      obtain ⟨nb, ev, v, rfl, h1, h2, h3⟩ := HR.out.at' k d hd
      have hlt' : (k : Int) < (N : Int) := by omega
      have w3 : IntKind.i64.wrap ((k : Int) + 1) = (k : Int) + 1 := wid (by omega) (by omega)
      have lnb := lt_cell h2
      have HN : Hid (∀ L' : Nat, L' ≤ L → (d.kind = 6 → (L' : Int) ≤ d.n) → ∀ (j : Nat) d, j < k + 1 → ds[j]? = some d → d.kind = 6 → (L' : Int) ≤ d.n) := fun L' hL' h6 j d' hj hd' hk6 => by
        by_cases e : j = k
        · subst e
          rw [hd] at hd'
          cases hd'
          exact h6 hk6
        · have := hP.out j d' (by omega) hd' hk6
          omega
      rcases h3.four with ⟨fv, rfl⟩ | ⟨hk6, b, h, D, p, g, rfl, hO1, hO2, hD, hDn, hD5⟩ | ⟨hk6, b, rfl, _⟩ | ⟨hk6, b, vb, rfl, _⟩
      · have HN2 : Hid (∀ (j : Nat) d, j < k + 1 → ds[j]? = some d → d.kind = 6 → (L : Int) ≤ d.n) := HN.out L (Nat.le_refl _) (fun q => absurd q h3.sim6)
        clear h3 hd HN hP
        go_wp2_with (simp only [a1])
        exact ⟨⟨k + 1, L, by omega, by go_num, (by first | exact rfl | trivial), (by first | exact rfl | trivial), hL1, hL2, HN2⟩, by simp [intOf]; omega⟩
      · have hq := ahead_any b h D p ev g wr hD
        have hD0 := hD.lt
        have hDm := hD.mx
        have HN2 : Hid (∀ (j : Nat) d, j < k + 1 → ds[j]? = some d → d.kind = 6 → ((min L D : Nat) : Int) ≤ d.n) := HN.out (min L D) (by omega) (fun _ => by omega)
        have hmin : min (L : Int) (D : Int) = ((min L D : Nat) : Int) := by omega
        clear h3 hd HN hP hD hD5
        go_wp2_with (simp only [a4])
        refine hq.mono ?_
        rintro e w1 ⟨rfl, hw⟩
        rw [hw]
        clear hq hw
        go_wp2_with fail
        exact ⟨⟨k + 1, min L D, by omega, by go_num, by congr 1; split <;> omega, (by first | exact rfl | trivial), by omega, by omega, HN2⟩, by simp [intOf]; omega⟩
      · have HN2 : Hid (∀ (j : Nat) d, j < k + 1 → ds[j]? = some d → d.kind = 6 → (L : Int) ≤ d.n) := HN.out L (Nat.le_refl _) (fun q => by omega)
        clear h3 hd HN hP
        go_wp2_with (simp only [a2])
        exact ⟨⟨k + 1, L, by omega, by go_num, (by first | exact rfl | trivial), (by first | exact rfl | trivial), hL1, hL2, HN2⟩, by simp [intOf]; omega⟩
      · have HN2 : Hid (∀ (j : Nat) d, j < k + 1 → ds[j]? = some d → d.kind = 6 → (L : Int) ≤ d.n) := HN.out L (Nat.le_refl _) (fun q => by omega)
        clear h3 hd HN hP
        go_wp2_with (simp only [a3])
        exact ⟨⟨k + 1, L, by omega, by go_num, (by first | exact rfl | trivial), (by first | exact rfl | trivial), hL1, hL2, HN2⟩, by simp [intOf]; omega⟩
    · obtain rfl : k = N := by omega
      have HE : Hid (∀ d ∈ ds, d.kind = 6 → (L : Int) ≤ d.n) := fun d hd hk6 => by
        obtain ⟨j, hj, e⟩ := List.getElem_of_mem hd
        exact hP.out j d (by have := Hl.out; omega) (by rw [List.getElem?_eq_getElem hj, e]) hk6
      go_wp2_with fail
      go_ret
      exact ⟨L, rfl, hL1, hL2, HE.out, rfl⟩
/-- Are there so many lists, each so long? -/
def fitB (ins : Int) (P : List (List Nat)) (n : Int) : Bool := decide ((P.length : Int) = ins) && P.all (fun l => decide ((l.length : Int) = n))
theorem fitB_no {ins : Int} {P : List (List Nat)} {n : Int} {k : Nat} {l : List Nat} (h : P[k]? = some l) (hl : (l.length : Int) ≠ n) : fitB ins P n = false := by
  cases hc : fitB ins P n with
  | false => rfl
  | true =>
    unfold fitB at hc
    simp only [Bool.and_eq_true, List.all_eq_true, decide_eq_true_eq] at hc
    exact absurd (hc.2 l (List.mem_of_getElem? h)) hl
theorem fitB_yes {ins : Int} {P : List (List Nat)} {n : Int} (h1 : (P.length : Int) = ins) (h2 : ∀ (k : Nat) l, P[k]? = some l → (l.length : Int) = n) : fitB ins P n = true := by
  unfold fitB
  simp only [Bool.and_eq_true, List.all_eq_true, decide_eq_true_eq]
  refine ⟨h1, fun l hl => ?_⟩
  obtain ⟨j, hj, e⟩ := List.getElem_of_mem hl
  exact h2 j l (by rw [List.getElem?_eq_getElem hj, e])
theorem fitB_is {ins : Int} {P : List (List Nat)} {n : Int} (h : fitB ins P n = true) : (P.length : Int) = ins ∧ ∀ l ∈ P, (l.length : Int) = n := by
  unfold fitB at h
  simpa only [Bool.and_eq_true, List.all_eq_true, decide_eq_true_eq] using h
set_option maxHeartbeats 2000000 in
theorem fits_any (x B m ic : Nat) (ins n : Int) (io : Option Addr) (P : List (List Nat)) (w : World) (hx : w.cell? ⟨x, 0, none⟩ = some (.int .i64 ins)) (hP : Fi.PL w B io P) (hm : P.length = m) (hc : m ≤ ic) (hcm : ic ≤ 9223372036854775807) (hB : B ≤ w.heap.size) :
    Calls Try.prog 26 #[.pointer (some ⟨x, 0, none⟩), .slice io m ic, .int .i64 n] w fun e w' => e = .returned (.bool (fitB ins P n)) ∧ w' = w := by
  have lx := lt_cell hx
  have HP : Hid (Fi.PL w B io P) := hP
  have Hm : Hid (P.length = m) := hm
  have HR : Hid (∀ v, fitB ins P n = v → Ending.returned (.bool v) = .returned (.bool (fitB ins P n))) := fun v h => by rw [h]
  have HN : Hid ((m : Int) ≠ ins → fitB ins P n = false) := fun h => by
    unfold fitB
    rw [hm, decide_eq_false h]; rfl
  have HN2 : Hid (∀ (k : Nat) l, P[k]? = some l → (l.length : Int) ≠ n → fitB ins P n = false) := fun k l h hl => fitB_no h hl
  have HY : Hid ((m : Int) = ins → (∀ (k : Nat) l, P[k]? = some l → (l.length : Int) = n) → fitB ins P n = true) := fun h h2 => fitB_yes (by rw [hm]; exact h) h2
  clear hP hm
  generalize fitB ins P n = FB at *
  by_cases c : (m : Int) = ins
  · go_enter Try.func26, Try.ntmps26
    go_wp2_with fail
    go_loopw [18] (fun i ww => ∃ k : Nat, k ≤ m ∧ i = .int .i64 k ∧ ww = w ∧ Hid (∀ (j : Nat) l, j < k → P[j]? = some l → (l.length : Int) = n)) (fun i _ => m - (intOf i).toNat)
    case atStart => exact ⟨0, by omega, rfl, rfl, fun j l hj => absurd hj (by omega)⟩
    case round =>
      obtain ⟨k, hk, rfl, hw, hA⟩ := hrel
      subst hw
      by_cases hlt : k < m
      · obtain ⟨l, hl⟩ : ∃ l, P[k]? = some l := ⟨_, List.getElem?_eq_getElem (by rw [Hm.out]; exact hlt)⟩
        obtain ⟨b, off, a, cc, rfl, h1, h2, h3, h4⟩ := Fi.PL.at HP.out hl
        have hlt' : (k : Int) < (m : Int) := by omega
        have w3 : IntKind.i64.wrap ((k : Int) + 1) = (k : Int) + 1 := wid (by omega) (by omega)
        have lb := lt_cell h1
        have HA : Hid ((l.length : Int) = n → ∀ (j : Nat) l, j < k + 1 → P[j]? = some l → (l.length : Int) = n) := fun e j l' hj hl' => by
          by_cases ee : j = k
          · subst ee; rw [hl] at hl'; cases hl'; exact e
          · exact hA.out j l' (by omega) hl'
        have HN3 := HN2.out k l hl
        obtain ⟨ln, hln⟩ : ∃ ln, ln = l.length := ⟨_, rfl⟩
        rw [← hln] at h1 h2
        have HA' : Hid ((ln : Int) = n → ∀ (j : Nat) l, j < k + 1 → P[j]? = some l → (l.length : Int) = n) := by rw [hln]; exact HA
        have HN4 : Hid ((ln : Int) ≠ n → FB = false) := by rw [hln]; exact HN3
        clear HA HN3 hln h4 hl hA HN2
        by_cases e : (ln : Int) = n
        · have HA2 : Hid (∀ (j : Nat) l, j < k + 1 → P[j]? = some l → (l.length : Int) = n) := HA'.out e
          clear HA' HN4
          go_wp2_with fail
          exact ⟨⟨k + 1, by omega, by go_num, (by first | exact rfl | trivial), HA2⟩, by simp [intOf]; omega⟩
        · have hF := HN4.out e
          clear HA' HN4
          go_wp2_with fail
          go_ret
          exact ⟨HR.out _ hF, rfl⟩
      · obtain rfl : k = m := by omega
        have hF := HY.out c (fun j l hl => hA.out j l (by have := (List.getElem?_eq_some_iff.1 hl).1; have := Hm.out; omega) hl)
        clear HY HN2 HN
        go_wp2_with fail
        go_ret
        exact ⟨HR.out _ hF, rfl⟩
  · have hF := HN.out c
    clear HY HN2 HN
    go_enter Try.func26, Try.ntmps26
    go_wp2_with fail
    go_ret
    exact ⟨HR.out _ hF, rfl⟩
end Go.Proofs.Ytjpcebnbkdekkaa.Gh

/- Room for what nodes make in a stretch. -/
namespace Go.Proofs.Ytjpcebnbkdekkaa.Gh
open Go.RowKit Go.Maps Go.Sort Fl
set_option linter.unusedVariables false
set_option linter.unusedSimpArgs false

theorem run_upto (la : Option Addr) (m c n : Nat) (h1 : n ≤ c) (w : World) : (Instr.slice 38 (.slice la m c) none (some (.int .i64 (n : Int))) none).run Try.prog w = .ok (.slice la n c) w := by
  have hu : Try.prog.underlying 38 = some (.slice 46) := Try.underlying38
  unfold Instr.slice
  simp [run_underlying hu, Instr.sliceBounds, run_sliceBound, h1, Fi.sizeF]
  intro _
  exact Fi.map_add0 la
/-- Where the list of node k lies. -/
@[reducible] def mvl (A N L : Nat) (len : Nat → Nat) (k : Nat) : Value := .slice (some ⟨A, k * L, none⟩) (len k) ((N - k) * L)
/-- The lists of all nodes. -/
def MR (w : World) (A mb N L : Nat) (len : Nat → Nat) : Prop := w.rowIs mb 38 N (mvl A N L len)
/-- What rooms leaves. -/
structure RmQ (w : World) (N L : Nat) (e : Ending) (w' : World) : Prop where
  ex : e = .returned (.slice (some ⟨w.heap.size + 1, 0, none⟩) N N)
  a : Fi.FR w' w.heap.size (N * L) (fun _ => 0)
  m : MR w' w.heap.size (w.heap.size + 1) N L (fun _ => L)
  b : Below w.heap.size w w'
  z : w'.heap.size = w.heap.size + 2
set_option maxHeartbeats 4000000 in
theorem rooms_any (N L : Nat) (w : World) (hN : N ≤ 256) (hL : L ≤ 512) :
    Calls Try.prog 28 #[.int .i64 N, .int .i64 L] w fun e w' => RmQ w N L e w' := by
  obtain ⟨NL, hNL⟩ : ∃ NL, NL = N * L := ⟨_, rfl⟩
  have hNLb : NL ≤ 131072 := by rw [hNL]; exact Nat.mul_le_mul hN hL
  have hE : (N : Int) * (L : Int) = (NL : Int) := by rw [hNL]; exact (Int.natCast_mul N L).symm
  have mk1 : (Instr.makeSlice 38 (.int .i64 (NL : Int)) (.int .i64 (NL : Int))).run Try.prog w = .ok (.slice (some ⟨w.heap.size, 0, none⟩) NL NL) (w.alloc (.cells (madeCells #[.float .f64 0] NL) 46)) := run_make_row' (P := Try.prog) 38 46 (.float .f64 0) 8 Try.underlying38 Fi.infoF rfl .i64 .i64 NL (by omega) (by omega) w
  have hF1 : Fi.FR (w.alloc (.cells (madeCells #[.float .f64 0] NL) 46)) w.heap.size NL (fun _ => 0) := World.rowIs_made w (.float .f64 0) NL 46
  have hb1 : Below w.heap.size w (w.alloc (.cells (madeCells #[.float .f64 0] NL) 46)) := (Below.refl _ _).alloc (Nat.le_refl _) _
  have hz1 : (w.alloc (.cells (madeCells #[.float .f64 0] NL) 46)).heap.size = w.heap.size + 1 := by simp
  have mk2 : (Instr.makeSlice 32 (.int .i64 (N : Int)) (.int .i64 (N : Int))).run Try.prog (w.alloc (.cells (madeCells #[.float .f64 0] NL) 46)) = .ok (.slice (some ⟨(w.alloc (.cells (madeCells #[.float .f64 0] NL) 46)).heap.size, 0, none⟩) N N) ((w.alloc (.cells (madeCells #[.float .f64 0] NL) 46)).alloc (.cells (madeCells #[.slice none 0 0] N) 38)) := run_make_row' (P := Try.prog) 32 38 (.slice none 0 0) 24 Try.underlying32 Fi.infoFs rfl .i64 .i64 N (by omega) (by omega) _
  obtain ⟨W2, hW2⟩ : ∃ x, x = (w.alloc (.cells (madeCells #[.float .f64 0] NL) 46)).alloc (.cells (madeCells #[.slice none 0 0] N) 38) := ⟨_, rfl⟩
  have HF2 : Hid (Fi.FR W2 w.heap.size NL (fun _ => 0)) := by rw [hW2]; exact World.rowIs.alloc hF1 _
  have HM2 : Hid (W2.rowIs (w.heap.size + 1) 38 N (fun _ => .slice none 0 0)) := by
    have := World.rowIs_made (w.alloc (.cells (madeCells #[.float .f64 0] NL) 46)) (.slice none 0 0) N 38
    rw [hz1] at this
    rw [hW2]; exact this
  have HB2 : Hid (Below w.heap.size w W2) := by rw [hW2]; exact hb1.alloc (by rw [hz1]; omega) _
  have hz2 : W2.heap.size = w.heap.size + 2 := by rw [hW2]; simp
  rw [hz1, ← hW2] at mk2
  have Hmk2 : Hid ((Instr.makeSlice 32 (.int .i64 (N : Int)) (.int .i64 (N : Int))).run Try.prog (w.alloc (.cells (madeCells #[.float .f64 0] NL) 46)) = .ok (.slice (some ⟨w.heap.size + 1, 0, none⟩) N N) W2) := mk2
  have hp2 : (N : Int) * (L : Int) ≤ 9223372036854775807 := by omega
  have hp1 : -9223372036854775808 ≤ (N : Int) * (L : Int) := by omega
  have HNL : Hid (NL = N * L) := hNL
  have hwr : IntKind.i64.wrap (NL : Int) = (NL : Int) := wid (by omega) (by omega)
  clear hF1 hb1 hz1 hW2 mk2 hNL hp1 hp2
  go_enter Try.func28, Try.ntmps28
  go_wp2_with (first | simp only [mk1] | simp only [Hmk2.out])
  clear Hmk2 mk1
  go_loopw [16, 5] (fun i a ww => ∃ k p C : Nat, k ≤ N ∧ i = .int .i64 k ∧ a = .slice (some ⟨w.heap.size, p, none⟩) C C ∧ Hid (C = (N - k) * L ∧ (k < N → p = k * L)) ∧ Hid (ww.rowIs (w.heap.size + 1) 38 N (fun j => if j < k then mvl w.heap.size N L (fun _ => L) j else .slice none 0 0)) ∧ Kx (· = w.heap.size + 1) W2 ww ∧ ww.heap.size = w.heap.size + 2) (fun i _ _ => N - (intOf i).toNat)
  case atStart => exact ⟨0, 0, NL, by omega, rfl, rfl, ⟨by rw [Nat.sub_zero, ← HNL.out], fun _ => by rw [Nat.zero_mul]⟩, World.rowIs.congr HM2.out (fun j _ => (if_neg (by omega)).symm), Kx.refl _ _, hz2⟩
  case round =>
    obtain ⟨k, p, C, hk, rfl, rfl, hp, hM, hK, hz⟩ := hrel
    by_cases hlt : k < N
    · have hlt' : (k : Int) < (N : Int) := by omega
      have w3 : IntKind.i64.wrap ((k : Int) + 1) = (k : Int) + 1 := wid (by omega) (by omega)
      have HC : Hid (C = (N - k) * L) := hp.out.1
      have HPk : Hid (p = k * L) := hp.out.2 hlt
      obtain ⟨C2, hC2⟩ : ∃ C2, C2 = (N - (k + 1)) * L := ⟨_, rfl⟩
      have HC2 : Hid (C2 = (N - (k + 1)) * L) := hC2
      have hLC : L ≤ C := by rw [HC.out]; exact seg_cap (n := L) hlt (Nat.le_refl _)
      have s1 := run_upto (some ⟨w.heap.size, p, none⟩) C C L hLC
      have s2 := Fi.run_from (some ⟨w.heap.size, p, none⟩) C C L hLC
      have y1 := World.rowIs.cell hM.out hlt
      have y2 := World.rowIs.frozen hM.out k
      rw [if_neg (by omega)] at y1
      have hsub : C - L = C2 := by
        rw [HC.out, hC2, show N - k = (N - (k + 1)) + 1 by omega, Nat.add_mul, Nat.one_mul, Nat.add_sub_cancel]
      rw [hsub] at s2
      have lm : w.heap.size + 1 < wr.heap.size := by omega
      have HP : Hid (∃ p', Fi.frm (some ⟨w.heap.size, p, none⟩) L C = some ⟨w.heap.size, p', none⟩ ∧ (k + 1 < N → p' = (k + 1) * L)) := by
        unfold Hid
        unfold Fi.frm
        by_cases e : C = L
        · rw [if_pos e]
          refine ⟨p, rfl, fun h => ?_⟩
          have h2 := seg_fit (n := L) (show 1 < N - k by omega) (Nat.le_refl _)
          rw [Nat.one_mul, ← HC.out, e] at h2
          have : L = 0 := by omega
          rw [HPk.out, this, Nat.mul_zero, Nat.mul_zero]
        · rw [if_neg e]
          refine ⟨p + L, ?_, fun _ => by rw [HPk.out, Nat.add_mul, Nat.one_mul]⟩
          show some ((⟨w.heap.size, p, none⟩ : Addr).add L) = _
          unfold Addr.add
          by_cases e2 : L = 0 <;> simp [e2]
      have HM3 : Hid ((wr.drew.setCell ⟨w.heap.size + 1, k, none⟩ (.slice (some ⟨w.heap.size, p, none⟩) L C)).rowIs (w.heap.size + 1) 38 N (fun j => if j < k + 1 then mvl w.heap.size N L (fun _ => L) j else .slice none 0 0)) := by
        have h0 : wr.drew.rowIs (w.heap.size + 1) 38 N (fun j => if j < k then mvl w.heap.size N L (fun _ => L) j else .slice none 0 0) := hM.out
        refine World.rowIs.congr (World.rowIs.set h0 k _) (fun j _ => ?_)
        show (if j = k then Value.slice (some ⟨w.heap.size, p, none⟩) L C else if j < k then mvl w.heap.size N L (fun _ => L) j else .slice none 0 0) = if j < k + 1 then mvl w.heap.size N L (fun _ => L) j else .slice none 0 0
        by_cases e : j = k
        · rw [if_pos e, if_pos (by omega), e, HPk.out, HC.out]
        · rw [if_neg e]
          by_cases e2 : j < k
          · rw [if_pos e2, if_pos (by omega)]
          · rw [if_neg e2, if_neg (by omega)]
      have hK3 : Kx (· = w.heap.size + 1) W2 (wr.drew.setCell ⟨w.heap.size + 1, k, none⟩ (.slice (some ⟨w.heap.size, p, none⟩) L C)) := hK.trans ((Kx.bel (belD' (n := 1))).trans (Kx.put rfl))
      obtain ⟨p', hp1, hp2⟩ := HP.out
      rw [hp1] at s2
      have HP2 : Hid (k + 1 < N → p' = (k + 1) * L) := hp2
      clear hM hp hp1 hp2 HP hsub hC2
      go_wp2_with fail
      go_region
      have hz3 : (wr.drew.setCell ⟨w.heap.size + 1, k, none⟩ (.slice (some ⟨w.heap.size, p, none⟩) L C)).heap.size = w.heap.size + 2 := by simp [World.setCell]; exact hz
      go_wp2_with fail
      exact ⟨⟨k + 1, p', C2, by omega, by go_num, (by first | exact rfl | trivial), ⟨HC2.out, HP2.out⟩, HM3, hK3, hz3⟩, by simp [intOf]; omega⟩
    · obtain rfl : k = N := by omega
      go_wp2_with fail
      go_ret
      have hb2 := HB2.out
      refine ⟨rfl, ?_, World.rowIs.congr hM.out (fun j hj => if_pos hj), ⟨hK.os.trans hb2.os, hK.tape.trans hb2.tape, hK.output.trans hb2.output, by omega, fun j hj => (hK.block j (by omega) (by omega)).trans (hb2.block j hj)⟩, hz⟩
      rw [← HNL.out]
      exact World.rowIs.of_block HF2.out (hK.block w.heap.size (by omega) (by omega))
end Go.Proofs.Ytjpcebnbkdekkaa.Gh

/- One stretch of a graph. -/
namespace Go.Proofs.Ytjpcebnbkdekkaa.Gh
open Go.RowKit Go.Maps Go.Sort Fl
set_option linter.unusedVariables false
set_option linter.unusedSimpArgs false

/-- An order of all nodes in which each stands behind those that it hears at once. -/
structure Ord (g : Gr) (ord : List Nat) : Prop where
  len : ord.length = g.nodes.length
  lt : ∀ i ∈ ord, i < g.nodes.length
  all : ∀ i, i < g.nodes.length → i ∈ ord
  nd : ord.Nodup
  dep : ∀ (m i : Nat), ord[m]? = some i → ∀ k ∈ now (Gh.nd g i), k.toNat ∈ ord.take m
/-- Nodes are as they must be. -/
structure Wf (g : Gr) : Prop where
  N : g.nodes.length ≤ 256
  n : ∀ d ∈ g.nodes, many d ∧ (∀ k ∈ d.frm, 0 ≤ k ∧ k < g.nodes.length) ∧ (d.kind = 1 → 0 ≤ d.n ∧ d.n < g.ins) ∧ (d.kind = 6 → d.n ≤ 4096)
  o : ∀ k ∈ g.outs, 0 ≤ k ∧ k < g.nodes.length
  i0 : 0 ≤ g.ins
  i1 : g.ins ≤ 16
  U : g.outs.length ≤ 256
theorem nd_get {g : Gr} {i : Nat} {d : Nd} (h : g.nodes[i]? = some d) : nd g i = d := by
  unfold nd; rw [List.getD_eq_getElem?_getD, h]; rfl
theorem get_nd {g : Gr} {i : Nat} (h : i < g.nodes.length) : g.nodes[i]? = some (nd g i) := by
  unfold nd; rw [List.getD_eq_getElem?_getD, List.getElem?_eq_getElem h]; rfl
theorem take_mem {ord : List Nat} {m i k : Nat} (h : ord[m]? = some i) : k ∈ ord.take (m + 1) ↔ k ∈ ord.take m ∨ k = i := by
  rw [List.take_add_one, h]
  simp
theorem not_ahead {ord : List Nat} (hn : ord.Nodup) {m i : Nat} (h : ord[m]? = some i) : i ∉ ord.take m := by
  intro hm
  obtain ⟨j, hj, e⟩ := List.getElem_of_mem hm
  have hjm : j < m := by rw [List.length_take] at hj; omega
  rw [List.getElem_take] at e
  have hml := (List.getElem?_eq_some_iff.1 h).1
  have e2 := (List.getElem?_eq_some_iff.1 h).2
  have := (List.getElem_inj hn).1 (e.trans e2.symm)
  omega
/-- A graph in memory, but for its nodes. -/
structure XL (w : World) (F : Nat → Prop) (x : Nat) (g : Gr) (ord : List Nat) (no oo uo : Option Addr) (nc oc uc : Nat) : Prop where
  fx : F x
  c0 : w.cell? ⟨x, 0, none⟩ = some (.int .i64 g.ins)
  c1 : w.cell? ⟨x, 1, none⟩ = some (.slice no g.nodes.length nc)
  c2 : w.cell? ⟨x, 2, none⟩ = some (.slice oo ord.length oc)
  c3 : w.cell? ⟨x, 3, none⟩ = some (.slice uo g.outs.length uc)
  l1 : g.nodes.length ≤ nc
  l2 : ord.length ≤ oc
  l3 : g.outs.length ≤ uc
  m1 : nc ≤ 9223372036854775807
  m2 : oc ≤ 9223372036854775807
  m3 : uc ≤ 9223372036854775807
  zo : ZL w F oo (ord.map Int.ofNat)
  zu : ZL w F uo g.outs
theorem XL.keep {w w' : World} {F : Nat → Prop} {x : Nat} {g : Gr} {ord : List Nat} {no oo uo : Option Addr} {nc oc uc : Nat} (h : XL w F x g ord no oo uo nc oc uc) (hk : ∀ b, F b → b < w.heap.size → w'.heap[b]? = w.heap[b]?) (hz : w.heap.size ≤ w'.heap.size) : XL w' F x g ord no oo uo nc oc uc := by
  have hc : ∀ i, w'.cell? ⟨x, i, none⟩ = w.cell? ⟨x, i, none⟩ := fun i => World.cell?_of_block (w := w) (w' := w') (a := ⟨x, i, none⟩) (hk x h.fx (lt_cell h.c0))
  exact ⟨h.fx, (hc 0).trans h.c0, (hc 1).trans h.c1, (hc 2).trans h.c2, (hc 3).trans h.c3, h.l1, h.l2, h.l3, h.m1, h.m2, h.m3, h.zo.keep hk hz (fun _ h _ => h), h.zu.keep hk hz (fun _ h _ => h)⟩
/-- Which blocks are whose. -/
structure Sg (s : Sx) (F : Nat → Prop) (O : Nat → Nat → Prop) (B z : Nat) : Prop where
  mA : s.mb ≠ s.A
  FA : ∀ b, F b → b ≠ s.A ∧ b ≠ s.mb
  OA : ∀ i b, O i b → b ≠ s.A ∧ b ≠ s.mb ∧ ¬ F b ∧ b < z ∧ B ≤ b
  OO : ∀ i j b, O i b → O j b → i = j
  BA : B ≤ s.A
  Bm : B ≤ s.mb
  Az : s.A < z
  mz : s.mb < z
/-- Blocks that a stretch may change. -/
def Mx (s : Sx) (O : Nat → Nat → Prop) (b : Nat) : Prop := b = s.A ∨ b = s.mb ∨ ∃ i, O i b
/-- While the nodes play: the first m of the order have. -/
structure P1 (w0 : World) (s : Sx) (g : Gr) (ord : List Nat) (F : Nat → Prop) (O : Nat → Nat → Prop) (V : Hist) (n T m : Nat) (len : Nat → Nat) (no : Option Addr) (ww : World) : Prop where
  mr : MR ww s.A s.mb s.N s.L (fun k => if k ∈ ord.take m then n else len k)
  fr : ∃ f, Fi.FR ww s.A (s.N * s.L) f ∧ (∀ j, f j < 18446744073709551616) ∧ ∀ k ∈ ord.take m, ∀ j, j < n → ab (f (k * s.L + j)) = V k (T + j)
  nr : NR ww F O V (fun i => if i ∈ ord.take m then tp (nd g i) T n else T) g.nodes no
  k : Kx (Mx s O) w0 ww
/-- While the late ones hear. -/
structure P2 (w0 : World) (s : Sx) (g : Gr) (F : Nat → Prop) (O : Nat → Nat → Prop) (V : Hist) (n T m : Nat) (no : Option Addr) (ww : World) : Prop where
  mr : MR ww s.A s.mb s.N s.L (fun _ => n)
  fr : ∃ f, Fi.FR ww s.A (s.N * s.L) f ∧ (∀ j, f j < 18446744073709551616) ∧ ∀ k, k < s.N → ∀ j, j < n → ab (f (k * s.L + j)) = V k (T + j)
  nr : NR ww F O V (fun i => if i < m then T + n else tp (nd g i) T n) g.nodes no
  k : Kx (Mx s O) w0 ww
/-- One more node has played. -/
theorem P1.step {w0 ww w1 w2 : World} {s : Sx} {g : Gr} {ord : List Nat} {F : Nat → Prop} {O : Nat → Nat → Prop} {V : Hist} {n T m i B z : Nat} {len : Nat → Nat} {no : Option Addr} {f : Nat → Nat} {nb : Nat} {ev v : Value}
    (hS : Sg s F O B z) (hi : ord[m]? = some i) (hd : ord.Nodup) (hiN : i < s.N)
    (hmr : MR w1 s.A s.mb s.N s.L (fun k => if k ∈ ord.take (m + 1) then n else len k)) (hf : ∀ k ∈ ord.take m, ∀ j, j < n → ab (f (k * s.L + j)) = V k (T + j)) (hn : n ≤ s.L)
    (hnr : NR w1 F O V (fun i => if i ∈ ord.take m then tp (nd g i) T n else T) g.nodes no) (hk : Kx (Mx s O) w0 w1)
    (hq : Pq w1 s.A (s.N * s.L) (i * s.L) n f (fun j => V i (T + j)) (O i) w2) (hno : no = some ⟨nb, 0, none⟩) (hc : w1.cell? ⟨nb, i, none⟩ = some v) (hF : F nb) (hN : NodeL w2 F (O i) V (tp (nd g i) T n) i (nd g i) ev v) :
    P1 w0 s g ord F O V n T (m + 1) len no w2 := by
  have hK2 : Kx (Mx s O) w1 w2 := hq.k.mono (fun b _ q => q.elim .inl (fun q => .inr (.inr ⟨i, q⟩)))
  have hFk : ∀ b, F b → b < w1.heap.size → w2.heap[b]? = w1.heap[b]? := fun b hb hl => hq.k.block b hl (fun q => q.elim (fun e => (hS.FA b hb).1 e) (fun e => (hS.OA i b e).2.2.1 hb))
  refine ⟨?_, ?_, ⟨fun j d hj => ?_⟩, hk.trans hK2⟩
  · have hl := World.rowIs.lt hmr
    exact World.rowIs.of_block hmr (hq.k.block s.mb hl (fun q => q.elim (fun e => hS.mA e) (fun e => (hS.OA i _ e).2.1 rfl)))
  · obtain ⟨f', f1, f2, f3, f4⟩ := hq.ex
    refine ⟨f', f1, f2, fun k hk' j hj => ?_⟩
    rcases (take_mem hi).1 hk' with h1 | rfl
    · have hne : k ≠ i := fun e => not_ahead hd hi (e ▸ h1)
      have hdis := seg_dis (L := s.L) (n := s.L) hne (Nat.le_refl _)
      rw [f3 _ (by omega)]
      exact hf k h1 j hj
    · exact f4 j hj
  · obtain ⟨nb', ev', v', h1, h2, h3, h4⟩ := hnr.at' j d hj
    have hnd := nd_get hj
    by_cases e : j = i
    · subst e
      rw [hno] at h1
      cases h1
      refine ⟨nb, ev, v, hno, hF, (World.cell?_of_block (w := w1) (w' := w2) (a := ⟨nb, j, none⟩) (hFk nb hF (lt_cell hc))).trans hc, ?_⟩
      show NodeL w2 F (O j) V (if j ∈ ord.take (m + 1) then tp (nd g j) T n else T) j d ev v
      rw [if_pos ((take_mem hi).2 (.inr rfl)), ← hnd]
      exact hN
    · refine ⟨nb', ev', v', h1, h2, (World.cell?_of_block (w := w1) (w' := w2) (a := ⟨nb', j, none⟩) (hFk nb' h2 (lt_cell h3))).trans h3, ?_⟩
      show NodeL w2 F (O j) V (if j ∈ ord.take (m + 1) then tp (nd g j) T n else T) j d ev' v'
      have e2 : (if j ∈ ord.take (m + 1) then tp (nd g j) T n else T) = (if j ∈ ord.take m then tp (nd g j) T n else T) := by
        by_cases c : j ∈ ord.take m
        · rw [if_pos c, if_pos ((take_mem hi).2 (.inl c))]
        · rw [if_neg c, if_neg (fun q => ((take_mem hi).1 q).elim c e)]
      rw [e2]
      exact h4.keep (fun b hb hl => hb.elim (fun q => hFk b q hl) (fun q => hq.k.block b hl (fun q2 => q2.elim (fun e3 => (hS.OA j b q).1 e3) (fun e3 => e (hS.OO j i b q e3))))) hq.k.size (fun _ h => h)
end Go.Proofs.Ytjpcebnbkdekkaa.Gh
