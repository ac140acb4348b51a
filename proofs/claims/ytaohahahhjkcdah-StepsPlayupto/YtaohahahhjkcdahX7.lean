/- An ear in memory; what its own comes to. -/
import Derived.Test.YtaohahahhjkcdahX5
import Derived.Test.YtaohahahhjkcdahXMath3
import Derived.Test.YtaohahahhjkcdahRTail
namespace Go.Proofs.Ytaohahahhjkcdah.X
open Go.RowKit Go.Maps
set_option linter.unusedVariables false
set_option linter.unusedSimpArgs false

/-- An ear: from, ahead of, and what is heard so far, in a row of its own behind it. -/
structure Ea (w : World) (q base : Nat) (f t : Int) (v : Value) (out : List Z.M.Ev) : Prop where
  c0 : w.cell? ⟨q, 0, none⟩ = some (.int .i64 f)
  c1 : w.cell? ⟨q, 1, none⟩ = some (.int .i64 t)
  c2 : w.cell? ⟨q, 2, none⟩ = some v
  z2 : w.frozen? ⟨q, 2, none⟩ = false
  own : Z.OE w base v out
  lt : q < base
  bz : base ≤ w.heap.size
/-- What is kept: all but the ear and the row's own block. -/
structure Eg (w : World) (q : Nat) (v v' : Value) (w' : World) : Prop where
  k : ∀ j, j < w.heap.size → j ≠ q → some j ≠ v.ownBlock → w'.heap[j]? = w.heap[j]?
  z : w.heap.size ≤ w'.heap.size
  b : Below q w w'
  ob : v'.ownBlock = v.ownBlock ∨ ∃ k, v'.ownBlock = some k ∧ w.heap.size ≤ k
theorem Eg.trans {w w1 w2 : World} {q : Nat} {v v1 v2 : Value} (h : Eg w q v v1 w1) (h2 : Eg w1 q v1 v2 w2) : Eg w q v v2 w2 := by
  have z := h.z; have zz := h2.z
  refine ⟨fun j hj hne ho => (h2.k j (by omega) hne ?_).trans (h.k j hj hne ho), by omega, h.b.trans h2.b, ?_⟩
  · rcases h.ob with e | ⟨i, e, hi⟩
    · rw [e]; exact ho
    · rw [e]; intro q; cases q; omega
  · rcases h2.ob with e | ⟨i, e, hi⟩
    · rw [e]; exact h.ob
    · exact Or.inr ⟨i, e, by omega⟩
theorem Eg.below {w w' : World} {q : Nat} (v : Value) (hq : q < w.heap.size) (hb : Below w.heap.size w w') : Eg w q v v w' :=
  ⟨fun j hj _ _ => hb.block j hj, hb.size, hb.mono (by omega), Or.inl rfl⟩
theorem Eg.cell {w w' : World} {q : Nat} {v v' : Value} (h : Eg w q v v' w') {b o : Nat} {u : Value} (hlt : b < w.heap.size) (h1 : b ≠ q) (h2 : some b ≠ v.ownBlock) (hc : w.cell? ⟨b, o, none⟩ = some u) : w'.cell? ⟨b, o, none⟩ = some u :=
  (World.cell?_of_block (w := w) (w' := w') (a := ⟨b, o, none⟩) (h.k b hlt h1 h2)).trans hc
theorem Ea.bel {w w' : World} {q base : Nat} {f t : Int} {v : Value} {out : List Z.M.Ev} (h : Ea w q base f t v out) (hb : Below w.heap.size w w') : Ea w' q base f t v out := by
  have l := h.lt; have z := h.bz; have := hb.size
  exact ⟨keepC hb (by omega) h.c0, keepC hb (by omega) h.c1, keepC hb (by omega) h.c2, keepF hb (by omega) h.z2, h.own.bel hb, l, by omega⟩
theorem Ea.ob {w : World} {q base : Nat} {f t : Int} {v : Value} {out : List Z.M.Ev} (h : Ea w q base f t v out) : ∀ k, v.ownBlock = some k → base ≤ k ∧ k < w.heap.size := fun k hk => ⟨Z.own_block h.own k hk, Z.own_lt h.own k hk⟩
theorem OE.form {w : World} {base : Nat} {v : Value} {l : List Z.M.Ev} (h : Z.OE w base v l) : ∃ ao c, v = .slice ao l.length c ∧ l.length ≤ c ∧ c ≤ 9223372036854775807 := own_form h
/-- What was heard of L behind out. -/
structure EQ (w : World) (q base : Nat) (f t : Int) (v : Value) (out L : List Z.M.Ev) (w' : World) : Prop where
  ex : ∃ v', Eg w q v v' w' ∧ (out.length + L.length ≤ 4096 → Ea w' q base f t v' (out ++ L))
/-- The row grown by an event, the ear's cell set. -/
theorem Ea.put {w w' : World} {q base : Nat} {f t : Int} {v v' : Value} {out : List Z.M.Ev} {x : Z.M.Ev} (h : Ea w q base f t v out) (hg : Z.Gw w w' v v') (ho : Z.OE w' base v' (out ++ [x])) :
    Ea (w'.setCell ⟨q, 2, none⟩ v') q base f t v' (out ++ [x]) ∧ Eg w q v v' (w'.setCell ⟨q, 2, none⟩ v') := by
  have l := h.lt; have z := h.bz; have hz := hg.gr.size
  have hne : some q ≠ v.ownBlock := fun e => by have := (h.ob q e.symm).1; omega
  have d0 := hg.cell (by omega) hne h.c0
  have d1 := hg.cell (by omega) hne h.c1
  have d2 := hg.cell (by omega) hne h.c2
  have e2 := hg.froz (by omega) hne h.z2
  have oth : ∀ o, 2 ≠ o → (w'.setCell ⟨q, 2, none⟩ v').cell? ⟨q, o, none⟩ = w'.cell? ⟨q, o, none⟩ := fun o ho => World.cell?_setCell_other _ _ _ _ (fun e => ho (congrArg Addr.off e))
  refine ⟨⟨(oth 0 (by decide)).trans d0, (oth 1 (by decide)).trans d1, World.cell?_setCell_same _ _ _ d2, (World.frozen?_setCell _ _ _ _).trans e2, ?_, l, by simp [World.setCell]; omega⟩, fun j hj h1 h2 => (Below.heap_setCell _ _ _ _ h1).trans (hg.gr.block j hj h2), by simp [World.setCell]; omega, ?_, hg.ob⟩
  · refine ho.keep (fun k hk => Below.heap_setCell _ _ _ _ ?_)
    have := Z.own_block ho k hk
    show k ≠ q
    omega
  · exact (hg.bel (B := q) (by omega) (fun k hk => by have := (h.ob k hk).1; omega)).setCell (Nat.le_refl _) _

set_option maxHeartbeats 4000000 in
theorem own_any (ev : List Z.M.Ev) (b : Int) (ao : Option Addr) (w : World) (q base : Nat) (f t : Int) (v : Value) (out : List Z.M.Ev) (hE : EL w (· < q) ao ev) (hI : M.Inc 0 ev) (hn : ev.length ≤ 4096) (hA : Ea w q base f t v out) (ho : out.length ≤ 4096)
    (hb0 : 0 ≤ b) (hb1 : b ≤ 1125899906842624) (hf0 : 0 ≤ f) (hf1 : f ≤ 1125899906842624) (ht1 : t ≤ 1125899906842624) (hfit : ∀ e ∈ ev, e.t ≤ 1125899906842624) :
    Calls Try.prog 32 #[.pointer (some ⟨q, 0, none⟩), .slice ao ev.length ev.length, .int .i64 b] w fun e w' => e = .returned (.bool (decide (out.length + (M.win f t (M.sh b ev)).length ≤ 4096))) ∧ EQ w q base f t v out (M.win f t (M.sh b ev)) w' := by
  have hlq := hA.lt
  have hzq := hA.bz
  have HS := search_any ev (f - b) ao ev.length w (hE.le (fun j hj => by omega)) hI (Nat.le_refl _) (by omega) hn
  have hft := M.ft_le (f - b) ev
  have H1 : Hid (M.win f t (M.sh b (ev.take (M.ft (f - b) ev))) = []) := M.win_sh_start hI
  have H2 : Hid (∀ {j : Nat} {e : Z.M.Ev}, ev[j]? = some e → M.ft (f - b) ev ≤ j → f - b ≤ e.t) := fun h hj => M.ft_ge hI h hj
  have H3 : Hid (∀ {j : Nat} {e : Z.M.Ev}, ev[j]? = some e → t ≤ b + e.t → M.win f t (M.sh b ev) = M.win f t (M.sh b (ev.take j))) := fun h h2 => M.win_sh_end hI h h2
  have H4 : Hid (∀ {j : Nat} {e : Z.M.Ev}, ev[j]? = some e → f ≤ b + e.t → b + e.t < t → (M.win f t (M.sh b (ev.take j))).length + 1 ≤ (M.win f t (M.sh b ev)).length) := fun h h1 h2 => M.win_sh_more h h1 h2
  have H5 : Hid (M.win f t (M.sh b ev) = M.win f t (M.sh b (ev.take ev.length))) := by show _ = _; rw [List.take_length]
  have HF : Hid (∀ e ∈ ev, e.t ≤ 1125899906842624) := hfit
  have HI : Hid (∀ e ∈ ev, 0 ≤ e.t) := M.inc_ge hI
  generalize M.win f t (M.sh b ev) = LL at *
  generalize M.ft (f - b) ev = N at *
  generalize M.fb (f - b) ev = FB at *
  obtain ⟨D, hD⟩ : ∃ D, D = decide (out.length + LL.length ≤ 4096) := ⟨_, rfl⟩
  rw [← hD]
  have HD : Hid (D = decide (out.length + LL.length ≤ 4096)) := hD
  have HA : Hid (Ea w q base f t v out) := hA
  have HE : Hid (EL w (· < q) ao ev) := hE
  have c0 := hA.c0
  have wfb : IntKind.i64.wrap (f - b) = f - b := wid (by omega) (by omega)
  have qw : q < w.heap.size := by omega
  clear hD hA hE hI hfit
  by_cases hN : N = ev.length
  · subst hN
    have e1 := H5.out.trans H1.out
    have hD : D = true := by rw [HD.out, e1]; simp; omega
    subst hD
    go_enter Try.func32, Try.ntmps32
    go_wp2_with fail
    refine HS.mono ?_
    rintro e w1 ⟨rfl, hb1⟩
    have hA1 := HA.out.bel hb1
    have hg1 := Eg.below (q := q) v qw hb1
    have HR : Hid (EQ w q base f t v out LL w1) := ⟨v, hg1, fun _ => by rw [e1, List.append_nil]; exact hA1⟩
    clear hb1 hA1 hg1 e1
    go_wp2_with fail
    refine wp_loop_rounds 1 ?_
    rw [rounds_succ]
    go_wp2_with fail
    go_ret
    exact ⟨rfl, HR.out⟩
  · have hN2 : N < ev.length := by omega
    obtain ⟨bb, off, rfl, hbB, hcell⟩ := HE.out.at' (by omega)
    have HC : Hid (∀ j e, ev[j]? = some e → Z.E5 w bb (off + j * 5) e) := hcell
    have Hst : Hid (Ea w q base f t v (out ++ M.win f t (M.sh b (ev.take (N + 0))))) := by
      show Ea _ _ _ _ _ _ _
      rw [Nat.add_zero, H1.out, List.append_nil]; exact HA.out
    have Hsl : Hid ((out ++ M.win f t (M.sh b (ev.take (N + 0)))).length ≤ 4096) := by
      show _ ≤ _
      rw [Nat.add_zero, H1.out, List.append_nil]; exact ho
    clear hcell H1
    go_enter Try.func32, Try.ntmps32
    go_wp2_with fail
    refine HS.mono ?_
    rintro e w1 ⟨rfl, hb1⟩
    have hg1 := Eg.below (q := q) v qw hb1
    have Hst1 : Hid (Ea w1 q base f t v (out ++ M.win f t (M.sh b (ev.take (N + 0))))) := Hst.out.bel hb1
    clear hb1 Hst HS
    go_wp2_with fail
    go_loopw [26] (fun x wr => ∃ (i : Nat) (vi : Value), x = .int .i64 i ∧ i ≤ ev.length - N ∧ Hid (Ea wr q base f t vi (out ++ M.win f t (M.sh b (ev.take (N + i))))) ∧ Eg w q v vi wr ∧ Hid ((out ++ M.win f t (M.sh b (ev.take (N + i)))).length ≤ 4096)) (fun x _ => ev.length - (intOf x).toNat)
    case atStart => exact ⟨0, v, rfl, by omega, Hst1, hg1, Hsl⟩
    case round =>
      obtain ⟨i, vi, rfl, hi, hAi, hGi, hli⟩ := hrel
      clear Hst1 hg1 Hsl
      have zr := hGi.z
      by_cases hlt : i < ev.length - N
      · have hlt' : (i : Int) < ((ev.length - N : Nat) : Int) := by omega
        obtain ⟨e, he⟩ : ∃ e, ev[N + i]? = some e := ⟨_, List.getElem?_eq_getElem (by omega)⟩
        have g1 := H2.out he (by omega)
        have g2 := H3.out he
        have g3 := H4.out he
        have g4 := M.sh_take he b
        have g5 := HF.out e (List.mem_of_getElem? he)
        have g6 := HI.out e (List.mem_of_getElem? he)
        have q5 := HC.out (N + i) e he
        have bne : some bb ≠ v.ownBlock := fun hh => by have := (HA.out.ob bb hh.symm).1; omega
        have hcc : ∀ o u, w.cell? ⟨bb, o, none⟩ = some u → wr.cell? ⟨bb, o, none⟩ = some u := fun o u hu => hGi.cell (by omega) (by omega) bne hu
        rw [show off + (N + i) * 5 = off + N * 5 + i * 5 by omega] at q5
        have r0 := hcc _ _ q5.c0
        have r1 := hcc _ _ q5.c1
        have r2 := hcc _ _ q5.c2
        have r3 := hcc _ _ q5.c3
        have r4 := hcc _ _ q5.c4
        have bz : bb < wr.heap.size := by omega
        have qz : q < wr.heap.size := by omega
        have d1 := hAi.out.c1
        have d2 := hAi.out.c2
        have dz := hAi.out.z2
        have w3 : IntKind.i64.wrap ((i : Int) + 1) = (i : Int) + 1 := wid (by omega) (by omega)
        obtain ⟨va, vc, hvi, hvc1, hvc2⟩ := OE.form hAi.out.own
        have wt : IntKind.i64.wrap (e.t + b) = e.t + b := wid (by omega) (by omega)
        have G2 : Hid (t ≤ b + e.t → LL = M.win f t (M.sh b (ev.take (N + i)))) := g2
        have G3 : Hid (f ≤ b + e.t → b + e.t < t → (M.win f t (M.sh b (ev.take (N + i)))).length + 1 ≤ LL.length) := g3
        have G4 : Hid (b + e.t < t → M.win f t (M.sh b (ev.take (N + (i + 1)))) = M.win f t (M.sh b (ev.take (N + i))) ++ [M.lat b e]) := fun h => by
          show _ = _
          rw [← Nat.add_assoc]
          exact M.win_sh_in he (by omega) h
        clear q5 he g2 g3 g4 hcc H2 H3 H4 HF HI HC
        generalize M.win f t (M.sh b (ev.take (N + i))) = WI at *
        subst hvi
        generalize hm : (out ++ WI).length = m at *
        obtain ⟨et, ek, ec, ea', eb'⟩ := e
        dsimp only at *
        by_cases c1 : t ≤ et + b
        · have eL : LL = WI := G2.out (by omega)
          have hD : D = true := by
            rw [HD.out, eL]
            have := hli.out
            rw [← hm, List.length_append] at this
            simp; omega
          subst hD
          have HR : Hid (∀ W, Below wr.heap.size wr W → EQ w q base f t v out LL W) := fun W hb => ⟨_, hGi.trans (Eg.below _ qz hb), fun _ => by rw [eL]; exact hAi.out.bel hb⟩
          clear G2 G3 G4
          go_wp2_with fail
          go_quiet (fail)
          go_wp2_with fail
          go_ret
          exact ⟨rfl, HR.out _ (((Below.refl _ _).alloc (Nat.le_refl _) _).trans (drewB _ _ _))⟩
        · by_cases c2 : m = 4096
          · have hm4 : (m : Int) = 4096 := by omega
            have hD : D = false := by
              rw [HD.out]
              have h3 := G3.out (by omega) (by omega)
              rw [List.length_append] at hm
              apply decide_eq_false; omega
            subst hD
            have HR : Hid (∀ W, Below wr.heap.size wr W → EQ w q base f t v out LL W) := fun W hb => ⟨_, hGi.trans (Eg.below _ qz hb), fun hh => by
              have h3 := HD.out
              rw [decide_eq_true hh] at h3
              cases h3⟩
            clear G2 G3 G4
            go_wp2_with fail
            go_quiet (fail)
            go_wp2_with fail
            go_ret
            exact ⟨rfl, HR.out _ (((Below.refl _ _).alloc (Nat.le_refl _) _).trans (drewB _ _ _))⟩
          · have hm4 : ((m : Int) == 4096) = false := by simp; omega
            have hm5 : m < 4096 := by have := hli.out; omega
            have eW := G4.out (by omega)
            have hE1 : out ++ M.win f t (M.sh b (ev.take (N + (i + 1)))) = (out ++ WI) ++ [M.lat b ⟨et, ek, ec, ea', eb'⟩] := by rw [eW, List.append_assoc]
            have HE1 : Hid (out ++ M.win f t (M.sh b (ev.take (N + (i + 1)))) = (out ++ WI) ++ [M.lat b ⟨et, ek, ec, ea', eb'⟩]) := hE1
            have Hm : Hid ((out ++ WI).length = m) := hm
            clear G2 G3 G4 eW hE1 hm c2
            go_wp2_with fail
            go_quiet (fail)
            go_wp2_with fail
            obtain ⟨W3, hW3⟩ : ∃ x, x = (wr.alloc (Obj.cells #[.int .i64 (et + b), .int .i64 ek, .int .i64 ec, .int .i64 ea', .int .i64 eb'] 61)).drewN nq := ⟨_, rfl⟩
            rw [← hW3]
            have hb3 : Below wr.heap.size wr W3 := by rw [hW3]; exact ((Below.refl _ _).alloc (Nat.le_refl _) _).trans (drewB _ _ _)
            have y0 : W3.cell? ⟨wr.heap.size, 0, none⟩ = some (.int .i64 (et + b)) := by rw [hW3]; simp [go_sem]
            have y1 : W3.cell? ⟨wr.heap.size, 1, none⟩ = some (.int .i64 ek) := by rw [hW3]; simp [go_sem]
            have y2 : W3.cell? ⟨wr.heap.size, 2, none⟩ = some (.int .i64 ec) := by rw [hW3]; simp [go_sem]
            have y3 : W3.cell? ⟨wr.heap.size, 3, none⟩ = some (.int .i64 ea') := by rw [hW3]; simp [go_sem]
            have y4 : W3.cell? ⟨wr.heap.size, 4, none⟩ = some (.int .i64 eb') := by rw [hW3]; simp [go_sem]
            have z3 : wr.heap.size < W3.heap.size := by rw [hW3]; simp [World.drewN]
            have q3 : q < W3.heap.size := by omega
            have hA3 := hAi.out.bel hb3
            have hG3 := hGi.trans (Eg.below _ qz hb3)
            have d2' := hA3.c2
            have hXb : Below W3.heap.size W3 (W3.drew.alloc (Obj.cells #[.int .i64 (et + b), .int .i64 ek, .int .i64 ec, .int .i64 ea', .int .i64 eb'] 61)) := ((Below.refl _ W3).drew).alloc (Nat.le_refl _) _
            have hAX := hA3.bel hXb
            have hGX := hG3.trans (Eg.below _ q3 hXb)
            have hownX : (W3.drew.alloc (Obj.cells #[.int .i64 (et + b), .int .i64 ek, .int .i64 ec, .int .i64 ea', .int .i64 eb'] 61)).ownsRow base 61 5 (.slice va m vc) m ((out ++ WI).flatMap Z.ec) := by
              have := hAX.own
              unfold Z.OE at this
              rw [Hm.out] at this
              exact this
            have HAX : Hid (Ea (W3.drew.alloc (Obj.cells #[.int .i64 (et + b), .int .i64 ek, .int .i64 ec, .int .i64 ea', .int .i64 eb'] 61)) q base f t (.slice va m vc) (out ++ WI)) := hAX
            have hbzX := hAX.bz
            have hqX := hAX.lt
            have hneX : some q ≠ (Value.slice va m vc).ownBlock := fun hh => by have := (hAX.ob q hh.symm).1; omega
            have k2 := hAX.c2
            have kz := hAX.z2
            have kq : q < (W3.drew.alloc (Obj.cells #[.int .i64 (et + b), .int .i64 ek, .int .i64 ec, .int .i64 ea', .int .i64 eb'] 61)).heap.size := by omega
            clear hW3 hAi hGi r0 r1 r2 r3 r4 d1 d2 dz hA3 hG3 hAX
            obtain ⟨i0, hi0, hz0, hz1, hz2⟩ := info_parts Z.infoE
            go_region_law (refine step_append_lies (w := W3.drew.alloc (Obj.cells #[.int .i64 (et + b), .int .i64 ek, .int .i64 ec, .int .i64 ea', .int .i64 eb'] 61)) (by rfl) _ _ _ (by rfl) base 61 i0 _ 5 40 Try.underlying32 hi0 hz0 hz1 hz2 rfl (by omega) (.slice va m vc) m ((out ++ WI).flatMap Z.ec) (by rfl) hownX ⟨W3.heap.size, 0, none⟩ 1 1 [.int .i64 (et + b), .int .i64 ek, .int .i64 ec, .int .i64 ea', .int .i64 eb'] (by rfl) (by rfl) (part_news (by simp [go_sem]) (by simp [go_sem]) (by simp [go_sem]) (by simp [go_sem]) (by simp [go_sem])) (by simp [Value.oneCell']) (by omega) (by unfold maxLen; omega) (by omega) hbzX (W3.heap.size + 1) (by simp) ?_; intro gg cap w7 hown7 hgrow hat hlt7; have k7 := (World.cell?_of_block (a := ⟨q, 2, none⟩) (hgrow.block q kq hneX)).trans k2; have kz7 := (World.frozen?_of_block (a := ⟨q, 2, none⟩) (hgrow.block q kq hneX)).trans kz; have q7 : q < w7.heap.size := Nat.lt_of_lt_of_le kq hgrow.size)
            all_goals
              have hO7 : Z.OE w7 base (.slice (some ⟨gg, 0, none⟩) (m + 1) cap) ((out ++ WI) ++ [M.lat b ⟨et, ek, ec, ea', eb'⟩]) := by
                unfold Z.OE
                rw [List.length_append, Hm.out, List.flatMap_append]
                show w7.ownsRow base 61 5 _ (m + 1) (_ ++ [.int .i64 (b + et), .int .i64 ek, .int .i64 ec, .int .i64 ea', .int .i64 eb'])
                rw [Int.add_comm b et]
                exact hown7
              have hGw : Z.Gw (W3.drew.alloc (Obj.cells #[.int .i64 (et + b), .int .i64 ek, .int .i64 ec, .int .i64 ea', .int .i64 eb'] 61)) w7 (.slice va m vc) (.slice (some ⟨gg, 0, none⟩) (m + 1) cap) := ⟨hgrow, hat.imp (fun e => e.symm) (fun e => ⟨gg, rfl, by rw [e]; simp⟩)⟩
              obtain ⟨p1, p2⟩ := HAX.out.put hGw hO7
              rw [← HE1.out] at p1
              have HP1 : Hid (Ea (w7.setCell ⟨q, 2, none⟩ (.slice (some ⟨gg, 0, none⟩) (m + 1) cap)) q base f t (.slice (some ⟨gg, 0, none⟩) (m + 1) cap) (out ++ M.win f t (M.sh b (ev.take (N + (i + 1)))))) := p1
              have hp2 := hGX.trans p2
              have HL2 : Hid ((out ++ M.win f t (M.sh b (ev.take (N + (i + 1))))).length ≤ 4096) := by
                show _ ≤ _
                rw [HE1.out, List.length_append, Hm.out]
                simp; omega
              generalize w7.setCell ⟨q, 2, none⟩ (.slice (some ⟨gg, 0, none⟩) (m + 1) cap) = W8 at *
              clear hO7 hGw p1 p2 hown7 hgrow hat k7 kz7 HAX hownX HE1 Hm k2 kz hneX hGX hXb
              go_wp2_with fail
              go_roundw
              case rel => exact ⟨i + 1, _, by go_num, by omega, HP1, hp2, HL2⟩
              case measure => simp [intOf]; omega
      · obtain rfl : i = ev.length - N := by omega
        have hlt' : ¬ (((ev.length - N : Nat) : Int) < ((ev.length - N : Nat) : Int)) := by omega
        have eL : Hid (LL = M.win f t (M.sh b (ev.take (N + (ev.length - N))))) := by show _ = _; rw [show N + (ev.length - N) = ev.length by omega]; exact H5.out
        have hD : D = true := by
          rw [HD.out, eL.out]
          have := hli.out
          rw [List.length_append] at this
          simp; omega
        subst hD
        have HR : Hid (EQ w q base f t v out LL wr) := ⟨_, hGi, fun _ => by rw [eL.out]; exact hAi.out⟩
        clear H2 H3 H4 H5 HF HI HC
        go_wp2_with fail
        go_ret
        exact ⟨rfl, HR.out⟩
end Go.Proofs.Ytaohahahhjkcdah.X
