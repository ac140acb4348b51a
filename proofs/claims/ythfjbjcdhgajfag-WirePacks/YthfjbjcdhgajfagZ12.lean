/- What the program's Unpack comes to. -/
import Derived.Test.YthfjbjcdhgajfagZ11
namespace Go.Proofs.Ythfjbjcdhgajfag.Z
open Go.RowKit Go.Maps
set_option linter.unusedVariables false
set_option linter.unusedSimpArgs false

/-- Where a fault is told. -/
def fa (s : ByteArray) (U : List M.Ev × Int × List Nat) : Int := if U.2.1 = 0 then 0 else (s.size : Int) - (U.2.2.length : Int)
/-- What can be said of the event ahead. -/
structure Ahd (AH : M.Ev) (m : Nat) : Prop where
  k : M.isK AH.k = true → 0 ≤ AH.c ∧ AH.c ≤ 15
  lo : 0 ≤ AH.t
  hi : AH.t ≤ 268435455 * (m : Int)
theorem Ahd.next {AH e : M.Ev} {m : Nat} {r r' : List Nat} (h : Ahd AH m) (hb : ∀ x ∈ r, x < 256) (he : M.re AH r = (true, e, r')) : Ahd e (m + 1) := by
  obtain ⟨_, h2⟩ := M.re_back hb h.k he
  obtain ⟨_, g2, g3, g4⟩ := M.we_ok.1 h2
  have := h.lo
  have := h.hi
  exact ⟨fun _ => g2.1, by omega, by push_cast; omega⟩

theorem OE.base {w : World} {base b : Nat} {v : Value} {l : List M.Ev} (h : OE w base v l) (hb : b ≤ base) : OE w b v l := by
  refine ⟨h.1, ?_⟩
  rcases h.2 with hn | ⟨g, cap, cur, rfl, h1, rest⟩
  · exact .inl hn
  · exact .inr ⟨g, cap, cur, rfl, by omega, rest⟩
theorem OE.other {w : World} {base : Nat} {v : Value} {l : List M.Ev} (h : OE w base v l) {a : Addr} {u : Value} (ha : a.block < base) : OE (w.setCell a u) base v l :=
  h.keep (fun k hk => heap_setCell_other _ _ _ _ (by have := own_block h k hk; omega))

set_option maxRecDepth 20000 in
set_option maxHeartbeats 8000000 in
theorem Unpack_any (s : ByteArray) (w : World) (hs : s.size ≤ maxLen) :
    Calls Try.prog 22 #[.string s] w fun e w' => (∃ v, e = .returned (.tuple #[v, .agg #[.int .i64 (M.un 4096 M.z0 (tx s)).2.1, .int .i64 (fa s (M.un 4096 M.z0 (tx s)))]]) ∧ OE w' w.heap.size v (M.un 4096 M.z0 (tx s)).1) ∧ Below w.heap.size w w' := by
  have hs' : s.size ≤ 9223372036854775807 := by unfold maxLen at hs; omega
  obtain ⟨U, hU⟩ : ∃ U, U = M.un 4096 M.z0 (tx s) := ⟨_, rfl⟩
  rw [← hU]
  have HU : Hid (U = M.pre [] (M.un 4096 M.z0 (tx s))) := by show _ = _; rw [M.pre_un]; exact hU
  clear hU
  have hfa : Hid (∀ E r k, At s k r → E ≠ 0 → fa s ([], E, r) = (k : Int)) := fun E r k ha hE => by
    unfold fa
    rw [if_neg hE]
    have := ha.left
    simp only
    omega
  go_enter Try.func22, Try.ntmps22
  go_wp2_with fail
  have hup : Up w.heap.size (((w.alloc (.cells #[.int .i64 0, .int .i64 0] 42)).alloc (.cells #[.string s, .int .i64 0] 69)).alloc (.cells #[.int .i64 0, .int .i64 0, .int .i64 0, .int .i64 0, .int .i64 0] 62)) s 0 M.z0 := by
    refine ⟨?_, ⟨by simp, by simp [go_sem], by simp [go_sem], by simp [go_sem]⟩, ⟨by simp, ⟨by simp [go_sem], by simp [go_sem], by simp [go_sem], by simp [go_sem], by simp [go_sem]⟩, fun j => by simp [go_sem]⟩⟩
    unfold FB
    rw [heap_alloc_old _ _ (by simp; omega), heap_alloc_old _ _ (by simp), heap_alloc_new]
  have hb0 : Below w.heap.size w (((w.alloc (.cells #[.int .i64 0, .int .i64 0] 42)).alloc (.cells #[.string s, .int .i64 0] 69)).alloc (.cells #[.int .i64 0, .int .i64 0, .int .i64 0, .int .i64 0, .int .i64 0] 62)) := by go_grown
  generalize ((w.alloc (.cells #[.int .i64 0, .int .i64 0] 42)).alloc (.cells #[.string s, .int .i64 0] 69)).alloc (.cells #[.int .i64 0, .int .i64 0, .int .i64 0, .int .i64 0, .int .i64 0] 62) = W0 at *
  go_loopw [5] (fun o wr => ∃ (es : List M.Ev) (f k : Nat) (r : List Nat), OE wr (w.heap.size + 1 + 1 + 1) o es ∧ es.length + f = 4096 ∧ Up w.heap.size wr s k (M.lst M.z0 es) ∧ At s k r ∧ Below w.heap.size w wr ∧ Hid (U = M.pre es (M.un f (M.lst M.z0 es) r)) ∧ Ahd (M.lst M.z0 es) es.length) (fun _ wr => s.size - (intOf (cv wr (w.heap.size + 1) 1)).toNat)
  case atStart => exact ⟨[], 4096, 0, tx s, OE.nil _ _, rfl, hup, ⟨rfl, by omega⟩, hb0, HU, ⟨fun h => absurd h (by decide), Int.le_refl _, by decide⟩⟩
  case round =>
    obtain ⟨es, f, k, r, ho, hlen, hu, ha, hbr, hE, hA⟩ := hrel
    clear hup hb0 HU
    have c0 := hu.rt.c0
    have c1 := hu.rt.c1
    have lt1 := hu.rt.lt
    obtain ⟨q0, q1, g0, g1, ltf⟩ := hu.fb.c
    have hm : (intOf (cv wr (w.heap.size + 1) 1)).toNat = k := by rw [cv_is c1]; simp [intOf]
    have hown := own_block ho
    have hown2 := own_lt ho
    obtain ⟨ao, oc, rfl, ho1, ho2, _⟩ := ho.le
    by_cases hr : r = []
    · subst hr
      have hk := ha.nil
      subst hk
      have hV : Hid (U = (es, 0, [])) := by show _ = _; rw [hE.out, M.un_nil, M.pre_ok]
      have hlt' : ¬ ((s.size : Nat) : Int) < s.size := by omega
      clear hE hfa
      go_wp2_with fail
      refine bodyPost_ret (v := .tuple #[.slice ao es.length oc, .agg #[.int .i64 0, .int .i64 0]]) (by simp [results, Try.results22, go_sem, q0, q1]) rfl ⟨⟨.slice ao es.length oc, ?_, ?_⟩, ?_⟩
      · rw [hV.out]; rfl
      · rw [hV.out]
        exact ((ho.other (by simp; omega)).other (by simp; omega)).base (by omega)
      · exact (hbr.setCell (by simp) _).setCell (by simp) _
    · have hkl : k < s.size := by
        have := ha.left
        have : r.length ≠ 0 := fun h => hr (List.length_eq_zero_iff.1 h)
        omega
      have hlt' : (k : Int) < s.size := by omega
      cases f with
      | zero =>
        have hV : Hid (U = ([], 5, r)) := by show _ = _; rw [hE.out, M.un_many hr, M.pre_bad (by decide)]
        have h4 : (es.length : Int) = 4096 := by omega
        have hF := hfa.out 5 r k ha (by decide)
        clear hE hfa
        go_wp2_with fail
        go_region
        go_wp2_with fail
        refine bodyPost_ret (v := .tuple #[.slice none 0 0, .agg #[.int .i64 5, .int .i64 (k : Int)]]) (by simp [results, Try.results22, go_sem, q0, q1]) rfl ⟨⟨.slice none 0 0, ?_, ?_⟩, ?_⟩
        · rw [hV.out, hF]
        · rw [hV.out]; exact OE.nil _ _
        · have hd : ∀ n, Below w.heap.size w (wr.drewN n) := fun n => hbr.trans ⟨rfl, rfl, rfl, Nat.le_refl _, fun _ _ => rfl⟩
          first | exact (hbr.setCell (by simp) _).setCell (by simp) _ | exact ((hd _).setCell (by simp) _).setCell (by simp) _
      | succ f =>
        have h4 : ((es.length : Int) == 4096) = false := by simp; omega
        have hA' := hA.hi
        have HEv := fun W hR => event_any (M.lst M.z0 es) (w.heap.size + 1) k s r W hR ha hs hA.lo (by omega)
        rcases hq : M.re (M.lst M.z0 es) r with ⟨ok, e, r'⟩
        rw [hq] at HEv
        have HN : Hid (ok = true → Ahd e (es.length + 1)) := fun h => hA.next ha.bytes (by rw [hq, h])
        have HUf : Hid (ok = false → U = ([], 2, r')) := fun h => by rw [hE.out, M.un_bad hr (by rw [hq]; exact h), hq, M.pre_bad (by decide)]
        have HUt : Hid (ok = true → U = M.pre (es ++ [e]) (M.un f e r')) := fun h => by rw [hE.out, M.un_on hr (by rw [hq]; exact h), hq, M.pre_pre]
        have HL : Hid (M.lst M.z0 (es ++ [e]) = e) := M.lst_snoc _ _ _
        have HRl : Hid (ok = true → r'.length < r.length) := fun h => by have := M.re_len (M.lst M.z0 es) r (by rw [hq]; exact h); rw [hq] at this; exact this
        have hal := ha.left
        have v0 := hu.v5.c.c0
        have v1 := hu.v5.c.c1
        have v2 := hu.v5.c.c2
        have v3 := hu.v5.c.c3
        have v4 := hu.v5.c.c4
        rw [Nat.zero_add] at v1 v2 v3 v4
        have vlt := hu.v5.lt
        clear hE hq hA' ha
        generalize M.lst M.z0 es = AH at *
        obtain ⟨at', ak, ac, aa, ab⟩ := AH
        simp only at HEv
        go_wp2_with fail
        refine (HEv _ hu.rt).mono ?_
        rintro x w2 ⟨rfl, rd⟩
        obtain ⟨j, hrt2, ha2⟩ := rd.at'
        have hu2 : Up w.heap.size w2 s j ⟨at', ak, ac, aa, ab⟩ := ⟨(rd.tk.blk _ ltf (by omega)).trans hu.fb, hrt2, hu.v5.tk rd.tk (by omega)⟩
        have ho3 : OE w2 (w.heap.size + 1 + 1 + 1) (.slice ao es.length oc) es := ho.keep (fun b hb => rd.tk.blk b (hown2 b hb) (by have := hown b hb; omega))
        have hb2 : Below w.heap.size w w2 := hbr.trans (rd.tk.bel.mono (by omega))
        clear rd hrt2 HEv v0 v1 v2 v3 v4 vlt q0 q1 g0 g1 ltf c0 c1 lt1 hu ho hbr
        have c1 := hu2.rt.c1
        have lt1 := hu2.rt.lt
        obtain ⟨q0, q1, g0, g1, ltf⟩ := hu2.fb.c
        obtain ⟨et, ek, ec', ea', eb'⟩ := e
        cases ok
        · have hV : Hid (U = ([], 2, r')) := HUf.out rfl
          have hF := hfa.out 2 r' j ha2 (by decide)
          clear HN HUf HUt HL HRl hfa
          go_wp2_with fail
          go_region
          go_wp2_with fail
          have hW : ∀ (W : World) os, Below W.heap.size W (W.alloc os) := fun W os => by go_grown
          have k0 : ∀ os, (((w2.setCell ⟨w.heap.size, 0, none⟩ (.int .i64 2)).setCell ⟨w.heap.size, 1, none⟩ (.int .i64 (j : Int))).alloc os).cell? ⟨w.heap.size, 0, none⟩ = some (.int .i64 2) := fun os => keepC (hW _ os) (by simpa using ltf) ((oth (by omega)).trans (sam q0))
          have k1 : ∀ os, (((w2.setCell ⟨w.heap.size, 0, none⟩ (.int .i64 2)).setCell ⟨w.heap.size, 1, none⟩ (.int .i64 (j : Int))).alloc os).cell? ⟨w.heap.size, 1, none⟩ = some (.int .i64 (j : Int)) := fun os => keepC (hW _ os) (by simpa using ltf) (sam ((oth (by omega)).trans q1))
          refine bodyPost_ret (v := .tuple #[.slice none 0 0, .agg #[.int .i64 2, .int .i64 (j : Int)]]) (by simp [results, Try.results22, go_sem, k0, k1]) rfl ⟨⟨.slice none 0 0, ?_, ?_⟩, ?_⟩
          · rw [hV.out, hF]
          · rw [hV.out]; exact OE.nil _ _
          · have hd := (hb2.setCell (p := ⟨w.heap.size, 0, none⟩) (Nat.le_refl _) (.int .i64 2)).setCell (p := ⟨w.heap.size, 1, none⟩) (Nat.le_refl _) (.int .i64 (j : Int))
            exact (hd.alloc hd.size _).trans ⟨rfl, rfl, rfl, Nat.le_refl _, fun _ _ => rfl⟩
        · have hN := HN.out rfl
          have hV := HUt.out rfl
          have hrl := HRl.out rfl
          have HV : Hid (U = M.pre (es ++ [⟨et, ek, ec', ea', eb'⟩]) (M.un f ⟨et, ek, ec', ea', eb'⟩ r')) := hV
          clear HN HUf HUt HRl hfa hV
          have hb3 : ∀ o1 o2, Below w2.heap.size w2 ((w2.alloc o1).alloc o2) := fun o1 o2 => by go_grown
          have hE5 : ∀ o1 : Obj, E5 ((w2.alloc o1).alloc (.cells #[.int .i64 et, .int .i64 ek, .int .i64 ec', .int .i64 ea', .int .i64 eb'] 62)) (w2.heap.size + 1) 0 ⟨et, ek, ec', ea', eb'⟩ := fun o1 => ⟨by simp [go_sem], by simp [go_sem], by simp [go_sem], by simp [go_sem], by simp [go_sem]⟩
          have hV5 : ∀ o2 : Obj, E5 ((w2.alloc (.cells #[.int .i64 et, .int .i64 ek, .int .i64 ec', .int .i64 ea', .int .i64 eb'] 62)).alloc o2) w2.heap.size 0 ⟨et, ek, ec', ea', eb'⟩ := fun o2 => ⟨by simp [go_sem], by simp [go_sem], by simp [go_sem], by simp [go_sem], by simp [go_sem]⟩
          go_wp2_with (at_builtin; refine wpList_append_ev rfl (.tmp 32) (.tmp 34) rfl (w.heap.size + 1 + 1 + 1) _ es rfl (ho3.bel (hb3 _ _)) (w2.heap.size + 1) ⟨et, ek, ec', ea', eb'⟩ rfl (hE5 _) (by omega) ?c2 ?_)
          case c2 => have := hu2.v5.lt; simp; omega
          intro V4 w4 ho4 hg4
          have hne : ∀ b, (Value.slice ao es.length oc).ownBlock = some b → w.heap.size + 1 + 1 < b ∧ b < w2.heap.size := fun b hb => ⟨hown b hb, own_lt ho3 b hb⟩
          have hu4 : Up w.heap.size w4 s j ⟨at', ak, ac, aa, ab⟩ := (hu2.keep (hb3 _ _)).gw hg4 (fun b hb => (hne b hb).1)
          have K : ∀ o u, World.cell? _ ⟨w2.heap.size, o, none⟩ = some u → w4.cell? ⟨w2.heap.size, o, none⟩ = some u := fun o u hc => hg4.cell (by simp; omega) (fun q => by have := hne _ q.symm; omega) hc
          obtain ⟨y0, y1, y2, y3, y4⟩ := hV5 (.cells #[.int .i64 et, .int .i64 ek, .int .i64 ec', .int .i64 ea', .int .i64 eb'] 62)
          rw [Nat.zero_add] at y1 y2 y3 y4
          have t0 := K _ _ y0
          have t1 := K _ _ y1
          have t2 := K _ _ y2
          have t3 := K _ _ y3
          have t4 := K _ _ y4
          simp only at t0 t1 t2 t3 t4
          have z4 := hg4.gr.size
          simp at z4
          have hb4 : Below w.heap.size w w4 := (hb2.trans ((hb3 _ _).mono hb2.size)).trans (hg4.bel (by simp; have := hb2.size; omega) (fun b hb => by have := hne b hb; omega))
          have hu5 := hu4.put ⟨et, ek, ec', ea', eb'⟩
          have d0 := hu4.v5.c.c0
          have d1 := hu4.v5.c.c1
          have d2 := hu4.v5.c.c2
          have d3 := hu4.v5.c.c3
          have d4 := hu4.v5.c.c4
          rw [Nat.zero_add] at d1 d2 d3 d4
          have f0 := hu4.v5.f 0
          have f1 := hu4.v5.f 1
          have f2 := hu4.v5.f 2
          have f3 := hu4.v5.f 3
          have f4 := hu4.v5.f 4
          have vlt := hu4.v5.lt
          have ho5 : ∀ (W : World) (a : Addr) u, a.block = w.heap.size + 1 + 1 → OE W (w.heap.size + 1 + 1 + 1) V4 (es ++ [⟨et, ek, ec', ea', eb'⟩]) → OE (W.setCell a u) (w.heap.size + 1 + 1 + 1) V4 (es ++ [⟨et, ek, ec', ea', eb'⟩]) := fun W a u hab h => h.other (by omega)
          clear hne K hg4 hu4 hu2 ho3 hb2 hb3 hE5 hV5 y0 y1 y2 y3 y4 q0 q1 g0 g1 ltf c1 lt1 hown hown2
          go_wp2_with fail
          go_roundw
          case rel =>
            refine ⟨es ++ [⟨et, ek, ec', ea', eb'⟩], f, j, r', ?_, by simp; omega, by rw [HL.out]; exact hu5, ha2, ((((hb4.setCell (by simp; omega) _).setCell (by simp; omega) _).setCell (by simp; omega) _).setCell (by simp; omega) _).setCell (by simp; omega) _, by show U = _; rw [HL.out]; exact HV.out, by rw [HL.out]; simpa using hN⟩
            exact ho5 _ _ _ rfl (ho5 _ _ _ rfl (ho5 _ _ _ rfl (ho5 _ _ _ rfl (ho5 _ _ _ rfl ho4))))
          case measure =>
            have hj : (intOf (cv (((((w4.setCell ⟨w.heap.size + 1 + 1, 0, none⟩ (.int .i64 et)).setCell ⟨w.heap.size + 1 + 1, 1, none⟩ (.int .i64 ek)).setCell ⟨w.heap.size + 1 + 1, 2, none⟩ (.int .i64 ec')).setCell ⟨w.heap.size + 1 + 1, 3, none⟩ (.int .i64 ea')).setCell ⟨w.heap.size + 1 + 1, 4, none⟩ (.int .i64 eb')) (w.heap.size + 1) 1)).toNat = j := by rw [cv_is hu5.rt.c1]; simp [intOf]
            have := ha2.left
            rw [hm, hj]
            omega
end Go.Proofs.Ythfjbjcdhgajfag.Z
