/- What the program's event comes to. -/
import Derived.Test.YthfjbjcdhgajfagZ6
import Derived.Test.YthfjbjcdhgajfagZ9
namespace Go.Proofs.Ythfjbjcdhgajfag.Z
open Go.RowKit Go.Maps
set_option linter.unusedVariables false
set_option linter.unusedSimpArgs false

theorem V5.set0 {w : World} {b : Nat} {e : M.Ev} (h : V5 w b e) (x : Int) : V5 (w.setCell ⟨b, 0, none⟩ (.int .i64 x)) b ⟨x, e.k, e.c, e.a, e.b⟩ := by
  obtain ⟨h0, h1, h2, h3, h4⟩ := h.c
  exact ⟨by simpa [World.setCell] using h.lt, ⟨sam h0, (oth (by omega)).trans h1, (oth (by omega)).trans h2, (oth (by omega)).trans h3, (oth (by omega)).trans h4⟩, fun j => by rw [World.frozen?_setCell]; exact h.f j⟩
theorem V5.set1 {w : World} {b : Nat} {e : M.Ev} (h : V5 w b e) (x : Int) : V5 (w.setCell ⟨b, 1, none⟩ (.int .i64 x)) b ⟨e.t, x, e.c, e.a, e.b⟩ := by
  obtain ⟨h0, h1, h2, h3, h4⟩ := h.c
  rw [Nat.zero_add] at h1
  exact ⟨by simpa [World.setCell] using h.lt, ⟨(oth (by omega)).trans h0, by rw [Nat.zero_add]; exact sam h1, (oth (by omega)).trans h2, (oth (by omega)).trans h3, (oth (by omega)).trans h4⟩, fun j => by rw [World.frozen?_setCell]; exact h.f j⟩
theorem V5.set2 {w : World} {b : Nat} {e : M.Ev} (h : V5 w b e) (x : Int) : V5 (w.setCell ⟨b, 2, none⟩ (.int .i64 x)) b ⟨e.t, e.k, x, e.a, e.b⟩ := by
  obtain ⟨h0, h1, h2, h3, h4⟩ := h.c
  rw [Nat.zero_add] at h2
  exact ⟨by simpa [World.setCell] using h.lt, ⟨(oth (by omega)).trans h0, (oth (by omega)).trans h1, by rw [Nat.zero_add]; exact sam h2, (oth (by omega)).trans h3, (oth (by omega)).trans h4⟩, fun j => by rw [World.frozen?_setCell]; exact h.f j⟩
theorem V5.set3 {w : World} {b : Nat} {e : M.Ev} (h : V5 w b e) (x : Int) : V5 (w.setCell ⟨b, 3, none⟩ (.int .i64 x)) b ⟨e.t, e.k, e.c, x, e.b⟩ := by
  obtain ⟨h0, h1, h2, h3, h4⟩ := h.c
  rw [Nat.zero_add] at h3
  exact ⟨by simpa [World.setCell] using h.lt, ⟨(oth (by omega)).trans h0, (oth (by omega)).trans h1, (oth (by omega)).trans h2, by rw [Nat.zero_add]; exact sam h3, (oth (by omega)).trans h4⟩, fun j => by rw [World.frozen?_setCell]; exact h.f j⟩
theorem V5.set4 {w : World} {b : Nat} {e : M.Ev} (h : V5 w b e) (x : Int) : V5 (w.setCell ⟨b, 4, none⟩ (.int .i64 x)) b ⟨e.t, e.k, e.c, e.a, x⟩ := by
  obtain ⟨h0, h1, h2, h3, h4⟩ := h.c
  rw [Nat.zero_add] at h4
  exact ⟨by simpa [World.setCell] using h.lt, ⟨(oth (by omega)).trans h0, (oth (by omega)).trans h1, (oth (by omega)).trans h2, (oth (by omega)).trans h3, by rw [Nat.zero_add]; exact sam h4⟩, fun j => by rw [World.frozen?_setCell]; exact h.f j⟩
theorem V5.tk {w w' : World} {p b : Nat} {e : M.Ev} (h : V5 w b e) (ht : TK w p w') (hne : b ≠ p) : V5 w' b e :=
  ⟨Nat.lt_of_lt_of_le h.lt ht.bel.size, ⟨ht.cell h.lt hne h.c.c0, ht.cell h.lt hne h.c.c1, ht.cell h.lt hne h.c.c2, ht.cell h.lt hne h.c.c3, ht.cell h.lt hne h.c.c4⟩, fun j => ht.froz h.lt hne (h.f j)⟩
theorem TK.put {w w' : World} {p b o : Nat} (h : TK w p w') (hb : w.heap.size ≤ b) (hp : p < w.heap.size) (v : Value) : TK w p (w'.setCell ⟨b, o, none⟩ v) :=
  ⟨h.bel.setCell (p := ⟨b, o, none⟩) (by show p ≤ b; omega) _, fun c h1 h2 => (heap_setCell_other _ _ _ _ (by show c ≠ b; omega)).trans (h.blk c h1 h2)⟩
theorem Rt.other {w : World} {p k b o : Nat} {s : ByteArray} (h : Rt w p s k) (hne : b ≠ p) (v : Value) : Rt (w.setCell ⟨b, o, none⟩ v) p s k :=
  ⟨by simpa using h.lt, (World.cell?_setCell_other _ _ _ _ (by intro e; cases e; exact hne rfl)).trans h.c0, (World.cell?_setCell_other _ _ _ _ (by intro e; cases e; exact hne rfl)).trans h.c1, (World.frozen?_setCell _ _ _ _).trans h.f1⟩
theorem V5.other {w : World} {b c o : Nat} {e : M.Ev} (h : V5 w b e) (hne : c ≠ b) (v : Value) : V5 (w.setCell ⟨c, o, none⟩ v) b e := by
  have K : ∀ i u, w.cell? ⟨b, i, none⟩ = some u → (w.setCell ⟨c, o, none⟩ v).cell? ⟨b, i, none⟩ = some u := fun i u hu => (World.cell?_setCell_other _ _ _ _ (by intro e; cases e; exact hne rfl)).trans hu
  exact ⟨by simpa using h.lt, ⟨K _ _ h.c.c0, K _ _ h.c.c1, K _ _ h.c.c2, K _ _ h.c.c3, K _ _ h.c.c4⟩, fun j => (World.frozen?_setCell _ _ _ _).trans (h.f j)⟩
theorem M.rw_bd {r : List Nat} (hb : ∀ x ∈ r, x < 256) (h : (M.rw' 4 0 r).1 = true) : (M.rw' 4 0 r).2.1 ≤ 268435455 := by
  rcases hq : M.rw' 4 0 r with ⟨o, n, r'⟩
  rw [hq] at h
  simp only at h
  subst h
  exact (M.rw_back hb hq).2
theorem At.bytes {s : ByteArray} {k : Nat} {r : List Nat} (h : At s k r) : ∀ x ∈ r, x < 256 := fun x hx => tx_lt s x (by rw [← h.e] at hx; exact List.mem_of_mem_drop hx)
set_option maxRecDepth 20000 in
set_option maxHeartbeats 8000000 in
theorem event_any (ah : M.Ev) (p k : Nat) (s : ByteArray) (r : List Nat) (w : World) (hR : Rt w p s k) (ha : At s k r) (hs : s.size ≤ maxLen) (h0 : 0 ≤ ah.t) (h1 : ah.t ≤ 1152921504606846976) :
    Calls Try.prog 35 #[.pointer (some ⟨p, 0, none⟩), ea ah] w fun e w' => e = .returned (.tuple #[ea (M.re ah r).2.1, .bool (M.re ah r).1]) ∧ Rd w w' p s (M.re ah r).2.2 := by
  have HW := fun w hR => wait_any p k s r w hR ha hs
  have HH := fun r k w hR ha => head_any ah p k s r w hR ha hs
  have HP := fun r k w hR ha => part_any p k s r w hR ha hs
  have HB := hasB_any
  have hbd := M.rw_bd ha.bytes
  obtain ⟨R, hR0⟩ : ∃ R, R = M.re ah r := ⟨_, rfl⟩
  rw [← hR0]
  unfold M.re at hR0
  have lt0 := hR.lt
  have hb0 : ∀ o1 o2, Below w.heap.size w ((w.alloc o1).alloc o2) := fun o1 o2 => by go_grown
  have hv0 : ∀ o1 : Obj, V5 ((w.alloc o1).alloc (.cells #[.int .i64 0, .int .i64 0, .int .i64 0, .int .i64 0, .int .i64 0] 62)) (w.heap.size + 1) M.z0 := fun o1 =>
    ⟨by simp, ⟨by simp [go_sem], by simp [go_sem], by simp [go_sem], by simp [go_sem], by simp [go_sem]⟩, fun j => by simp [go_sem]⟩
  obtain ⟨at', ak, ac, aa, ab⟩ := ah
  have hx0 : ∀ o2 : Obj, V5 ((w.alloc (.cells #[.int .i64 at', .int .i64 ak, .int .i64 ac, .int .i64 aa, .int .i64 ab] 62)).alloc o2) w.heap.size ⟨at', ak, ac, aa, ab⟩ := fun o2 =>
    ⟨by simp; omega, ⟨by simp [go_sem], by simp [go_sem], by simp [go_sem], by simp [go_sem], by simp [go_sem]⟩, fun j => by simp [go_sem]⟩
  simp only at h0 h1 hR0
  generalize M.rw' 4 0 r = RW at *
  obtain ⟨o1, n, l1⟩ := RW
  simp only at hR0 hbd HW
  have HR0 : Hid _ := hR0
  clear hR0
  go_enter Try.func35, Try.ntmps35
  go_wp2_with fail
  refine (HW _ (hR.step (hb0 _ _))).mono ?_
  rintro e w1 ⟨rfl, rd1⟩
  have T1 : Hid (TK w p w1) := (TK.below (hb0 _ _) lt0).trans rd1.tk
  have v1 : V5 w1 (w.heap.size + 1) M.z0 := (hv0 _).tk rd1.tk (by omega)
  have x1 : V5 w1 w.heap.size ⟨at', ak, ac, aa, ab⟩ := (hx0 _).tk rd1.tk (by omega)
  obtain ⟨j1, r1, a1⟩ := rd1.at'
  clear hv0 hx0 hb0 HW rd1 ha hR
  cases o1
  · have hV : R = (false, M.z0, l1) := by have := HR0.out; simpa using this
    subst hV
    clear HR0 hbd
    have pc0 := v1.c.c0
    have pc1 := v1.c.c1
    have pc2 := v1.c.c2
    have pc3 := v1.c.c3
    have pc4 := v1.c.c4
    rw [Nat.zero_add] at pc1 pc2 pc3 pc4
    have pf0 := v1.f 0
    have pf1 := v1.f 1
    have pf2 := v1.f 2
    have pf3 := v1.f 3
    have pf4 := v1.f 4
    have plt := v1.lt
    have vE : V5 (((((w1.setCell ⟨w.heap.size + 1, 0, none⟩ (.int .i64 (0))).setCell ⟨w.heap.size + 1, 1, none⟩ (.int .i64 (0))).setCell ⟨w.heap.size + 1, 2, none⟩ (.int .i64 (0))).setCell ⟨w.heap.size + 1, 3, none⟩ (.int .i64 (0))).setCell ⟨w.heap.size + 1, 4, none⟩ (.int .i64 (0))) (w.heap.size + 1) M.z0 := v1.put M.z0
    have rE : Rt (((((w1.setCell ⟨w.heap.size + 1, 0, none⟩ (.int .i64 (0))).setCell ⟨w.heap.size + 1, 1, none⟩ (.int .i64 (0))).setCell ⟨w.heap.size + 1, 2, none⟩ (.int .i64 (0))).setCell ⟨w.heap.size + 1, 3, none⟩ (.int .i64 (0))).setCell ⟨w.heap.size + 1, 4, none⟩ (.int .i64 (0))) p s j1 := (((((r1.other (b := w.heap.size + 1) (o := 0) (by omega) (.int .i64 (M.z0 : M.Ev).t)).other (b := w.heap.size + 1) (o := 1) (by omega) (.int .i64 (M.z0 : M.Ev).k)).other (b := w.heap.size + 1) (o := 2) (by omega) (.int .i64 (M.z0 : M.Ev).c)).other (b := w.heap.size + 1) (o := 3) (by omega) (.int .i64 (M.z0 : M.Ev).a)).other (b := w.heap.size + 1) (o := 4) (by omega) (.int .i64 (M.z0 : M.Ev).b))
    have tE : TK w p (((((w1.setCell ⟨w.heap.size + 1, 0, none⟩ (.int .i64 (0))).setCell ⟨w.heap.size + 1, 1, none⟩ (.int .i64 (0))).setCell ⟨w.heap.size + 1, 2, none⟩ (.int .i64 (0))).setCell ⟨w.heap.size + 1, 3, none⟩ (.int .i64 (0))).setCell ⟨w.heap.size + 1, 4, none⟩ (.int .i64 (0))) := (((((T1.out.put (b := w.heap.size + 1) (o := 0) (by omega) lt0 (.int .i64 (M.z0 : M.Ev).t)).put (b := w.heap.size + 1) (o := 1) (by omega) lt0 (.int .i64 (M.z0 : M.Ev).k)).put (b := w.heap.size + 1) (o := 2) (by omega) lt0 (.int .i64 (M.z0 : M.Ev).c)).put (b := w.heap.size + 1) (o := 3) (by omega) lt0 (.int .i64 (M.z0 : M.Ev).a)).put (b := w.heap.size + 1) (o := 4) (by omega) lt0 (.int .i64 (M.z0 : M.Ev).b))
    go_wp2_with fail
    generalize (((((w1.setCell ⟨w.heap.size + 1, 0, none⟩ (.int .i64 (0))).setCell ⟨w.heap.size + 1, 1, none⟩ (.int .i64 (0))).setCell ⟨w.heap.size + 1, 2, none⟩ (.int .i64 (0))).setCell ⟨w.heap.size + 1, 3, none⟩ (.int .i64 (0))).setCell ⟨w.heap.size + 1, 4, none⟩ (.int .i64 (0))) = WE at *
    have gc0 := vE.c.c0
    have gc1 := vE.c.c1
    have gc2 := vE.c.c2
    have gc3 := vE.c.c3
    have gc4 := vE.c.c4
    rw [Nat.zero_add] at gc1 gc2 gc3 gc4
    refine bodyPost_ret (v := .tuple #[ea M.z0, .bool false]) (by simp [results, Try.results35, go_sem, gc0, gc1, gc2, gc3, gc4]) rfl ⟨rfl, ⟨⟨j1, rE, a1⟩, tE⟩⟩
  have hn := hbd rfl
  have wn : IntKind.i64.wrap (at' + (n : Int)) = at' + (n : Int) := wid (by omega) (by omega)
  clear hbd
  have pc0 := v1.c.c0
  have pc1 := v1.c.c1
  have pc2 := v1.c.c2
  have pc3 := v1.c.c3
  have pc4 := v1.c.c4
  rw [Nat.zero_add] at pc1 pc2 pc3 pc4
  have pf0 := v1.f 0
  have pf1 := v1.f 1
  have pf2 := v1.f 2
  have pf3 := v1.f 3
  have pf4 := v1.f 4
  have plt := v1.lt
  have qc0 := x1.c.c0
  have qc1 := x1.c.c1
  have qc2 := x1.c.c2
  have qc3 := x1.c.c3
  have qc4 := x1.c.c4
  rw [Nat.zero_add] at qc1 qc2 qc3 qc4
  have qlt := x1.lt
  go_wp2_with fail
  refine (HH l1 j1 _ (r1.other (by omega) _) a1).mono ?_
  rintro e w2 ⟨⟨kk, cc, rfl, hkc⟩, rd2⟩
  have T2 : Hid (TK w p w2) := (T1.out.put (b := w.heap.size + 1) (o := 0) (by omega) lt0 _).trans rd2.tk
  have v2 : V5 w2 (w.heap.size + 1) ⟨at' + (n : Int), 0, 0, 0, 0⟩ := (v1.set0 (at' + (n : Int))).tk rd2.tk (by omega)
  obtain ⟨j2, r2, a2⟩ := rd2.at'
  clear pc0 pc1 pc2 pc3 pc4 pf0 pf1 pf2 pf3 pf4 plt
  clear qc0 qc1 qc2 qc3 qc4 qlt
  clear rd2 v1 x1 r1 a1 T1 HH wn
  generalize M.rh ⟨at', ak, ac, aa, ab⟩ l1 = RH at *
  obtain ⟨o2, K, C, l2⟩ := RH
  simp only at hkc a2
  have pc0 := v2.c.c0
  have pc1 := v2.c.c1
  have pc2 := v2.c.c2
  have pc3 := v2.c.c3
  have pc4 := v2.c.c4
  rw [Nat.zero_add] at pc1 pc2 pc3 pc4
  have pf0 := v2.f 0
  have pf1 := v2.f 1
  have pf2 := v2.f 2
  have pf3 := v2.f 3
  have pf4 := v2.f 4
  have plt := v2.lt
  cases o2
  · have hV : R = (false, M.z0, l2) := by have := HR0.out; simpa using this
    subst hV
    clear HR0 hkc
    have vE : V5 (((((((w2.setCell ⟨w.heap.size + 1, 1, none⟩ (.int .i64 kk)).setCell ⟨w.heap.size + 1, 2, none⟩ (.int .i64 cc)).setCell ⟨w.heap.size + 1, 0, none⟩ (.int .i64 (0))).setCell ⟨w.heap.size + 1, 1, none⟩ (.int .i64 (0))).setCell ⟨w.heap.size + 1, 2, none⟩ (.int .i64 (0))).setCell ⟨w.heap.size + 1, 3, none⟩ (.int .i64 (0))).setCell ⟨w.heap.size + 1, 4, none⟩ (.int .i64 (0))) (w.heap.size + 1) M.z0 := ((v2.set1 kk).set2 cc).put M.z0
    have rE : Rt (((((((w2.setCell ⟨w.heap.size + 1, 1, none⟩ (.int .i64 kk)).setCell ⟨w.heap.size + 1, 2, none⟩ (.int .i64 cc)).setCell ⟨w.heap.size + 1, 0, none⟩ (.int .i64 (0))).setCell ⟨w.heap.size + 1, 1, none⟩ (.int .i64 (0))).setCell ⟨w.heap.size + 1, 2, none⟩ (.int .i64 (0))).setCell ⟨w.heap.size + 1, 3, none⟩ (.int .i64 (0))).setCell ⟨w.heap.size + 1, 4, none⟩ (.int .i64 (0))) p s j2 := (((((((r2.other (b := w.heap.size + 1) (o := 1) (by omega) (.int .i64 kk)).other (b := w.heap.size + 1) (o := 2) (by omega) (.int .i64 cc)).other (b := w.heap.size + 1) (o := 0) (by omega) (.int .i64 (M.z0 : M.Ev).t)).other (b := w.heap.size + 1) (o := 1) (by omega) (.int .i64 (M.z0 : M.Ev).k)).other (b := w.heap.size + 1) (o := 2) (by omega) (.int .i64 (M.z0 : M.Ev).c)).other (b := w.heap.size + 1) (o := 3) (by omega) (.int .i64 (M.z0 : M.Ev).a)).other (b := w.heap.size + 1) (o := 4) (by omega) (.int .i64 (M.z0 : M.Ev).b))
    have tE : TK w p (((((((w2.setCell ⟨w.heap.size + 1, 1, none⟩ (.int .i64 kk)).setCell ⟨w.heap.size + 1, 2, none⟩ (.int .i64 cc)).setCell ⟨w.heap.size + 1, 0, none⟩ (.int .i64 (0))).setCell ⟨w.heap.size + 1, 1, none⟩ (.int .i64 (0))).setCell ⟨w.heap.size + 1, 2, none⟩ (.int .i64 (0))).setCell ⟨w.heap.size + 1, 3, none⟩ (.int .i64 (0))).setCell ⟨w.heap.size + 1, 4, none⟩ (.int .i64 (0))) := (((((((T2.out.put (b := w.heap.size + 1) (o := 1) (by omega) lt0 (.int .i64 kk)).put (b := w.heap.size + 1) (o := 2) (by omega) lt0 (.int .i64 cc)).put (b := w.heap.size + 1) (o := 0) (by omega) lt0 (.int .i64 (M.z0 : M.Ev).t)).put (b := w.heap.size + 1) (o := 1) (by omega) lt0 (.int .i64 (M.z0 : M.Ev).k)).put (b := w.heap.size + 1) (o := 2) (by omega) lt0 (.int .i64 (M.z0 : M.Ev).c)).put (b := w.heap.size + 1) (o := 3) (by omega) lt0 (.int .i64 (M.z0 : M.Ev).a)).put (b := w.heap.size + 1) (o := 4) (by omega) lt0 (.int .i64 (M.z0 : M.Ev).b))
    go_wp2_with fail
    generalize (((((((w2.setCell ⟨w.heap.size + 1, 1, none⟩ (.int .i64 kk)).setCell ⟨w.heap.size + 1, 2, none⟩ (.int .i64 cc)).setCell ⟨w.heap.size + 1, 0, none⟩ (.int .i64 (0))).setCell ⟨w.heap.size + 1, 1, none⟩ (.int .i64 (0))).setCell ⟨w.heap.size + 1, 2, none⟩ (.int .i64 (0))).setCell ⟨w.heap.size + 1, 3, none⟩ (.int .i64 (0))).setCell ⟨w.heap.size + 1, 4, none⟩ (.int .i64 (0))) = WE at *
    have gc0 := vE.c.c0
    have gc1 := vE.c.c1
    have gc2 := vE.c.c2
    have gc3 := vE.c.c3
    have gc4 := vE.c.c4
    rw [Nat.zero_add] at gc1 gc2 gc3 gc4
    refine bodyPost_ret (v := .tuple #[ea M.z0, .bool false]) (by simp [results, Try.results35, go_sem, gc0, gc1, gc2, gc3, gc4]) rfl ⟨rfl, ⟨⟨j2, rE, a2⟩, tE⟩⟩
  obtain ⟨rfl, rfl⟩ := hkc rfl
  go_wp2_with fail
  refine (HP l2 j2 _ ((r2.other (b := w.heap.size + 1) (o := 1) (by omega) (.int .i64 kk)).other (b := w.heap.size + 1) (o := 2) (by omega) (.int .i64 cc)) a2).mono ?_
  rintro e w3 ⟨j3, rfl, r3, a3, t3⟩
  have T3 : Hid (TK w p w3) := (((T2.out.put (b := w.heap.size + 1) (o := 1) (by omega) lt0 (.int .i64 kk)).put (b := w.heap.size + 1) (o := 2) (by omega) lt0 (.int .i64 cc))).trans t3
  have v3 : V5 w3 (w.heap.size + 1) ⟨at' + (n : Int), kk, cc, 0, 0⟩ := ((v2.set1 kk).set2 cc).tk t3 (by omega)
  clear pc0 pc1 pc2 pc3 pc4 pf0 pf1 pf2 pf3 pf4 plt
  clear t3 v2 r2 a2 T2
  have HBk := HB kk
  have HP2 := fun k w hR ha => HP (M.rp l2).2.2 k w hR ha
  generalize M.rp l2 = RP at *
  obtain ⟨o3, A, l3⟩ := RP
  simp only at a3 HP2
  have pc0 := v3.c.c0
  have pc1 := v3.c.c1
  have pc2 := v3.c.c2
  have pc3 := v3.c.c3
  have pc4 := v3.c.c4
  rw [Nat.zero_add] at pc1 pc2 pc3 pc4
  have pf0 := v3.f 0
  have pf1 := v3.f 1
  have pf2 := v3.f 2
  have pf3 := v3.f 3
  have pf4 := v3.f 4
  have plt := v3.lt
  cases o3
  · have hV : R = (false, M.z0, l3) := by have := HR0.out; simpa using this
    subst hV
    clear HR0 HP HP2
    have vE : V5 ((((((w3.setCell ⟨w.heap.size + 1, 3, none⟩ (.int .i64 (A : Int))).setCell ⟨w.heap.size + 1, 0, none⟩ (.int .i64 (0))).setCell ⟨w.heap.size + 1, 1, none⟩ (.int .i64 (0))).setCell ⟨w.heap.size + 1, 2, none⟩ (.int .i64 (0))).setCell ⟨w.heap.size + 1, 3, none⟩ (.int .i64 (0))).setCell ⟨w.heap.size + 1, 4, none⟩ (.int .i64 (0))) (w.heap.size + 1) M.z0 := (v3.set3 (A : Int)).put M.z0
    have rE : Rt ((((((w3.setCell ⟨w.heap.size + 1, 3, none⟩ (.int .i64 (A : Int))).setCell ⟨w.heap.size + 1, 0, none⟩ (.int .i64 (0))).setCell ⟨w.heap.size + 1, 1, none⟩ (.int .i64 (0))).setCell ⟨w.heap.size + 1, 2, none⟩ (.int .i64 (0))).setCell ⟨w.heap.size + 1, 3, none⟩ (.int .i64 (0))).setCell ⟨w.heap.size + 1, 4, none⟩ (.int .i64 (0))) p s j3 := ((((((r3.other (b := w.heap.size + 1) (o := 3) (by omega) (.int .i64 (A : Int))).other (b := w.heap.size + 1) (o := 0) (by omega) (.int .i64 (M.z0 : M.Ev).t)).other (b := w.heap.size + 1) (o := 1) (by omega) (.int .i64 (M.z0 : M.Ev).k)).other (b := w.heap.size + 1) (o := 2) (by omega) (.int .i64 (M.z0 : M.Ev).c)).other (b := w.heap.size + 1) (o := 3) (by omega) (.int .i64 (M.z0 : M.Ev).a)).other (b := w.heap.size + 1) (o := 4) (by omega) (.int .i64 (M.z0 : M.Ev).b))
    have tE : TK w p ((((((w3.setCell ⟨w.heap.size + 1, 3, none⟩ (.int .i64 (A : Int))).setCell ⟨w.heap.size + 1, 0, none⟩ (.int .i64 (0))).setCell ⟨w.heap.size + 1, 1, none⟩ (.int .i64 (0))).setCell ⟨w.heap.size + 1, 2, none⟩ (.int .i64 (0))).setCell ⟨w.heap.size + 1, 3, none⟩ (.int .i64 (0))).setCell ⟨w.heap.size + 1, 4, none⟩ (.int .i64 (0))) := ((((((T3.out.put (b := w.heap.size + 1) (o := 3) (by omega) lt0 (.int .i64 (A : Int))).put (b := w.heap.size + 1) (o := 0) (by omega) lt0 (.int .i64 (M.z0 : M.Ev).t)).put (b := w.heap.size + 1) (o := 1) (by omega) lt0 (.int .i64 (M.z0 : M.Ev).k)).put (b := w.heap.size + 1) (o := 2) (by omega) lt0 (.int .i64 (M.z0 : M.Ev).c)).put (b := w.heap.size + 1) (o := 3) (by omega) lt0 (.int .i64 (M.z0 : M.Ev).a)).put (b := w.heap.size + 1) (o := 4) (by omega) lt0 (.int .i64 (M.z0 : M.Ev).b))
    go_wp2_with fail
    generalize ((((((w3.setCell ⟨w.heap.size + 1, 3, none⟩ (.int .i64 (A : Int))).setCell ⟨w.heap.size + 1, 0, none⟩ (.int .i64 (0))).setCell ⟨w.heap.size + 1, 1, none⟩ (.int .i64 (0))).setCell ⟨w.heap.size + 1, 2, none⟩ (.int .i64 (0))).setCell ⟨w.heap.size + 1, 3, none⟩ (.int .i64 (0))).setCell ⟨w.heap.size + 1, 4, none⟩ (.int .i64 (0))) = WE at *
    have gc0 := vE.c.c0
    have gc1 := vE.c.c1
    have gc2 := vE.c.c2
    have gc3 := vE.c.c3
    have gc4 := vE.c.c4
    rw [Nat.zero_add] at gc1 gc2 gc3 gc4
    refine bodyPost_ret (v := .tuple #[ea M.z0, .bool false]) (by simp [results, Try.results35, go_sem, gc0, gc1, gc2, gc3, gc4]) rfl ⟨rfl, ⟨⟨j3, rE, a3⟩, tE⟩⟩
  go_wp2_with fail
  refine (HBk _).mono ?_
  rintro e w9 ⟨rfl, hw9⟩
  rw [hw9]
  clear hw9
  by_cases ck : kk = 12
  · have ck' : (kk != 12) = false := by simp [ck]
    have hV : Hid (R = (true, ⟨at' + (n : Int), kk, cc, (A : Int), 0⟩, l3)) := by show _ = _; have := HR0.out; simpa [ck] using this
    clear HR0 HP HP2 ck
    have vE : V5 ((((((w3.setCell ⟨w.heap.size + 1, 3, none⟩ (.int .i64 (A : Int))).setCell ⟨w.heap.size + 1, 0, none⟩ (.int .i64 (at' + (n : Int)))).setCell ⟨w.heap.size + 1, 1, none⟩ (.int .i64 (kk))).setCell ⟨w.heap.size + 1, 2, none⟩ (.int .i64 (cc))).setCell ⟨w.heap.size + 1, 3, none⟩ (.int .i64 ((A : Int)))).setCell ⟨w.heap.size + 1, 4, none⟩ (.int .i64 (0))) (w.heap.size + 1) ⟨at' + (n : Int), kk, cc, (A : Int), 0⟩ := (v3.set3 (A : Int)).put ⟨at' + (n : Int), kk, cc, (A : Int), 0⟩
    have rE : Rt ((((((w3.setCell ⟨w.heap.size + 1, 3, none⟩ (.int .i64 (A : Int))).setCell ⟨w.heap.size + 1, 0, none⟩ (.int .i64 (at' + (n : Int)))).setCell ⟨w.heap.size + 1, 1, none⟩ (.int .i64 (kk))).setCell ⟨w.heap.size + 1, 2, none⟩ (.int .i64 (cc))).setCell ⟨w.heap.size + 1, 3, none⟩ (.int .i64 ((A : Int)))).setCell ⟨w.heap.size + 1, 4, none⟩ (.int .i64 (0))) p s j3 := ((((((r3.other (b := w.heap.size + 1) (o := 3) (by omega) (.int .i64 (A : Int))).other (b := w.heap.size + 1) (o := 0) (by omega) (.int .i64 (⟨at' + (n : Int), kk, cc, (A : Int), 0⟩ : M.Ev).t)).other (b := w.heap.size + 1) (o := 1) (by omega) (.int .i64 (⟨at' + (n : Int), kk, cc, (A : Int), 0⟩ : M.Ev).k)).other (b := w.heap.size + 1) (o := 2) (by omega) (.int .i64 (⟨at' + (n : Int), kk, cc, (A : Int), 0⟩ : M.Ev).c)).other (b := w.heap.size + 1) (o := 3) (by omega) (.int .i64 (⟨at' + (n : Int), kk, cc, (A : Int), 0⟩ : M.Ev).a)).other (b := w.heap.size + 1) (o := 4) (by omega) (.int .i64 (⟨at' + (n : Int), kk, cc, (A : Int), 0⟩ : M.Ev).b))
    have tE : TK w p ((((((w3.setCell ⟨w.heap.size + 1, 3, none⟩ (.int .i64 (A : Int))).setCell ⟨w.heap.size + 1, 0, none⟩ (.int .i64 (at' + (n : Int)))).setCell ⟨w.heap.size + 1, 1, none⟩ (.int .i64 (kk))).setCell ⟨w.heap.size + 1, 2, none⟩ (.int .i64 (cc))).setCell ⟨w.heap.size + 1, 3, none⟩ (.int .i64 ((A : Int)))).setCell ⟨w.heap.size + 1, 4, none⟩ (.int .i64 (0))) := ((((((T3.out.put (b := w.heap.size + 1) (o := 3) (by omega) lt0 (.int .i64 (A : Int))).put (b := w.heap.size + 1) (o := 0) (by omega) lt0 (.int .i64 (⟨at' + (n : Int), kk, cc, (A : Int), 0⟩ : M.Ev).t)).put (b := w.heap.size + 1) (o := 1) (by omega) lt0 (.int .i64 (⟨at' + (n : Int), kk, cc, (A : Int), 0⟩ : M.Ev).k)).put (b := w.heap.size + 1) (o := 2) (by omega) lt0 (.int .i64 (⟨at' + (n : Int), kk, cc, (A : Int), 0⟩ : M.Ev).c)).put (b := w.heap.size + 1) (o := 3) (by omega) lt0 (.int .i64 (⟨at' + (n : Int), kk, cc, (A : Int), 0⟩ : M.Ev).a)).put (b := w.heap.size + 1) (o := 4) (by omega) lt0 (.int .i64 (⟨at' + (n : Int), kk, cc, (A : Int), 0⟩ : M.Ev).b))
    go_wp2_with fail
    generalize ((((((w3.setCell ⟨w.heap.size + 1, 3, none⟩ (.int .i64 (A : Int))).setCell ⟨w.heap.size + 1, 0, none⟩ (.int .i64 (at' + (n : Int)))).setCell ⟨w.heap.size + 1, 1, none⟩ (.int .i64 (kk))).setCell ⟨w.heap.size + 1, 2, none⟩ (.int .i64 (cc))).setCell ⟨w.heap.size + 1, 3, none⟩ (.int .i64 ((A : Int)))).setCell ⟨w.heap.size + 1, 4, none⟩ (.int .i64 (0))) = WE at *
    have gc0 := vE.c.c0
    have gc1 := vE.c.c1
    have gc2 := vE.c.c2
    have gc3 := vE.c.c3
    have gc4 := vE.c.c4
    rw [Nat.zero_add] at gc1 gc2 gc3 gc4
    refine bodyPost_ret (v := .tuple #[ea ⟨at' + (n : Int), kk, cc, (A : Int), 0⟩, .bool true]) (by simp [results, Try.results35, go_sem, gc0, gc1, gc2, gc3, gc4]) rfl ⟨by rw [hV.out], ⟨⟨j3, rE, by rw [hV.out]; exact a3⟩, tE⟩⟩
  · have ck' : (kk != 12) = true := by simp [ck]
    have ck2 : Hid (¬ kk = 12) := ck
    clear ck
    go_wp2_with fail
    refine (HP2 j3 _ (r3.other (b := w.heap.size + 1) (o := 3) (by omega) (.int .i64 (A : Int))) a3).mono ?_
    rintro e w4 ⟨j4, rfl, r4, a4, t4⟩
    have T4 : Hid (TK w p w4) := ((T3.out.put (b := w.heap.size + 1) (o := 3) (by omega) lt0 (.int .i64 (A : Int)))).trans t4
    have v4 : V5 w4 (w.heap.size + 1) ⟨at' + (n : Int), kk, cc, (A : Int), 0⟩ := (v3.set3 (A : Int)).tk t4 (by omega)
    clear pc0 pc1 pc2 pc3 pc4 pf0 pf1 pf2 pf3 pf4 plt
    clear t4 v3 r3 a3 T3 HP HP2
    generalize M.rp l3 = RQ at *
    obtain ⟨o4, B4, l4⟩ := RQ
    simp only at a4
    have pc0 := v4.c.c0
    have pc1 := v4.c.c1
    have pc2 := v4.c.c2
    have pc3 := v4.c.c3
    have pc4 := v4.c.c4
    rw [Nat.zero_add] at pc1 pc2 pc3 pc4
    have pf0 := v4.f 0
    have pf1 := v4.f 1
    have pf2 := v4.f 2
    have pf3 := v4.f 3
    have pf4 := v4.f 4
    have plt := v4.lt
    cases o4
    · have hV : R = (false, M.z0, l4) := by have h9 := HR0.out; have h8 := ck2.out; simpa [h8] using h9
      subst hV
      clear HR0
      have vE : V5 ((((((w4.setCell ⟨w.heap.size + 1, 4, none⟩ (.int .i64 (B4 : Int))).setCell ⟨w.heap.size + 1, 0, none⟩ (.int .i64 (0))).setCell ⟨w.heap.size + 1, 1, none⟩ (.int .i64 (0))).setCell ⟨w.heap.size + 1, 2, none⟩ (.int .i64 (0))).setCell ⟨w.heap.size + 1, 3, none⟩ (.int .i64 (0))).setCell ⟨w.heap.size + 1, 4, none⟩ (.int .i64 (0))) (w.heap.size + 1) M.z0 := (v4.set4 (B4 : Int)).put M.z0
      have rE : Rt ((((((w4.setCell ⟨w.heap.size + 1, 4, none⟩ (.int .i64 (B4 : Int))).setCell ⟨w.heap.size + 1, 0, none⟩ (.int .i64 (0))).setCell ⟨w.heap.size + 1, 1, none⟩ (.int .i64 (0))).setCell ⟨w.heap.size + 1, 2, none⟩ (.int .i64 (0))).setCell ⟨w.heap.size + 1, 3, none⟩ (.int .i64 (0))).setCell ⟨w.heap.size + 1, 4, none⟩ (.int .i64 (0))) p s j4 := ((((((r4.other (b := w.heap.size + 1) (o := 4) (by omega) (.int .i64 (B4 : Int))).other (b := w.heap.size + 1) (o := 0) (by omega) (.int .i64 (M.z0 : M.Ev).t)).other (b := w.heap.size + 1) (o := 1) (by omega) (.int .i64 (M.z0 : M.Ev).k)).other (b := w.heap.size + 1) (o := 2) (by omega) (.int .i64 (M.z0 : M.Ev).c)).other (b := w.heap.size + 1) (o := 3) (by omega) (.int .i64 (M.z0 : M.Ev).a)).other (b := w.heap.size + 1) (o := 4) (by omega) (.int .i64 (M.z0 : M.Ev).b))
      have tE : TK w p ((((((w4.setCell ⟨w.heap.size + 1, 4, none⟩ (.int .i64 (B4 : Int))).setCell ⟨w.heap.size + 1, 0, none⟩ (.int .i64 (0))).setCell ⟨w.heap.size + 1, 1, none⟩ (.int .i64 (0))).setCell ⟨w.heap.size + 1, 2, none⟩ (.int .i64 (0))).setCell ⟨w.heap.size + 1, 3, none⟩ (.int .i64 (0))).setCell ⟨w.heap.size + 1, 4, none⟩ (.int .i64 (0))) := ((((((T4.out.put (b := w.heap.size + 1) (o := 4) (by omega) lt0 (.int .i64 (B4 : Int))).put (b := w.heap.size + 1) (o := 0) (by omega) lt0 (.int .i64 (M.z0 : M.Ev).t)).put (b := w.heap.size + 1) (o := 1) (by omega) lt0 (.int .i64 (M.z0 : M.Ev).k)).put (b := w.heap.size + 1) (o := 2) (by omega) lt0 (.int .i64 (M.z0 : M.Ev).c)).put (b := w.heap.size + 1) (o := 3) (by omega) lt0 (.int .i64 (M.z0 : M.Ev).a)).put (b := w.heap.size + 1) (o := 4) (by omega) lt0 (.int .i64 (M.z0 : M.Ev).b))
      go_wp2_with fail
      generalize ((((((w4.setCell ⟨w.heap.size + 1, 4, none⟩ (.int .i64 (B4 : Int))).setCell ⟨w.heap.size + 1, 0, none⟩ (.int .i64 (0))).setCell ⟨w.heap.size + 1, 1, none⟩ (.int .i64 (0))).setCell ⟨w.heap.size + 1, 2, none⟩ (.int .i64 (0))).setCell ⟨w.heap.size + 1, 3, none⟩ (.int .i64 (0))).setCell ⟨w.heap.size + 1, 4, none⟩ (.int .i64 (0))) = WE at *
      have gc0 := vE.c.c0
      have gc1 := vE.c.c1
      have gc2 := vE.c.c2
      have gc3 := vE.c.c3
      have gc4 := vE.c.c4
      rw [Nat.zero_add] at gc1 gc2 gc3 gc4
      refine bodyPost_ret (v := .tuple #[ea M.z0, .bool false]) (by simp [results, Try.results35, go_sem, gc0, gc1, gc2, gc3, gc4]) rfl ⟨rfl, ⟨⟨j4, rE, a4⟩, tE⟩⟩
    · have hV : Hid (R = (true, ⟨at' + (n : Int), kk, cc, (A : Int), (B4 : Int)⟩, l4)) := by show _ = _; have h9 := HR0.out; have h8 := ck2.out; simpa [h8] using h9
      clear HR0
      have vE : V5 ((((((w4.setCell ⟨w.heap.size + 1, 4, none⟩ (.int .i64 (B4 : Int))).setCell ⟨w.heap.size + 1, 0, none⟩ (.int .i64 (at' + (n : Int)))).setCell ⟨w.heap.size + 1, 1, none⟩ (.int .i64 (kk))).setCell ⟨w.heap.size + 1, 2, none⟩ (.int .i64 (cc))).setCell ⟨w.heap.size + 1, 3, none⟩ (.int .i64 ((A : Int)))).setCell ⟨w.heap.size + 1, 4, none⟩ (.int .i64 ((B4 : Int)))) (w.heap.size + 1) ⟨at' + (n : Int), kk, cc, (A : Int), (B4 : Int)⟩ := (v4.set4 (B4 : Int)).put ⟨at' + (n : Int), kk, cc, (A : Int), (B4 : Int)⟩
      have rE : Rt ((((((w4.setCell ⟨w.heap.size + 1, 4, none⟩ (.int .i64 (B4 : Int))).setCell ⟨w.heap.size + 1, 0, none⟩ (.int .i64 (at' + (n : Int)))).setCell ⟨w.heap.size + 1, 1, none⟩ (.int .i64 (kk))).setCell ⟨w.heap.size + 1, 2, none⟩ (.int .i64 (cc))).setCell ⟨w.heap.size + 1, 3, none⟩ (.int .i64 ((A : Int)))).setCell ⟨w.heap.size + 1, 4, none⟩ (.int .i64 ((B4 : Int)))) p s j4 := ((((((r4.other (b := w.heap.size + 1) (o := 4) (by omega) (.int .i64 (B4 : Int))).other (b := w.heap.size + 1) (o := 0) (by omega) (.int .i64 (⟨at' + (n : Int), kk, cc, (A : Int), (B4 : Int)⟩ : M.Ev).t)).other (b := w.heap.size + 1) (o := 1) (by omega) (.int .i64 (⟨at' + (n : Int), kk, cc, (A : Int), (B4 : Int)⟩ : M.Ev).k)).other (b := w.heap.size + 1) (o := 2) (by omega) (.int .i64 (⟨at' + (n : Int), kk, cc, (A : Int), (B4 : Int)⟩ : M.Ev).c)).other (b := w.heap.size + 1) (o := 3) (by omega) (.int .i64 (⟨at' + (n : Int), kk, cc, (A : Int), (B4 : Int)⟩ : M.Ev).a)).other (b := w.heap.size + 1) (o := 4) (by omega) (.int .i64 (⟨at' + (n : Int), kk, cc, (A : Int), (B4 : Int)⟩ : M.Ev).b))
      have tE : TK w p ((((((w4.setCell ⟨w.heap.size + 1, 4, none⟩ (.int .i64 (B4 : Int))).setCell ⟨w.heap.size + 1, 0, none⟩ (.int .i64 (at' + (n : Int)))).setCell ⟨w.heap.size + 1, 1, none⟩ (.int .i64 (kk))).setCell ⟨w.heap.size + 1, 2, none⟩ (.int .i64 (cc))).setCell ⟨w.heap.size + 1, 3, none⟩ (.int .i64 ((A : Int)))).setCell ⟨w.heap.size + 1, 4, none⟩ (.int .i64 ((B4 : Int)))) := ((((((T4.out.put (b := w.heap.size + 1) (o := 4) (by omega) lt0 (.int .i64 (B4 : Int))).put (b := w.heap.size + 1) (o := 0) (by omega) lt0 (.int .i64 (⟨at' + (n : Int), kk, cc, (A : Int), (B4 : Int)⟩ : M.Ev).t)).put (b := w.heap.size + 1) (o := 1) (by omega) lt0 (.int .i64 (⟨at' + (n : Int), kk, cc, (A : Int), (B4 : Int)⟩ : M.Ev).k)).put (b := w.heap.size + 1) (o := 2) (by omega) lt0 (.int .i64 (⟨at' + (n : Int), kk, cc, (A : Int), (B4 : Int)⟩ : M.Ev).c)).put (b := w.heap.size + 1) (o := 3) (by omega) lt0 (.int .i64 (⟨at' + (n : Int), kk, cc, (A : Int), (B4 : Int)⟩ : M.Ev).a)).put (b := w.heap.size + 1) (o := 4) (by omega) lt0 (.int .i64 (⟨at' + (n : Int), kk, cc, (A : Int), (B4 : Int)⟩ : M.Ev).b))
      go_wp2_with fail
      generalize ((((((w4.setCell ⟨w.heap.size + 1, 4, none⟩ (.int .i64 (B4 : Int))).setCell ⟨w.heap.size + 1, 0, none⟩ (.int .i64 (at' + (n : Int)))).setCell ⟨w.heap.size + 1, 1, none⟩ (.int .i64 (kk))).setCell ⟨w.heap.size + 1, 2, none⟩ (.int .i64 (cc))).setCell ⟨w.heap.size + 1, 3, none⟩ (.int .i64 ((A : Int)))).setCell ⟨w.heap.size + 1, 4, none⟩ (.int .i64 ((B4 : Int)))) = WE at *
      have gc0 := vE.c.c0
      have gc1 := vE.c.c1
      have gc2 := vE.c.c2
      have gc3 := vE.c.c3
      have gc4 := vE.c.c4
      rw [Nat.zero_add] at gc1 gc2 gc3 gc4
      refine bodyPost_ret (v := .tuple #[ea ⟨at' + (n : Int), kk, cc, (A : Int), (B4 : Int)⟩, .bool true]) (by simp [results, Try.results35, go_sem, gc0, gc1, gc2, gc3, gc4]) rfl ⟨by rw [hV.out], ⟨⟨j4, rE, by rw [hV.out]; exact a4⟩, tE⟩⟩
end Go.Proofs.Ythfjbjcdhgajfag.Z
