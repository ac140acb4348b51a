/- What the program's item comes to where it is one pitch, without a share and a lyric. -/
import Derived.Test.YtaohahahhjkcdaeGreatDoorSG38
import Derived.Test.YtaohahahhjkcdaeGreatDoorSG36
import Derived.Test.YtaohahahhjkcdaeGreatDoorSG32
namespace Go.Proofs.YtaohahahhjkcdaeGreatDoor.J
open Go.RowKit
set_option linter.unusedVariables false
set_option linter.unusedSimpArgs false

theorem RK.put {w w' : World} {p b i : Nat} {v : Value} (h : RK w p w') (hp : p < w.heap.size) (hb : w.heap.size ≤ b ∨ b = p) : RK w p (w'.setCell ⟨b, i, none⟩ v) :=
  ⟨h.bel.setCell (p := ⟨b, i, none⟩) (by show p ≤ b; omega) _, fun c h1 h2 => (heap_setCell_other _ _ _ _ (by show c ≠ b; omega)).trans (h.blk c h1 h2)⟩
theorem RK.alloc {w w' : World} {p : Nat} (h : RK w p w') (hp : p < w.heap.size) (o : Obj) : RK w p (w'.alloc o) :=
  h.trans (TK.below ((Below.refl _ _).alloc (Nat.le_refl _) _) (Nat.lt_of_lt_of_le hp (h.bel.size))).rk
theorem Rt.put2 {w : World} {p k : Nat} {v : Value} {s : ByteArray} (h : Rt w p s k) : Rt (w.setCell ⟨p, 2, none⟩ v) p s k :=
  ⟨by simpa using h.lt, (World.cell?_setCell_other _ _ _ _ (by intro e; cases e)).trans h.c0, (World.cell?_setCell_other _ _ _ _ (by intro e; cases e)).trans h.c1, (World.frozen?_setCell _ _ _ _).trans h.f1⟩

theorem put7p {W : World} {h b i : Nat} {v0 v1 v2 v3 v4 v5 v6 : Value} (hb : h ≠ b) :
    (((((((W.setCell ⟨h, 0, none⟩ v0).setCell ⟨h, 1, none⟩ v1).setCell ⟨h, 2, none⟩ v2).setCell ⟨h, 3, none⟩ v3).setCell ⟨h, 4, none⟩ v4).setCell ⟨h, 5, none⟩ v5).setCell ⟨h, 6, none⟩ v6).cell? ⟨b, i, none⟩ = W.cell? ⟨b, i, none⟩ := by
  have ne : ∀ j, (⟨h, j, none⟩ : Addr) ≠ ⟨b, i, none⟩ := fun j e => by injection e; omega
  rw [World.cell?_setCell_other _ _ _ _ (ne _), World.cell?_setCell_other _ _ _ _ (ne _), World.cell?_setCell_other _ _ _ _ (ne _), World.cell?_setCell_other _ _ _ _ (ne _), World.cell?_setCell_other _ _ _ _ (ne _), World.cell?_setCell_other _ _ _ _ (ne _), World.cell?_setCell_other _ _ _ _ (ne _)]
theorem put7f (W : World) (h : Nat) (v0 v1 v2 v3 v4 v5 v6 : Value) (a : Addr) :
    (((((((W.setCell ⟨h, 0, none⟩ v0).setCell ⟨h, 1, none⟩ v1).setCell ⟨h, 2, none⟩ v2).setCell ⟨h, 3, none⟩ v3).setCell ⟨h, 4, none⟩ v4).setCell ⟨h, 5, none⟩ v5).setCell ⟨h, 6, none⟩ v6).frozen? a = W.frozen? a := by
  rw [World.frozen?_setCell, World.frozen?_setCell, World.frozen?_setCell, World.frozen?_setCell, World.frozen?_setCell, World.frozen?_setCell, World.frozen?_setCell]

set_option maxHeartbeats 4000000 in
theorem item_note (p k N : Nat) (s : ByteArray) (lv : Int) (w : World) (hR : Rt w p s k) (hN : w.cell? ⟨p, 2, none⟩ = some (.int .i64 (N : Int))) (hF : w.frozen? ⟨p, 2, none⟩ = false) (hN2 : N < 4095) (hlv : lv ≤ 31) (hk : k ≤ s.size) (hs : s.size ≤ 65536) (hIA : IA (s.extract (M.skp s k) s.size)) (k0 : (M.wt s k).toList.isEmpty = false) (k1 : ((M.wt s k).toList == [45]) = false) (k2 : ((M.wt s k).toList == [117, 112]) = false) (hE : (P.M.rd (M.wt s k)).2.2.2.1 = 0) (hst : M.st s (M.skp s (M.wn s k)) 42 = false) (hly : M.st s (M.skp s (M.wn s k)) 34 = false) :
    Calls Tryz.prog 59 #[.pointer (some ⟨p, 0, none⟩), .int .i64 lv] w fun x w' => (∃ b, w.heap.size ≤ b ∧ x = .returned (.agg #[.int .i64 1, .int .i64 1, .slice (some ⟨b, 0, none⟩) 1 1, .int .i64 0, .int .i64 0, .string ⟨#[]⟩, .slice none 0 0])) ∧ Rt w' p s (M.skp s (M.wn s k)) ∧ w'.cell? ⟨p, 2, none⟩ = some (.int .i64 ((N + 1 : Nat) : Int)) ∧ w'.frozen? ⟨p, 2, none⟩ = false ∧ RK w p w' := by
  have hle := M.skp_le hk
  have hwz := M.wt_size hk
  have HK := fun W (h : Rt W p s k) => skip_any p k s W h hk (by omega)
  have HTh := fun W (h : Rt W p s (M.skp s k)) => thing_note p (M.skp s k) s lv W h hle.2 hs (by rw [M.skp_skp]; exact hIA) (by rw [M.wt_skp]; exact k0) (by rw [M.wt_skp]; exact k1) (by rw [M.wt_skp]; exact k2) (by rw [M.wt_skp]; exact hE)
  rw [M.wt_skp, M.wn_skp] at HTh
  have HTk := fun W (h : Rt W p s (M.wn s k)) => takes_any p (M.wn s k) s 42 W h hwz.2.2 (by omega)
  rw [hst, if_neg (by decide)] at HTk
  have hwl := M.skp_le hwz.2.2
  have HSe := fun W (h : Rt W p s (M.skp s (M.wn s k))) => sees_any p (M.skp s (M.wn s k)) s 34 W h hwl.2 (by omega)
  rw [M.skp_skp, hly] at HSe
  clear k0 k1 k2 hE hst hly hIA hwz hle
  generalize P.M.rd (M.wt s k) = rr at *
  generalize M.skp s (M.wn s k) = d2 at *
  generalize M.wn s k = d at *
  generalize M.skp s k = j at *
  have w1' : ((N : Int) == 4095) = false := by simp; omega
  have w2' : ¬ (31 : Int) < lv := by omega
  have w3' : IntKind.i64.wrap ((N : Int) + 1) = ((N + 1 : Nat) : Int) := by rw [wid (by omega) (by omega)]; rfl
  have hpw := hR.lt
  go_enter Tryz.func59, Tryz.ntmps59
  go_wp2_with fail
  refine (HK _ (hR.alloc _)).mono ?_
  rintro e w1 ⟨rfl, h1, t1⟩
  have tn := t1.new hR.lt
  have c2 : w1.cell? ⟨p, 2, none⟩ = some (.int .i64 (N : Int)) := (tn.1.oth 2 (by decide)).trans hN
  have f2 : w1.frozen? ⟨p, 2, none⟩ = false := (tn.1.fz 2).trans hF
  have HT : Hid (TK w p w1) := tn.1
  have HB : Hid (w1.heap[w.heap.size]? = _) := tn.2
  have zl : w.heap.size < w1.heap.size := Nat.lt_of_lt_of_le (by simp) t1.size
  have lt1 := h1.lt
  have HR : Hid (Rt w1 p s j) := h1
  clear tn t1 h1 hN hF
  go_wp2_with fail
  refine (HTh _ HR.out.put2).mono ?_
  rintro e w2 ⟨⟨b, hb, rfl, _⟩, h2, t2⟩
  have c2a : w2.cell? ⟨p, 2, none⟩ = some (.int .i64 ((N : Int) + 1)) := (t2.oth 2 (by decide)).trans (World.cell?_setCell_same _ _ _ c2)
  have f2a : w2.frozen? ⟨p, 2, none⟩ = false := (t2.fz 2).trans ((World.frozen?_setCell _ _ _ _).trans f2)
  have HB2 : Hid (w2.heap[w.heap.size]? = _) := ((t2.blk w.heap.size (by simpa using zl) (by omega)).trans (heap_setCell_other _ _ _ _ (by show w.heap.size ≠ p; omega))).trans HB.out
  have HK2 : Hid (RK w p w2) := (HT.out.rk.put hpw (.inr rfl)).trans t2.rk
  have z2 : w.heap.size < w2.heap.size := Nat.lt_of_lt_of_le zl (by have := t2.size; simpa using this)
  have lt2 := h2.lt
  have HR2 : Hid (Rt w2 p s d) := h2
  have hbb : w.heap.size ≤ b := by
    have : w1.heap.size ≤ b := by simpa using hb
    omega
  clear t2 h2 c2 f2 HT HB HR zl lt1 hb
  go_wp2_with fail
  refine (HTk _ (HR2.out.alloc _)).mono ?_
  rintro e w3 ⟨rfl, h3, t3⟩
  have tn := t3.new lt2
  have c3 : w3.cell? ⟨p, 2, none⟩ = some (.int .i64 ((N : Int) + 1)) := (tn.1.oth 2 (by decide)).trans c2a
  have f3 : w3.frozen? ⟨p, 2, none⟩ = false := (tn.1.fz 2).trans f2a
  have HB3 : Hid (w3.heap[w.heap.size]? = _) := (tn.1.blk w.heap.size z2 (by omega)).trans HB2.out
  have HI3 : Hid (w3.heap[w2.heap.size]? = _) := tn.2
  have HK3 : Hid (RK w p w3) := HK2.out.trans tn.1.rk
  have z3 : w2.heap.size < w3.heap.size := Nat.lt_of_lt_of_le (by simp) t3.size
  have lt3 := h3.lt
  have HR3 : Hid (Rt w3 p s d2) := h3
  have i0 : w3.cell? ⟨w2.heap.size, 0, none⟩ = some (.int .i64 1) := (G.cell_of tn.2).trans (by simp [go_sem])
  clear tn t3 h3 HB2 HK2 HR2 c2a f2a
  go_wp2_with fail
  refine (HSe _ HR3.out).mono ?_
  rintro e w4 ⟨rfl, h4, t4⟩
  have c4 : w4.cell? ⟨p, 2, none⟩ = some (.int .i64 ((N : Int) + 1)) := (t4.oth 2 (by decide)).trans c3
  have f4 : w4.frozen? ⟨p, 2, none⟩ = false := (t4.fz 2).trans f3
  have hB4 := (t4.blk w.heap.size (by omega) (by omega)).trans HB3.out
  have hI4 := (t4.blk w2.heap.size z3 (by omega)).trans HI3.out
  have HK4 : Hid (RK w p w4) := HK3.out.trans t4.rk
  have z4 : w2.heap.size < w4.heap.size := Nat.lt_of_lt_of_le z3 t4.size
  have HR4 : Hid (Rt w4 p s d2) := h4
  have m0 : w4.cell? ⟨w.heap.size, 0, none⟩ = some (.int .i64 0) := (G.cell_of hB4).trans (by simp [go_sem])
  have m1 : w4.cell? ⟨w.heap.size, 1, none⟩ = some (.int .i64 0) := (G.cell_of hB4).trans (by simp [go_sem])
  have m2 : w4.cell? ⟨w.heap.size, 2, none⟩ = some (.slice none 0 0) := (G.cell_of hB4).trans (by simp [go_sem])
  have m3 : w4.cell? ⟨w.heap.size, 3, none⟩ = some (.int .i64 0) := (G.cell_of hB4).trans (by simp [go_sem])
  have m4 : w4.cell? ⟨w.heap.size, 4, none⟩ = some (.int .i64 0) := (G.cell_of hB4).trans (by simp [go_sem])
  have m5 : w4.cell? ⟨w.heap.size, 5, none⟩ = some (.string ⟨#[]⟩) := (G.cell_of hB4).trans (by simp [go_sem])
  have m6 : w4.cell? ⟨w.heap.size, 6, none⟩ = some (.slice none 0 0) := (G.cell_of hB4).trans (by simp [go_sem])
  have g0 : w4.frozen? ⟨w.heap.size, 0, none⟩ = false := (G.frozen_of hB4).trans (by simp [go_sem])
  have g1 : w4.frozen? ⟨w.heap.size, 1, none⟩ = false := (G.frozen_of hB4).trans (by simp [go_sem])
  have g2 : w4.frozen? ⟨w.heap.size, 2, none⟩ = false := (G.frozen_of hB4).trans (by simp [go_sem])
  have g3 : w4.frozen? ⟨w.heap.size, 3, none⟩ = false := (G.frozen_of hB4).trans (by simp [go_sem])
  have g4 : w4.frozen? ⟨w.heap.size, 4, none⟩ = false := (G.frozen_of hB4).trans (by simp [go_sem])
  have g5 : w4.frozen? ⟨w.heap.size, 5, none⟩ = false := (G.frozen_of hB4).trans (by simp [go_sem])
  have g6 : w4.frozen? ⟨w.heap.size, 6, none⟩ = false := (G.frozen_of hB4).trans (by simp [go_sem])
  have i0' : w4.cell? ⟨w2.heap.size, 0, none⟩ = some (.int .i64 1) := (G.cell_of hI4).trans (by simp [go_sem])
  have i1 : w4.cell? ⟨w2.heap.size, 1, none⟩ = some (.int .i64 1) := (G.cell_of hI4).trans (by simp [go_sem])
  have i2 : w4.cell? ⟨w2.heap.size, 2, none⟩ = some (.slice (some ⟨b, 0, none⟩) 1 1) := (G.cell_of hI4).trans (by simp [go_sem])
  have i3 : w4.cell? ⟨w2.heap.size, 3, none⟩ = some (.int .i64 0) := (G.cell_of hI4).trans (by simp [go_sem])
  have i4 : w4.cell? ⟨w2.heap.size, 4, none⟩ = some (.int .i64 0) := (G.cell_of hI4).trans (by simp [go_sem])
  have i5 : w4.cell? ⟨w2.heap.size, 5, none⟩ = some (.string ⟨#[]⟩) := (G.cell_of hI4).trans (by simp [go_sem])
  have i6 : w4.cell? ⟨w2.heap.size, 6, none⟩ = some (.slice none 0 0) := (G.cell_of hI4).trans (by simp [go_sem])
  clear t4 h4 hB4 hI4 HB3 HI3 HK3 HR3 c3 f3 i0
  have nep : w.heap.size ≠ p := by omega
  go_wp2_with fail
  refine bodyPost_ret (v := .agg #[.int .i64 1, .int .i64 1, .slice (some ⟨b, 0, none⟩) 1 1, .int .i64 0, .int .i64 0, .string ⟨#[]⟩, .slice none 0 0]) (by simp [results, Tryz.results59, go_sem, m0, m1, m2, m3, m4, m5, m6]) rfl ⟨⟨b, ?_, rfl⟩, ?_, ?_, ?_, ?_⟩
  · exact hbb
  · exact ((((((HR4.out.put nep).put nep).put nep).put nep).put nep).put nep).put nep
  · exact (put7p nep).trans c4
  · exact (put7f _ _ _ _ _ _ _ _ _ _).trans f4
  · exact ((((((HK4.out.put hpw (.inl (Nat.le_refl _))).put hpw (.inl (Nat.le_refl _))).put hpw (.inl (Nat.le_refl _))).put hpw (.inl (Nat.le_refl _))).put hpw (.inl (Nat.le_refl _))).put hpw (.inl (Nat.le_refl _))).put hpw (.inl (Nat.le_refl _))
end Go.Proofs.YtaohahahhjkcdaeGreatDoor.J

/- The reader at the one text that 'alive' asks for: places; what bar comes to there. -/
namespace Go.Proofs.YtaohahahhjkcdaeGreatDoor.J
open Go.RowKit
set_option linter.unusedVariables false
set_option linter.unusedSimpArgs false

/-- voice a | 1/1 C4 -/
def s0 : ByteArray := ⟨#[118, 111, 105, 99, 101, 32, 97, 32, 124, 32, 49, 47, 49, 32, 67, 52]⟩
theorem s0_size : s0.size = 16 := rfl
theorem s0_ia (i : Nat) : IA (s0.extract i s0.size) := by
  refine ia_ascii _ (by rw [ByteArray.size_extract, s0_size]; omega) ?_
  intro j b hj
  have hm : b ∈ s0.data.toList := by
    have h1 : b ∈ (s0.extract i s0.size).data.toList := List.mem_of_getElem? hj
    rw [ByteArray.data_extract, Array.toList_extract, List.extract_eq_take_drop] at h1
    exact List.mem_of_mem_drop (List.mem_of_mem_take h1)
  have : ∀ b ∈ s0.data.toList, b.toNat < 128 := by decide
  exact this b hm
theorem s0_places : M.skp s0 0 = 0 ∧ M.wn s0 0 = 5 ∧ M.skp s0 5 = 6 ∧ M.wn s0 5 = 7 ∧ M.skp s0 7 = 8 ∧ M.skp s0 8 = 8 ∧ M.skp s0 9 = 10 ∧ M.wn s0 9 = 11 ∧ M.skp s0 11 = 11 ∧ M.skp s0 12 = 12 ∧ M.wn s0 12 = 13 ∧ M.skp s0 13 = 14 ∧ M.wn s0 13 = 16 ∧ M.skp s0 16 = 16 := by decide +kernel
theorem s0_signs : M.st s0 8 124 = true ∧ M.st s0 11 47 = true ∧ M.st s0 16 42 = false ∧ M.st s0 16 34 = false ∧ M.st s0 16 124 = false := by decide +kernel
theorem s0_words : M.wt s0 0 = ⟨#[118, 111, 105, 99, 101]⟩ ∧ M.wt s0 5 = ⟨#[97]⟩ ∧ M.wt s0 9 = ⟨#[49]⟩ ∧ M.wt s0 12 = ⟨#[49]⟩ ∧ M.wt s0 13 = ⟨#[67, 52]⟩ := by decide +kernel
theorem s0_ones : M.dg ⟨#[49]⟩ = true ∧ Lib.atoi (⟨#[49]⟩ : ByteArray).data.toList = some 1 ∧ G.M.nm ⟨#[97]⟩ = true ∧ (P.M.rd ⟨#[67, 52]⟩).2.2.2.1 = 0 := by decide +kernel
end Go.Proofs.YtaohahahhjkcdaeGreatDoor.J

/- What the program's bar comes to at the one text. -/
namespace Go.Proofs.YtaohahahhjkcdaeGreatDoor.J
open Go.RowKit
set_option linter.unusedVariables false
set_option linter.unusedSimpArgs false

theorem take_s0 {p k j : Nat} {c : Nat} (hk : k ≤ 16) (h1 : M.skp s0 k = j) (h2 : M.st s0 j c = true) (w : World) (hR : Rt w p s0 k) :
    Calls Tryz.prog 57 #[.pointer (some ⟨p, 0, none⟩), .int .u8 (c : Int)] w fun x w' => x = .returned (.tuple #[]) ∧ Rt w' p s0 (j + 1) ∧ TK w p w' :=
  (mustTake_any p k s0 c w hR (by rw [s0_size]; exact hk) (by rw [s0_size]; decide)).mono fun x w' h => by
    rw [h1] at h; exact h.1 h2
theorem one_s0 {p k j : Nat} (hk : k ≤ 16) (h1 : M.wt s0 k = ⟨#[49]⟩) (h2 : M.wn s0 k = j) (w : World) (hR : Rt w p s0 k) :
    Calls Tryz.prog 58 #[.pointer (some ⟨p, 0, none⟩)] w fun x w' => x = .returned (.int .i64 1) ∧ Rt w' p s0 j ∧ TK w p w' := by
  have := number_ok p k s0 1 w hR (by rw [s0_size]; exact hk) (by rw [s0_size]; decide) (s0_ia _) (by rw [h1]; exact s0_ones.1) (by rw [h1]; decide) (by rw [h1]; exact s0_ones.2.1) (by decide) (by decide)
  rw [h2] at this
  exact this
theorem item_s0 {p N : Nat} (w : World) (hR : Rt w p s0 13) (hN : w.cell? ⟨p, 2, none⟩ = some (.int .i64 (N : Int))) (hF : w.frozen? ⟨p, 2, none⟩ = false) (hN2 : N < 4095) :
    Calls Tryz.prog 59 #[.pointer (some ⟨p, 0, none⟩), .int .i64 1] w fun x w' => (∃ b, w.heap.size ≤ b ∧ x = .returned (.agg #[.int .i64 1, .int .i64 1, .slice (some ⟨b, 0, none⟩) 1 1, .int .i64 0, .int .i64 0, .string ⟨#[]⟩, .slice none 0 0])) ∧ Rt w' p s0 16 ∧ w'.cell? ⟨p, 2, none⟩ = some (.int .i64 ((N + 1 : Nat) : Int)) ∧ w'.frozen? ⟨p, 2, none⟩ = false ∧ RK w p w' := by
  have hp := s0_places
  have hw := s0_words.2.2.2.2
  have h13 : M.wn s0 13 = 16 := hp.2.2.2.2.2.2.2.2.2.2.2.2.1
  have h16 : M.skp s0 16 = 16 := hp.2.2.2.2.2.2.2.2.2.2.2.2.2
  have := item_note p 13 N s0 1 w hR hN hF hN2 (by decide) (by rw [s0_size]; decide) (by rw [s0_size]; decide) (s0_ia _) (by rw [hw]; rw [ByteArray.toList_eq]; decide) (by rw [hw]; rw [ByteArray.toList_eq]; decide) (by rw [hw]; rw [ByteArray.toList_eq]; decide) (by rw [hw]; exact s0_ones.2.2.2) (by rw [h13, h16]; exact s0_signs.2.2.1) (by rw [h13, h16]; exact s0_signs.2.2.2.1)
  rw [h13, h16] at this
  exact this

/-- A reader's function with a struct result in block h and a variable of three cells in block g, while it goes on. -/
structure BS (w : World) (p h g k : Nat) (n u d t : Value) (x0 x1 x2 : Value) (W : World) : Prop where
  rt : Rt W p s0 k
  rk : RK w p W
  n2 : W.cell? ⟨p, 2, none⟩ = some n
  f2 : W.frozen? ⟨p, 2, none⟩ = false
  g0 : W.cell? ⟨g, 0, none⟩ = some u
  g1 : W.cell? ⟨g, 1, none⟩ = some d
  g2 : W.cell? ⟨g, 2, none⟩ = some t
  gf : ∀ i, i < 3 → W.frozen? ⟨g, i, none⟩ = false
  h0 : W.cell? ⟨h, 0, none⟩ = some x0
  h1 : W.cell? ⟨h, 1, none⟩ = some x1
  h2 : W.cell? ⟨h, 2, none⟩ = some x2
  hf : ∀ i, i < 3 → W.frozen? ⟨h, i, none⟩ = false
  ph : p < h
  hg : h < g
  gl : g < W.heap.size
  pw : p < w.heap.size
  hw : w.heap.size ≤ h
theorem BS.step {w : World} {p h g k k' : Nat} {n u d t x0 x1 x2 : Value} {W W' : World} (b : BS w p h g k n u d t x0 x1 x2 W) (hR : Rt W' p s0 k') (ht : TK W p W') : BS w p h g k' n u d t x0 x1 x2 W' := by
  have eg := ht.blk g b.gl (by have := b.ph; have := b.hg; omega)
  have eh := ht.blk h (by have := b.hg; have := b.gl; omega) (by have := b.ph; omega)
  exact ⟨hR, b.rk.trans ht.rk, (ht.oth 2 (by decide)).trans b.n2, (ht.fz 2).trans b.f2, (G.cell_of eg).trans b.g0, (G.cell_of eg).trans b.g1, (G.cell_of eg).trans b.g2, fun i hi => (G.frozen_of eg).trans (b.gf i hi), (G.cell_of eh).trans b.h0, (G.cell_of eh).trans b.h1, (G.cell_of eh).trans b.h2, fun i hi => (G.frozen_of eh).trans (b.hf i hi), b.ph, b.hg, Nat.lt_of_lt_of_le b.gl ht.size, b.pw, b.hw⟩
theorem BS.step' {w : World} {p h g k k' : Nat} {n n' u d t x0 x1 x2 : Value} {W W' : World} (b : BS w p h g k n u d t x0 x1 x2 W) (hR : Rt W' p s0 k') (ht : RK W p W') (hn : W'.cell? ⟨p, 2, none⟩ = some n') (hf : W'.frozen? ⟨p, 2, none⟩ = false) : BS w p h g k' n' u d t x0 x1 x2 W' := by
  have eg := ht.blk g b.gl (by have := b.ph; have := b.hg; omega)
  have eh := ht.blk h (by have := b.hg; have := b.gl; omega) (by have := b.ph; omega)
  exact ⟨hR, b.rk.trans ht, hn, hf, (G.cell_of eg).trans b.g0, (G.cell_of eg).trans b.g1, (G.cell_of eg).trans b.g2, fun i hi => (G.frozen_of eg).trans (b.gf i hi), (G.cell_of eh).trans b.h0, (G.cell_of eh).trans b.h1, (G.cell_of eh).trans b.h2, fun i hi => (G.frozen_of eh).trans (b.hf i hi), b.ph, b.hg, Nat.lt_of_lt_of_le b.gl ht.bel.size, b.pw, b.hw⟩
theorem sc_o {W : World} {b i c j : Nat} {v : Value} (h : b ≠ c ∨ i ≠ j) : (W.setCell ⟨b, i, none⟩ v).cell? ⟨c, j, none⟩ = W.cell? ⟨c, j, none⟩ :=
  World.cell?_setCell_other _ _ _ _ (fun e => by injection e with e1 e2; rcases h with h | h <;> contradiction)
theorem BS.put0 {w : World} {p h g k : Nat} {n u d t x0 x1 x2 v : Value} {W : World} (b : BS w p h g k n u d t x0 x1 x2 W) : BS w p h g k n v d t x0 x1 x2 (W.setCell ⟨g, 0, none⟩ v) := by
  have e1 := b.ph; have e2 := b.hg
  exact ⟨b.rt.put (by omega), b.rk.put b.pw (.inl (by have := b.hw; omega)), (sc_o (.inl (by omega))).trans b.n2, (World.frozen?_setCell _ _ _ _).trans b.f2, World.cell?_setCell_same _ _ _ b.g0, (sc_o (.inr (by decide))).trans b.g1, (sc_o (.inr (by decide))).trans b.g2, fun i hi => (World.frozen?_setCell _ _ _ _).trans (b.gf i hi), (sc_o (.inl (by omega))).trans b.h0, (sc_o (.inl (by omega))).trans b.h1, (sc_o (.inl (by omega))).trans b.h2, fun i hi => (World.frozen?_setCell _ _ _ _).trans (b.hf i hi), b.ph, b.hg, by simpa using b.gl, b.pw, b.hw⟩
theorem BS.put1 {w : World} {p h g k : Nat} {n u d t x0 x1 x2 v : Value} {W : World} (b : BS w p h g k n u d t x0 x1 x2 W) : BS w p h g k n u v t x0 x1 x2 (W.setCell ⟨g, 1, none⟩ v) := by
  have e1 := b.ph; have e2 := b.hg
  exact ⟨b.rt.put (by omega), b.rk.put b.pw (.inl (by have := b.hw; omega)), (sc_o (.inl (by omega))).trans b.n2, (World.frozen?_setCell _ _ _ _).trans b.f2, (sc_o (.inr (by decide))).trans b.g0, World.cell?_setCell_same _ _ _ b.g1, (sc_o (.inr (by decide))).trans b.g2, fun i hi => (World.frozen?_setCell _ _ _ _).trans (b.gf i hi), (sc_o (.inl (by omega))).trans b.h0, (sc_o (.inl (by omega))).trans b.h1, (sc_o (.inl (by omega))).trans b.h2, fun i hi => (World.frozen?_setCell _ _ _ _).trans (b.hf i hi), b.ph, b.hg, by simpa using b.gl, b.pw, b.hw⟩
theorem BS.put2 {w : World} {p h g k : Nat} {n u d t x0 x1 x2 v : Value} {W : World} (b : BS w p h g k n u d t x0 x1 x2 W) : BS w p h g k n u d v x0 x1 x2 (W.setCell ⟨g, 2, none⟩ v) := by
  have e1 := b.ph; have e2 := b.hg
  exact ⟨b.rt.put (by omega), b.rk.put b.pw (.inl (by have := b.hw; omega)), (sc_o (.inl (by omega))).trans b.n2, (World.frozen?_setCell _ _ _ _).trans b.f2, (sc_o (.inr (by decide))).trans b.g0, (sc_o (.inr (by decide))).trans b.g1, World.cell?_setCell_same _ _ _ b.g2, fun i hi => (World.frozen?_setCell _ _ _ _).trans (b.gf i hi), (sc_o (.inl (by omega))).trans b.h0, (sc_o (.inl (by omega))).trans b.h1, (sc_o (.inl (by omega))).trans b.h2, fun i hi => (World.frozen?_setCell _ _ _ _).trans (b.hf i hi), b.ph, b.hg, by simpa using b.gl, b.pw, b.hw⟩
theorem BS.putn {w : World} {p h g k : Nat} {n u d t x0 x1 x2 v : Value} {W : World} (b : BS w p h g k n u d t x0 x1 x2 W) : BS w p h g k v u d t x0 x1 x2 (W.setCell ⟨p, 2, none⟩ v) := by
  have e1 := b.ph; have e2 := b.hg
  exact ⟨b.rt.put2, b.rk.put b.pw (.inr rfl), World.cell?_setCell_same _ _ _ b.n2, (World.frozen?_setCell _ _ _ _).trans b.f2, (sc_o (.inl (by omega))).trans b.g0, (sc_o (.inl (by omega))).trans b.g1, (sc_o (.inl (by omega))).trans b.g2, fun i hi => (World.frozen?_setCell _ _ _ _).trans (b.gf i hi), (sc_o (.inl (by omega))).trans b.h0, (sc_o (.inl (by omega))).trans b.h1, (sc_o (.inl (by omega))).trans b.h2, fun i hi => (World.frozen?_setCell _ _ _ _).trans (b.hf i hi), b.ph, b.hg, by simpa using b.gl, b.pw, b.hw⟩

theorem BS.drew {w : World} {p h g k : Nat} {n u d t x0 x1 x2 : Value} {W : World} (b : BS w p h g k n u d t x0 x1 x2 W) : BS w p h g k n u d t x0 x1 x2 W.drew :=
  ⟨⟨b.rt.lt, b.rt.c0, b.rt.c1, b.rt.f1⟩, ⟨b.rk.bel.drew, b.rk.blk⟩, b.n2, b.f2, b.g0, b.g1, b.g2, b.gf, b.h0, b.h1, b.h2, b.hf, b.ph, b.hg, b.gl, b.pw, b.hw⟩
theorem own_cap {w : World} {base e size g n cap : Nat} {xs : List Value} (h : w.ownsRow base e size (.slice (some ⟨g, 0, none⟩) n cap) n xs) : n ≤ cap ∧ cap ≤ 9223372036854775807 := by
  rcases h.2 with ⟨h1, _⟩ | ⟨g', c', cur, h1, _, _, h2, h3, _⟩
  · cases h1
  · cases h1; exact ⟨h2, h3⟩
theorem infoIt : (Tryz.prog.info? 61).map (fun i => (i.zero, i.size, i.bytes)) = some (some (.agg #[.int .i64 0, .int .i64 0, .slice none 0 0, .int .i64 0, .int .i64 0, .string ⟨#[]⟩, .slice none 0 0]), 7, 96) := by kernel_rfl
theorem it_news (W : World) (v0 v1 v2 v3 v4 v5 v6 : Value) (t : TypeId) : ∀ j u, ([v0, v1, v2, v3, v4, v5, v6] : List Value)[j]? = some u → (W.alloc (Obj.cells #[v0, v1, v2, v3, v4, v5, v6] t)).cell? ((⟨W.heap.size, 0, none⟩ : Addr).add j) = some u := by
  intro j u hj
  rcases (show j = 0 ∨ j = 1 ∨ j = 2 ∨ j = 3 ∨ j = 4 ∨ j = 5 ∨ j = 6 ∨ 7 ≤ j by omega) with rfl | rfl | rfl | rfl | rfl | rfl | rfl | h7
  all_goals first | (simp at hj; subst hj; simp [go_sem, Addr.add]) | (rw [List.getElem?_eq_none (by simpa using h7)] at hj; cases hj)

set_option maxRecDepth 100000 in
set_option maxHeartbeats 4000000 in
theorem bar_s0 (p N : Nat) (w : World) (hR : Rt w p s0 8) (hN : w.cell? ⟨p, 2, none⟩ = some (.int .i64 (N : Int))) (hF : w.frozen? ⟨p, 2, none⟩ = false) :
    Calls Tryz.prog 44 #[.pointer (some ⟨p, 0, none⟩)] w fun x w' => (∃ b c, 1 ≤ c ∧ c ≤ 9223372036854775807 ∧ x = .returned (.agg #[.int .i64 1, .int .i64 1, .slice (some ⟨b, 0, none⟩) 1 c])) ∧ Rt w' p s0 16 ∧ w'.cell? ⟨p, 2, none⟩ = some (.int .i64 1) ∧ w'.frozen? ⟨p, 2, none⟩ = false ∧ RK w p w' := by
  obtain ⟨p1, p2, p3, p4, p5, p6, p7, p8, p9, p10, p11, p12, p13, p14⟩ := s0_places
  have HM1 := fun W (h : Rt W p s0 8) => take_s0 (c := 124) (by decide) p6 s0_signs.1 W h
  have HM2 := fun W (h : Rt W p s0 9) => one_s0 (by decide) s0_words.2.2.1 p8 W h
  have HM3 := fun W (h : Rt W p s0 11) => take_s0 (c := 47) (by decide) p9 s0_signs.2.1 W h
  have HM4 := fun W (h : Rt W p s0 12) => one_s0 (by decide) s0_words.2.2.2.1 p11 W h
  have HE := fun W (h : Rt W p s0 16) => ends_any p 16 s0 W h (by rw [s0_size]; decide) (by rw [s0_size]; decide)
  rw [p14, s0_size, decide_eq_true rfl] at HE
  clear p1 p2 p3 p4 p5 p6 p7 p8 p9 p10 p11 p12 p13 p14
  have hpw := hR.lt
  go_enter Tryz.func44, Tryz.ntmps44
  go_wp2_with fail
  refine (HM1 _ (hR.alloc _)).mono ?_
  rintro e w1 ⟨rfl, h1, t1⟩
  have tn := t1.new hR.lt
  have HT : Hid (TK w p w1) := tn.1
  have HB : Hid (w1.heap[w.heap.size]? = _) := tn.2
  have zl : w.heap.size < w1.heap.size := Nat.lt_of_lt_of_le (by simp) t1.size
  have lt1 := h1.lt
  have HR : Hid (Rt w1 p s0 9) := h1
  clear tn t1 h1
  go_wp2_with fail
  refine (HM2 _ (HR.out.alloc _)).mono ?_
  rintro e w2 ⟨rfl, h2, t2⟩
  have tn := t2.new lt1
  have hB2 := (tn.1.blk _ zl (by omega)).trans HB.out
  have B2 : BS w p w.heap.size w1.heap.size 11 (.int .i64 (N : Int)) (.int .i64 0) (.int .i64 0) (.slice none 0 0) (.int .i64 0) (.int .i64 0) (.slice none 0 0) w2 :=
    ⟨h2, HT.out.rk.trans tn.1.rk, ((HT.out.trans tn.1).oth 2 (by decide)).trans hN, ((HT.out.trans tn.1).fz 2).trans hF, (G.cell_of tn.2).trans (by simp [go_sem]), (G.cell_of tn.2).trans (by simp [go_sem]), (G.cell_of tn.2).trans (by simp [go_sem]), fun i hi => (G.frozen_of tn.2).trans (by simp [go_sem]), (G.cell_of hB2).trans (by simp [go_sem]), (G.cell_of hB2).trans (by simp [go_sem]), (G.cell_of hB2).trans (by simp [go_sem]), fun i hi => (G.frozen_of hB2).trans (by simp [go_sem]), hpw, zl, Nat.lt_of_lt_of_le (by simp) t2.size, hpw, Nat.le_refl _⟩
  have HB2 : Hid (BS w p w.heap.size w1.heap.size 11 (.int .i64 (N : Int)) (.int .i64 0) (.int .i64 0) (.slice none 0 0) (.int .i64 0) (.int .i64 0) (.slice none 0 0) w2) := B2
  have j0 := B2.g0
  have y0 := B2.gf 0 (by decide)
  have z2 := B2.gl
  clear tn t2 h2 HT HB HR B2 hB2 hN hF
  go_wp2_with fail
  have B2' := HB2.out.put0 (v := .int .i64 1)
  refine (HM3 _ B2'.rt).mono ?_
  rintro e w3 ⟨rfl, h3, t3⟩
  have HB3 := B2'.step h3 t3
  clear B2' HB2 h3 t3 j0 y0
  have HB3' : Hid (BS w p w.heap.size w1.heap.size (11 + 1) _ _ _ _ _ _ _ w3) := HB3
  clear HB3
  go_wp2_with fail
  refine (HM4 _ HB3'.out.rt).mono ?_
  rintro e w4 ⟨rfl, h4, t4⟩
  have HB4 : Hid (BS w p w.heap.size w1.heap.size 13 _ _ _ _ _ _ _ w4) := HB3'.out.step h4 t4
  have j1 := HB4.out.g1
  have y1 := HB4.out.gf 1 (by decide)
  have z4 := HB4.out.gl
  have c2 := HB4.out.n2
  have f2 := HB4.out.f2
  have lt4 := HB4.out.rt.lt
  have ne1 : w1.heap.size ≠ p := by omega
  clear HB3' h4 t4
  go_wp2_with fail
  have HB5 : Hid (BS w p w.heap.size w1.heap.size 13 (.int .i64 0) (.int .i64 1) (.int .i64 1) (.slice none 0 0) (.int .i64 0) (.int .i64 0) (.slice none 0 0) ((w4.setCell ⟨w1.heap.size, 1, none⟩ (.int .i64 1)).setCell ⟨p, 2, none⟩ (.int .i64 0))) := HB4.out.put1.putn
  generalize ((w4.setCell ⟨w1.heap.size, 1, none⟩ (.int .i64 1)).setCell ⟨p, 2, none⟩ (.int .i64 0)) = W5 at HB5 ⊢
  clear HB4 j1 y1 z4 c2 f2 lt4 HM1 HM2 HM3 HM4
  have HI : ∀ W, BS w p w.heap.size w1.heap.size 13 (.int .i64 0) (.int .i64 1) (.int .i64 1) (.slice none 0 0) (.int .i64 0) (.int .i64 0) (.slice none 0 0) W → Calls Tryz.prog 59 #[.pointer (some ⟨p, 0, none⟩), .int .i64 1] W fun x w' => (∃ b, x = .returned (.agg #[.int .i64 1, .int .i64 1, .slice (some ⟨b, 0, none⟩) 1 1, .int .i64 0, .int .i64 0, .string ⟨#[]⟩, .slice none 0 0])) ∧ BS w p w.heap.size w1.heap.size 16 (.int .i64 1) (.int .i64 1) (.int .i64 1) (.slice none 0 0) (.int .i64 0) (.int .i64 0) (.slice none 0 0) w' := fun W hW =>
    (item_s0 (N := 0) W hW.rt hW.n2 hW.f2 (by decide)).mono fun x w' h => ⟨⟨h.1.choose, h.1.choose_spec.2⟩, hW.step' h.2.1 h.2.2.2.2 h.2.2.1 h.2.2.2.1⟩
  have HB5d : Hid (BS w p w.heap.size w1.heap.size 13 (.int .i64 0) (.int .i64 1) (.int .i64 1) (.slice none 0 0) (.int .i64 0) (.int .i64 0) (.slice none 0 0) W5.drew) := HB5.out.drew
  have g2 := HB5.out.g2
  obtain ⟨i0, hi, hz0, hz1, hz2⟩ := info_parts infoIt
  go_region_law (first
    | (go_simp; go_at_call 59; refine (HI _ HB5d.out).mono ?_; rintro e w6 ⟨⟨b, rfl⟩, hb6⟩; have g26 := hb6.g2; have gl6 := hb6.gl)
    | (refine step_append_lies (w := w6.alloc (Obj.cells #[.int .i64 1, .int .i64 1, .slice (some ⟨b, 0, none⟩) 1 1, .int .i64 0, .int .i64 0, .string ⟨#[]⟩, .slice none 0 0] 61)) (by rfl) _ _ _ (by rfl) w6.heap.size 61 i0 _ 7 96 Tryz.underlying32 hi hz0 hz1 hz2 rfl (by omega) (.slice none 0 0) 0 [] (by rfl) (World.ownsRow_nil _ _ _ _) ⟨w6.heap.size, 0, none⟩ 1 1 [.int .i64 1, .int .i64 1, .slice (some ⟨b, 0, none⟩) 1 1, .int .i64 0, .int .i64 0, .string ⟨#[]⟩, .slice none 0 0] (by rfl) (by rfl) (it_news _ _ _ _ _ _ _ _ _) (by simp [Value.oneCell']) (by omega) (by unfold maxLen; omega) (by omega) (by simp) (w6.heap.size + 1) (by simp) ?_; intro gg cap w7 hown7 hgrow hat hlt7; have hb7 : Go.RowKit.Below w6.heap.size w6 w7 := ((Go.RowKit.Below.refl w6.heap.size w6).alloc (Nat.le_refl _) _).grown hgrow (by simp) (fun j hj => by cases hj); have HB7 : Hid (BS w p w.heap.size w1.heap.size 16 (.int .i64 1) (.int .i64 1) (.int .i64 1) (.slice none 0 0) (.int .i64 0) (.int .i64 0) (.slice none 0 0) w7) := hb6.step (hb6.rt.step hb7) (TK.below hb7 hb6.rt.lt); have g27 := HB7.out.g2; have y27 := HB7.out.gf 2 (by decide)))
  all_goals
    have HB8 : Hid (BS w p w.heap.size w1.heap.size 16 (.int .i64 1) (.int .i64 1) (.int .i64 1) (.slice (some ⟨gg, 0, none⟩) 1 cap) (.int .i64 0) (.int .i64 0) (.slice none 0 0) (w7.setCell ⟨w1.heap.size, 2, none⟩ (.slice (some ⟨gg, 0, none⟩) 1 cap))) := HB7.out.put2
    have HC : Hid (1 ≤ cap ∧ cap ≤ 9223372036854775807) := own_cap hown7
    generalize (w7.setCell ⟨w1.heap.size, 2, none⟩ (.slice (some ⟨gg, 0, none⟩) 1 cap)) = W8 at HB8 ⊢
    clear HB7 g27 y27 hb7 hown7 hgrow hat hlt7 hb6 g26 gl6 HB5 HB5d g2 HI hi hz0 hz1 hz2
    go_wp2_with fail
    go_loopw [28] (fun v w' => w' = W8) (fun _ _ => 0)
    case atStart => rfl
    case round =>
      obtain rfl := hrel
      go_wp2_with fail
      refine (HE _ HB8.out.rt).mono ?_
      rintro e w9 ⟨rfl, h9, t9⟩
      have B9 := HB8.out.step h9 t9
      have HB9 : Hid (BS w p w.heap.size w1.heap.size 16 (.int .i64 1) (.int .i64 1) (.int .i64 1) (.slice (some ⟨gg, 0, none⟩) 1 cap) (.int .i64 0) (.int .i64 0) (.slice none 0 0) w9) := B9
      have a0 := B9.g0
      have a1 := B9.g1
      have a2 := B9.g2
      have b0 := B9.h0
      have b1 := B9.h1
      have b2 := B9.h2
      have f0 := B9.hf 0 (by decide)
      have f1 := B9.hf 1 (by decide)
      have f2 := B9.hf 2 (by decide)
      have e1 := B9.hg
      have e2 := B9.gl
      have e3 := B9.ph
      have nep : w.heap.size ≠ p := by omega
      have neg : w.heap.size ≠ w1.heap.size := by omega
      clear B9 h9 t9 HB8
      go_wp2_with fail
      refine bodyPost_ret (v := .agg #[.int .i64 1, .int .i64 1, .slice (some ⟨gg, 0, none⟩) 1 cap]) (by simp [results, Tryz.results44, go_sem, b0, b1, b2]) rfl ⟨⟨gg, cap, HC.out.1, HC.out.2, rfl⟩, ?_, ?_, ?_, ?_⟩
      · exact ((HB9.out.rt.put nep).put nep).put nep
      · exact ((sc_o (.inl nep)).trans ((sc_o (.inl nep)).trans (sc_o (.inl nep)))).trans HB9.out.n2
      · exact ((World.frozen?_setCell _ _ _ _).trans ((World.frozen?_setCell _ _ _ _).trans (World.frozen?_setCell _ _ _ _))).trans HB9.out.f2
      · exact ((HB9.out.rk.put hpw (.inl (Nat.le_refl _))).put hpw (.inl (Nat.le_refl _))).put hpw (.inl (Nat.le_refl _))
end Go.Proofs.YtaohahahhjkcdaeGreatDoor.J

/- What the program's voice comes to at the one text. -/
namespace Go.Proofs.YtaohahahhjkcdaeGreatDoor.J
open Go.RowKit
set_option linter.unusedVariables false
set_option linter.unusedSimpArgs false

/-- The same with two cells each. -/
structure VS (w : World) (p h g k : Nat) (n u t : Value) (x0 x1 : Value) (W : World) : Prop where
  rt : Rt W p s0 k
  rk : RK w p W
  n2 : W.cell? ⟨p, 2, none⟩ = some n
  f2 : W.frozen? ⟨p, 2, none⟩ = false
  g0 : W.cell? ⟨g, 0, none⟩ = some u
  g1 : W.cell? ⟨g, 1, none⟩ = some t
  gf : ∀ i, i < 2 → W.frozen? ⟨g, i, none⟩ = false
  h0 : W.cell? ⟨h, 0, none⟩ = some x0
  h1 : W.cell? ⟨h, 1, none⟩ = some x1
  hf : ∀ i, i < 2 → W.frozen? ⟨h, i, none⟩ = false
  ph : p < h
  hg : h < g
  gl : g < W.heap.size
  pw : p < w.heap.size
  hw : w.heap.size ≤ h
theorem VS.step' {w : World} {p h g k k' : Nat} {n n' u t x0 x1 : Value} {W W' : World} (b : VS w p h g k n u t x0 x1 W) (hR : Rt W' p s0 k') (ht : RK W p W') (hn : W'.cell? ⟨p, 2, none⟩ = some n') (hf : W'.frozen? ⟨p, 2, none⟩ = false) : VS w p h g k' n' u t x0 x1 W' := by
  have eg := ht.blk g b.gl (by have := b.ph; have := b.hg; omega)
  have eh := ht.blk h (by have := b.hg; have := b.gl; omega) (by have := b.ph; omega)
  exact ⟨hR, b.rk.trans ht, hn, hf, (G.cell_of eg).trans b.g0, (G.cell_of eg).trans b.g1, fun i hi => (G.frozen_of eg).trans (b.gf i hi), (G.cell_of eh).trans b.h0, (G.cell_of eh).trans b.h1, fun i hi => (G.frozen_of eh).trans (b.hf i hi), b.ph, b.hg, Nat.lt_of_lt_of_le b.gl ht.bel.size, b.pw, b.hw⟩
theorem VS.step {w : World} {p h g k k' : Nat} {n u t x0 x1 : Value} {W W' : World} (b : VS w p h g k n u t x0 x1 W) (hR : Rt W' p s0 k') (ht : TK W p W') : VS w p h g k' n u t x0 x1 W' :=
  b.step' hR ht.rk ((ht.oth 2 (by decide)).trans b.n2) ((ht.fz 2).trans b.f2)
theorem VS.put1 {w : World} {p h g k : Nat} {n u t x0 x1 v : Value} {W : World} (b : VS w p h g k n u t x0 x1 W) : VS w p h g k n u v x0 x1 (W.setCell ⟨g, 1, none⟩ v) := by
  have e1 := b.ph; have e2 := b.hg
  exact ⟨b.rt.put (by omega), b.rk.put b.pw (.inl (by have := b.hw; omega)), (sc_o (.inl (by omega))).trans b.n2, (World.frozen?_setCell _ _ _ _).trans b.f2, (sc_o (.inr (by decide))).trans b.g0, World.cell?_setCell_same _ _ _ b.g1, fun i hi => (World.frozen?_setCell _ _ _ _).trans (b.gf i hi), (sc_o (.inl (by omega))).trans b.h0, (sc_o (.inl (by omega))).trans b.h1, fun i hi => (World.frozen?_setCell _ _ _ _).trans (b.hf i hi), b.ph, b.hg, by simpa using b.gl, b.pw, b.hw⟩
theorem VS.drew {w : World} {p h g k : Nat} {n u t x0 x1 : Value} {W : World} (b : VS w p h g k n u t x0 x1 W) : VS w p h g k n u t x0 x1 W.drew :=
  ⟨⟨b.rt.lt, b.rt.c0, b.rt.c1, b.rt.f1⟩, ⟨b.rk.bel.drew, b.rk.blk⟩, b.n2, b.f2, b.g0, b.g1, b.gf, b.h0, b.h1, b.hf, b.ph, b.hg, b.gl, b.pw, b.hw⟩
/-- What is left of the text. -/
def pl (w : World) (p : Nat) : Nat := match w.cell? ⟨p, 1, none⟩ with
  | some (.int _ k) => 16 - k.toNat
  | _ => 0
theorem pl_is {w : World} {p k : Nat} {s : ByteArray} (h : Rt w p s k) : pl w p = 16 - k := by
  unfold pl; rw [h.c1]; rfl
theorem infoBr : (Tryz.prog.info? 34).map (fun i => (i.zero, i.size, i.bytes)) = some (some (.agg #[.int .i64 0, .int .i64 0, .slice none 0 0]), 3, 40) := by kernel_rfl
theorem br_news (W : World) (v0 v1 v2 : Value) (t : TypeId) : ∀ j u, ([v0, v1, v2] : List Value)[j]? = some u → (W.alloc (Obj.cells #[v0, v1, v2] t)).cell? ((⟨W.heap.size, 0, none⟩ : Addr).add j) = some u := by
  intro j u hj
  rcases (show j = 0 ∨ j = 1 ∨ j = 2 ∨ 3 ≤ j by omega) with rfl | rfl | rfl | h7
  all_goals first | (simp at hj; subst hj; simp [go_sem, Addr.add]) | (rw [List.getElem?_eq_none (by simpa using h7)] at hj; cases hj)

set_option maxRecDepth 100000 in
set_option maxHeartbeats 4000000 in
theorem voice_s0 (p N : Nat) (w : World) (hR : Rt w p s0 0) (hN : w.cell? ⟨p, 2, none⟩ = some (.int .i64 (N : Int))) (hF : w.frozen? ⟨p, 2, none⟩ = false) :
    Calls Tryz.prog 27 #[.pointer (some ⟨p, 0, none⟩)] w fun x w' => (∃ b c, 1 ≤ c ∧ c ≤ 9223372036854775807 ∧ x = .returned (.agg #[.string ⟨#[97]⟩, .slice (some ⟨b, 0, none⟩) 1 c])) ∧ Rt w' p s0 16 ∧ w'.cell? ⟨p, 2, none⟩ = some (.int .i64 1) ∧ w'.frozen? ⟨p, 2, none⟩ = false ∧ RK w p w' := by
  obtain ⟨p1, p2, p3, p4, p5, p6, p7, p8, p9, p10, p11, p12, p13, p14⟩ := s0_places
  have HW := fun W (h : Rt W p s0 0) => word_any p 0 s0 W h (by decide) (by decide) (s0_ia _)
  have hw0 : s0.extract (M.skp s0 0) (M.wd s0 (M.skp s0 0)) = ⟨#[118, 111, 105, 99, 101]⟩ := s0_words.1
  rw [hw0, p1] at HW
  have HNm : ∀ W, Rt W p s0 5 → Calls Tryz.prog 42 #[.pointer (some ⟨p, 0, none⟩)] W fun x w' => x = .returned (.string ⟨#[97]⟩) ∧ Rt w' p s0 7 ∧ TK W p w' := fun W h => by
    have := name_any p 5 s0 W h (by decide) (by decide) (s0_ia _)
    rw [s0_words.2.1, p4] at this
    exact this.mono fun x w' h => h.1 s0_ones.2.2.1
  have HS1 := fun W (h : Rt W p s0 7) => sees_any p 7 s0 124 W h (by decide) (by decide)
  rw [p5, s0_signs.1] at HS1
  have HS2 := fun W (h : Rt W p s0 16) => sees_any p 16 s0 124 W h (by decide) (by decide)
  rw [p14, s0_signs.2.2.2.2] at HS2
  clear p1 p2 p3 p4 p5 p6 p7 p8 p9 p10 p11 p12 p13 p14 hw0
  have hpw := hR.lt
  go_enter Tryz.func27, Tryz.ntmps27
  go_wp2_with fail
  refine (HW _ (hR.alloc _)).mono ?_
  rintro e w1 ⟨rfl, h1, t1⟩
  have tn := t1.new hR.lt
  have HT : Hid (TK w p w1) := tn.1
  have HB : Hid (w1.heap[w.heap.size]? = _) := tn.2
  have zl : w.heap.size < w1.heap.size := Nat.lt_of_lt_of_le (by simp) t1.size
  have HR : Hid (Rt w1 p s0 0) := h1
  have c1 := h1.c1
  have f1 := h1.f1
  have lt1 := h1.lt
  clear tn t1 h1
  go_wp2_with fail
  refine (HNm _ (HR.out.set 5)).mono ?_
  rintro e w2 ⟨rfl, h2, t2⟩
  have t12 : TK w p w2 := (HT.out.trans (TK.set _ _ _)).trans t2
  have hB2 := ((t2.blk w.heap.size (by simpa using zl) (by omega)).trans (heap_setCell_other _ _ _ _ (by show w.heap.size ≠ p; omega))).trans HB.out
  have H2 : Hid (Rt w2 p s0 7 ∧ TK w p w2) := ⟨h2, t12⟩
  have HB2 : Hid (w2.heap[w.heap.size]? = _) := hB2
  have z2 : w.heap.size < w2.heap.size := Nat.lt_of_lt_of_le zl (by have := t2.size; simpa using this)
  clear h2 t2 t12 hB2 HB HT HR c1 f1 zl lt1
  go_wp2_with fail
  have A0 : VS w p w.heap.size w2.heap.size 7 (.int .i64 (N : Int)) (.string ⟨#[97]⟩) (.slice none 0 0) (.string ⟨#[]⟩) (.slice none 0 0) (w2.alloc (Obj.cells #[.string ⟨#[97]⟩, .slice none 0 0] 24)) := by
    have tA := (H2.out.2).alloc hpw (Obj.cells #[.string ⟨#[97]⟩, .slice none 0 0] 24)
    have eA : (w2.alloc (Obj.cells #[.string ⟨#[97]⟩, .slice none 0 0] 24)).heap[w.heap.size]? = w2.heap[w.heap.size]? := ((Below.refl w2.heap.size w2).alloc (Nat.le_refl _) _).block w.heap.size z2
    have eB := eA.trans HB2.out
    exact ⟨H2.out.1.alloc _, tA.rk, (tA.oth 2 (by decide)).trans hN, (tA.fz 2).trans hF, by simp [go_sem], by simp [go_sem], fun i hi => by simp [go_sem], (G.cell_of eB).trans (by simp [go_sem]), (G.cell_of eB).trans (by simp [go_sem]), fun i hi => (G.frozen_of eB).trans (by simp [go_sem]), hpw, z2, by simp, hpw, Nat.le_refl _⟩
  have HA : Hid (VS w p w.heap.size w2.heap.size 7 (.int .i64 (N : Int)) (.string ⟨#[97]⟩) (.slice none 0 0) (.string ⟨#[]⟩) (.slice none 0 0) (w2.alloc (Obj.cells #[.string ⟨#[97]⟩, .slice none 0 0] 24))) := A0
  clear A0
  generalize w2.alloc (Obj.cells #[.string ⟨#[97]⟩, .slice none 0 0] 24) = W3 at HA ⊢
  clear H2 HB2 hN hF HW HNm
  have HBar : ∀ W, VS w p w.heap.size w2.heap.size 8 (.int .i64 (N : Int)) (.string ⟨#[97]⟩) (.slice none 0 0) (.string ⟨#[]⟩) (.slice none 0 0) W → Calls Tryz.prog 44 #[.pointer (some ⟨p, 0, none⟩)] W fun x w' => (∃ b c, x = .returned (.agg #[.int .i64 1, .int .i64 1, .slice (some ⟨b, 0, none⟩) 1 c])) ∧ VS w p w.heap.size w2.heap.size 16 (.int .i64 1) (.string ⟨#[97]⟩) (.slice none 0 0) (.string ⟨#[]⟩) (.slice none 0 0) w' := fun W hW =>
    (bar_s0 p N W hW.rt hW.n2 hW.f2).mono fun x w' h => by
      obtain ⟨⟨b, c, _, _, hx⟩, r1, r2, r3, r4⟩ := h
      exact ⟨⟨b, c, hx⟩, hW.step' r1 r4 r2 r3⟩
  obtain ⟨i0, hi, hz0, hz1, hz2⟩ := info_parts infoBr
  go_loopw [28] (fun v w' => Hid (VS w p w.heap.size w2.heap.size 7 (.int .i64 (N : Int)) (.string ⟨#[97]⟩) (.slice none 0 0) (.string ⟨#[]⟩) (.slice none 0 0) w' ∨ ∃ gg cap, 1 ≤ cap ∧ cap ≤ 9223372036854775807 ∧ VS w p w.heap.size w2.heap.size 16 (.int .i64 1) (.string ⟨#[97]⟩) (.slice (some ⟨gg, 0, none⟩) 1 cap) (.string ⟨#[]⟩) (.slice none 0 0) w')) (fun _ w' => pl w' p)
  case atStart => exact .inl HA.out
  case round =>
    rcases hrel.out with A | ⟨gg, cap, hc1, hc2, B⟩
    · have HA1 : Hid (VS w p w.heap.size w2.heap.size 7 (.int .i64 (N : Int)) (.string ⟨#[97]⟩) (.slice none 0 0) (.string ⟨#[]⟩) (.slice none 0 0) wr) := A
      clear hrel A HA HS2
      go_wp2_with fail
      refine (HS1 _ HA1.out.rt).mono ?_
      rintro e w3 ⟨rfl, h3, t3⟩
      have A3 := HA1.out.step h3 t3
      have HA3 : Hid (VS w p w.heap.size w2.heap.size 8 (.int .i64 (N : Int)) (.string ⟨#[97]⟩) (.slice none 0 0) (.string ⟨#[]⟩) (.slice none 0 0) w3) := A3
      have HA3d : Hid (VS w p w.heap.size w2.heap.size 8 (.int .i64 (N : Int)) (.string ⟨#[97]⟩) (.slice none 0 0) (.string ⟨#[]⟩) (.slice none 0 0) w3.drew) := A3.drew
      have g1 := A3.g1
      have gl := A3.gl
      clear A3 h3 t3
      go_wp2_with fail
      go_region_law (first
        | (go_simp; go_at_call 44; refine (HBar _ HA3d.out).mono ?_; rintro e w6 ⟨⟨b, cb, rfl⟩, hb6⟩; have g26 := hb6.g1; have gl6 := hb6.gl)
        | (refine step_append_lies (w := w6.alloc (Obj.cells #[.int .i64 1, .int .i64 1, .slice (some ⟨b, 0, none⟩) 1 cb] 34)) (by rfl) _ _ _ (by rfl) w6.heap.size 34 i0 _ 3 40 Tryz.underlying22 hi hz0 hz1 hz2 rfl (by omega) (.slice none 0 0) 0 [] (by rfl) (World.ownsRow_nil _ _ _ _) ⟨w6.heap.size, 0, none⟩ 1 1 [.int .i64 1, .int .i64 1, .slice (some ⟨b, 0, none⟩) 1 cb] (by rfl) (by rfl) (br_news _ _ _ _ _) (by simp [Value.oneCell']) (by omega) (by unfold maxLen; omega) (by omega) (by simp) (w6.heap.size + 1) (by simp) ?_; intro gg cap w7 hown7 hgrow hat hlt7; have hb7 : Go.RowKit.Below w6.heap.size w6 w7 := ((Go.RowKit.Below.refl w6.heap.size w6).alloc (Nat.le_refl _) _).grown hgrow (by simp) (fun j hj => by cases hj); have HB7 : Hid (VS w p w.heap.size w2.heap.size 16 (.int .i64 1) (.string ⟨#[97]⟩) (.slice none 0 0) (.string ⟨#[]⟩) (.slice none 0 0) w7) := hb6.step (hb6.rt.step hb7) (TK.below hb7 hb6.rt.lt); have g27 := HB7.out.g1; have y27 := HB7.out.gf 1 (by decide)))
      all_goals
        have HB8 : Hid (VS w p w.heap.size w2.heap.size 16 (.int .i64 1) (.string ⟨#[97]⟩) (.slice (some ⟨gg, 0, none⟩) 1 cap) (.string ⟨#[]⟩) (.slice none 0 0) (w7.setCell ⟨w2.heap.size, 1, none⟩ (.slice (some ⟨gg, 0, none⟩) 1 cap))) := HB7.out.put1
        have HC : Hid (1 ≤ cap ∧ cap ≤ 9223372036854775807) := own_cap hown7
        generalize (w7.setCell ⟨w2.heap.size, 1, none⟩ (.slice (some ⟨gg, 0, none⟩) 1 cap)) = W8 at HB8 ⊢
        clear HB7 g27 y27 hb7 hown7 hgrow hat hlt7 hb6 g26 gl6 HA3 HA3d g1 gl HBar hi hz0 hz1 hz2
        go_wp2_with fail
        go_roundw
        case rel => exact .inr ⟨gg, cap, HC.out.1, HC.out.2, HB8.out⟩
        case measure => rw [pl_is HB8.out.rt, pl_is HA1.out.rt]; decide
    · have B0 := B
      have HC : Hid (1 ≤ cap ∧ cap ≤ 9223372036854775807) := ⟨hc1, hc2⟩
      have HB0 : Hid (VS w p w.heap.size w2.heap.size 16 (.int .i64 1) (.string ⟨#[97]⟩) (.slice (some ⟨gg, 0, none⟩) 1 cap) (.string ⟨#[]⟩) (.slice none 0 0) wr) := B
      clear hrel B B0 HA HS1 HBar hc1 hc2
      go_wp2_with fail
      refine (HS2 _ HB0.out.rt).mono ?_
      rintro e w9 ⟨rfl, h9, t9⟩
      have B9 := HB0.out.step h9 t9
      have HB9 : Hid (VS w p w.heap.size w2.heap.size 16 (.int .i64 1) (.string ⟨#[97]⟩) (.slice (some ⟨gg, 0, none⟩) 1 cap) (.string ⟨#[]⟩) (.slice none 0 0) w9) := B9
      have a0 := B9.g0
      have a1 := B9.g1
      have b0 := B9.h0
      have b1 := B9.h1
      have f0 := B9.hf 0 (by decide)
      have f1 := B9.hf 1 (by decide)
      have e1 := B9.hg
      have e2 := B9.gl
      have e3 := B9.ph
      have nep : w.heap.size ≠ p := by omega
      have neg : w.heap.size ≠ w2.heap.size := by omega
      clear B9 h9 t9 HB0
      go_wp2_with fail
      refine bodyPost_ret (v := .agg #[.string ⟨#[97]⟩, .slice (some ⟨gg, 0, none⟩) 1 cap]) (by simp [results, Tryz.results27, go_sem, b0, b1]) rfl ⟨⟨gg, cap, HC.out.1, HC.out.2, rfl⟩, ?_, ?_, ?_, ?_⟩
      · exact (HB9.out.rt.put nep).put nep
      · exact ((sc_o (.inl nep)).trans (sc_o (.inl nep))).trans HB9.out.n2
      · exact ((World.frozen?_setCell _ _ _ _).trans (World.frozen?_setCell _ _ _ _)).trans HB9.out.f2
      · exact (HB9.out.rk.put hpw (.inl (Nat.le_refl _))).put hpw (.inl (Nat.le_refl _))
end Go.Proofs.YtaohahahhjkcdaeGreatDoor.J

/- What the program's piece and Read come to at the one text: alive. -/
namespace Go.Proofs.YtaohahahhjkcdaeGreatDoor.J
open Go.RowKit
set_option linter.unusedVariables false
set_option linter.unusedSimpArgs false

/-- What piece has read: one voice of one bar. -/
def PcQ (w : World) (p : Nat) (ao : Option Addr) (n c : Nat) (w' : World) : Prop :=
  ∃ gg bb cb, ao = some ⟨gg, 0, none⟩ ∧ n = 1 ∧ 1 ≤ c ∧ c ≤ 9223372036854775807 ∧ w.heap.size ≤ gg ∧ gg < w'.heap.size ∧ w'.cell? ⟨gg, 0, none⟩ = some (.string ⟨#[97]⟩) ∧ w'.cell? ⟨gg, 1, none⟩ = some (.slice (some ⟨bb, 0, none⟩) 1 cb) ∧ 1 ≤ cb ∧ cb ≤ 9223372036854775807
def PcI (w : World) (p N : Nat) (out : Value) (w' : World) : Prop :=
  (out = .slice none 0 0 ∧ Rt w' p s0 0 ∧ w'.cell? ⟨p, 2, none⟩ = some (.int .i64 (N : Int)) ∧ w'.frozen? ⟨p, 2, none⟩ = false ∧ RK w p w') ∨ (∃ ao c, out = .slice ao 1 c ∧ PcQ w p ao 1 c w' ∧ Rt w' p s0 16 ∧ RK w p w')
theorem infoVo : (Tryz.prog.info? 24).map (fun i => (i.zero, i.size, i.bytes)) = some (some (.agg #[.string ⟨#[]⟩, .slice none 0 0]), 2, 40) := by kernel_rfl
theorem vo_news (W : World) (v0 v1 : Value) (t : TypeId) : ∀ j u, ([v0, v1] : List Value)[j]? = some u → (W.alloc (Obj.cells #[v0, v1] t)).cell? ((⟨W.heap.size, 0, none⟩ : Addr).add j) = some u := by
  intro j u hj
  rcases (show j = 0 ∨ j = 1 ∨ 2 ≤ j by omega) with rfl | rfl | h7
  all_goals first | (simp at hj; subst hj; simp [go_sem, Addr.add]) | (rw [List.getElem?_eq_none (by simpa using h7)] at hj; cases hj)

set_option maxRecDepth 100000 in
set_option maxHeartbeats 4000000 in
theorem piece_s0 (p N : Nat) (w : World) (hR : Rt w p s0 0) (hN : w.cell? ⟨p, 2, none⟩ = some (.int .i64 (N : Int))) (hF : w.frozen? ⟨p, 2, none⟩ = false) :
    Calls Tryz.prog 18 #[.pointer (some ⟨p, 0, none⟩)] w fun x w' => ∃ ao n c, x = .returned (.slice ao n c) ∧ RK w p w' ∧ PcQ w p ao n c w' := by
  obtain ⟨p1, p2, p3, p4, p5, p6, p7, p8, p9, p10, p11, p12, p13, p14⟩ := s0_places
  have HE1 := fun W (h : Rt W p s0 0) => ends_any p 0 s0 W h (by decide) (by decide)
  rw [p1, s0_size, decide_eq_false (by decide)] at HE1
  have HE2 := fun W (h : Rt W p s0 16) => ends_any p 16 s0 W h (by decide) (by decide)
  rw [p14, s0_size, decide_eq_true rfl] at HE2
  clear p1 p2 p3 p4 p5 p6 p7 p8 p9 p10 p11 p12 p13 p14
  have hpw := hR.lt
  have HV := fun W (h : Rt W p s0 0) (hN : W.cell? ⟨p, 2, none⟩ = some (.int .i64 (N : Int))) (hF : W.frozen? ⟨p, 2, none⟩ = false) => voice_s0 p N W h hN hF
  obtain ⟨i0, hi, hz0, hz1, hz2⟩ := info_parts infoVo
  have H0 : Hid (PcI w p N (.slice none 0 0) w) := .inl ⟨rfl, hR, hN, hF, (TK.refl w p).rk⟩
  clear hR hN hF
  go_enter Tryz.func18, Tryz.ntmps18
  go_wp2_with fail
  go_loopw [3] (fun out w' => Hid (PcI w p N out w')) (fun _ w' => pl w' p)
  case atStart => exact H0
  case round =>
    rcases hrel.out with ⟨rfl, r1, r2, r3, r4⟩ | ⟨ao, c, rfl, hq, r1, r4⟩
    · have HR1 : Hid (Rt wr p s0 0) := r1
      have HK1 : Hid (RK w p wr) := r4
      have H2 : Hid (wr.cell? ⟨p, 2, none⟩ = some (.int .i64 (N : Int)) ∧ wr.frozen? ⟨p, 2, none⟩ = false) := ⟨r2, r3⟩
      clear hrel H0 r1 r2 r3 r4 HE2
      go_wp2_with fail
      refine (HE1 _ HR1.out).mono ?_
      rintro e w3 ⟨rfl, h3, t3⟩
      have HV3 := HV w3 h3 ((t3.oth 2 (by decide)).trans H2.out.1) ((t3.fz 2).trans H2.out.2)
      have HK3 : Hid (RK w p w3) := HK1.out.trans t3.rk
      clear h3 t3 HK1 H2 HV
      go_wp2_with fail
      refine HV3.mono ?_
      rintro e w6 ⟨⟨bb, cb, b1, b2, rfl⟩, r1, r2, r3, r4⟩
      have HK6 : Hid (RK w p w6) := HK3.out.trans r4
      have HR6 : Hid (Rt w6 p s0 16) := r1
      have lt6 := r1.lt
      clear HV3 r1 r2 r3 r4 HK3
      go_wp2_with (refine wpList_step (fun K hK => step_append_lies (w := w6.alloc (Obj.cells #[.string ⟨#[97]⟩, .slice (some ⟨bb, 0, none⟩) 1 cb] 24)) (by rfl) _ _ _ (by rfl) w6.heap.size 24 i0 _ 2 40 Tryz.underlying30 hi hz0 hz1 hz2 rfl (by omega) (.slice none 0 0) 0 [] (by rfl) (World.ownsRow_nil _ _ _ _) ⟨w6.heap.size, 0, none⟩ 1 1 [.string ⟨#[97]⟩, .slice (some ⟨bb, 0, none⟩) 1 cb] (by rfl) (by rfl) (vo_news _ _ _ _) (by simp [Value.oneCell']) (by omega) (by unfold maxLen; omega) (by omega) (by simp) (w6.heap.size + 1) (by simp) ?_); intro gg cap w7 hown7 hgrow hat hlt7; refine Hid.out ?_)
      have hb7 : Below w6.heap.size w6 w7 := ((Below.refl w6.heap.size w6).alloc (Nat.le_refl _) _).grown hgrow (by simp) (fun j hj => by cases hj)
      have hsz := HK6.out.bel.size
      have hgg : gg = w6.heap.size + 1 := by
        rcases hat with h | h
        · cases h
        · exact h
      have hq7 : Hid (PcQ w p (some ⟨gg, 0, none⟩) 1 cap w7) := ⟨gg, bb, cb, rfl, rfl, (own_cap hown7).1, (own_cap hown7).2, by omega, hlt7, hown7.cells rfl 0 _ rfl, hown7.cells rfl 1 _ rfl, b1, b2⟩
      have HR7 : Hid (Rt w7 p s0 16) := HR6.out.step hb7
      have HK7 : Hid (RK w p w7) := HK6.out.trans (TK.below hb7 lt6).rk
      clear hown7 hgrow hat hgg hb7 HK6 HR6 hi hz0 hz1 hz2 b1 b2 lt6 hsz hlt7
      unfold Hid
      refine hK _ _ ?_
      go_wp2_with fail
      go_roundw
      case rel => exact .inr ⟨_, _, rfl, hq7.out, HR7.out, HK7.out⟩
      case measure => rw [pl_is HR7.out, pl_is HR1.out]; decide
    · have HR1 : Hid (Rt wr p s0 16) := r1
      have HK1 : Hid (RK w p wr) := r4
      have HQ1 : Hid (PcQ w p ao 1 c wr) := hq
      clear hrel H0 r1 r4 hq HE1 HV
      go_wp2_with fail
      refine (HE2 _ HR1.out).mono ?_
      rintro e w9 ⟨rfl, h9, t9⟩
      have HK9 : Hid (RK w p w9) := HK1.out.trans t9.rk
      have HQ9 : Hid (PcQ w p ao 1 c w9) := by
        obtain ⟨gg, bb, cb, q1, q2, q3, q4, q5, q6, q7, q8, q9⟩ := HQ1.out
        have e := t9.blk gg q6 (by omega)
        exact ⟨gg, bb, cb, q1, q2, q3, q4, q5, Nat.lt_of_lt_of_le q6 t9.size, (G.cell_of e).trans q7, (G.cell_of e).trans q8, q9⟩
      clear HK1 HQ1 h9 t9
      go_wp2_with fail
      go_ret
      exact ⟨ao, 1, c, rfl, HK9.out, HQ9.out⟩

theorem Read_s0 (w : World) : Calls Tryz.prog 10 #[.string s0] w fun x w' => ∃ gg c bb cb, x = .returned (.tuple #[.slice (some ⟨gg, 0, none⟩) 1 c, .agg #[.int .i64 0, .int .i64 0]]) ∧ 1 ≤ c ∧ c ≤ 9223372036854775807 ∧ w.heap.size ≤ gg ∧ gg < w'.heap.size ∧ w'.cell? ⟨gg, 0, none⟩ = some (.string ⟨#[97]⟩) ∧ w'.cell? ⟨gg, 1, none⟩ = some (.slice (some ⟨bb, 0, none⟩) 1 cb) ∧ 1 ≤ cb ∧ cb ≤ 9223372036854775807 ∧ Below w.heap.size w w' :=
  (Read_done s0 PcQ w (by decide) (fun W p h1 h2 h3 => piece_s0 p 0 W h1 h2 h3)).mono fun x w' h => by
    obtain ⟨ao, n, c, W, w1, rfl, hb, ⟨gg, bb, cb, rfl, rfl, q3, q4, q5, q6, q7, q8, q9, q10⟩, hW, hs, hk⟩ := h
    have e := hk gg (by omega)
    exact ⟨gg, c, bb, cb, rfl, q3, q4, by omega, by omega, (G.cell_of e).trans q7, (G.cell_of e).trans q8, q9, q10, hb⟩
end Go.Proofs.YtaohahahhjkcdaeGreatDoor.J

/- The law's alive. -/
namespace Go.Proofs.YtaohahahhjkcdaeGreatDoor.J
open Go.RowKit
set_option linter.unusedVariables false
set_option linter.unusedSimpArgs false

set_option maxRecDepth 100000 in
set_option maxHeartbeats 2000000 in
theorem alive_any (w : World) : Calls Tryz.prog 4 #[] w fun e w' => e = .returned (.bool true) ∧ Below w.heap.size w w' := by
  have HR := fun W => Read_s0 W
  rw [show s0 = ⟨#[118, 111, 105, 99, 101, 32, 97, 32, 124, 32, 49, 47, 49, 32, 67, 52]⟩ from rfl] at HR
  go_enter Tryz.func4, Tryz.ntmps4
  go_wp2_with fail
  refine (HR _).mono ?_
  rintro e w1 ⟨gg, c, bb, cb, rfl, q1, q2, q3, q4, q5, q6, q7, q8, hb⟩
  go_wp2_with fail
  go_ret
  exact ⟨rfl, hb.alloc hb.size _⟩
end Go.Proofs.YtaohahahhjkcdaeGreatDoor.J
