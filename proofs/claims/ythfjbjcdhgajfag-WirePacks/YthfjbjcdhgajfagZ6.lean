/- What the program's Pack comes to. -/
import Derived.Test.YthfjbjcdhgajfagZ2
import Derived.Test.YthfjbjcdhgajfagZ5
import Derived.Laws.BytesArg
namespace Go.Proofs.Ythfjbjcdhgajfag.Z
open Go.RowKit Go.Maps
set_option linter.unusedVariables false
set_option linter.unusedSimpArgs false

/-- Bytes as a text. -/
def bs (l : List Nat) : ByteArray := strOfNums (l.map fun n : Nat => (n : Int))
theorem bs_nil : bs [] = ⟨#[]⟩ := rfl
theorem OB.conv {w : World} {base : Nat} {v : Value} {xs : List Nat} (h : OB w base v xs) : ∃ a c, v = .slice a xs.length c ∧ (convert 65 9 (.slice a xs.length c)).run Try.prog w = .ok (.string (bs xs)) w := by
  unfold OB at h
  rcases h.2 with ⟨h1, h2⟩ | ⟨g, cap, cur, h1, h2, h3, rest⟩
  · have hx : xs = [] := List.length_eq_zero_iff.1 h2
    subst hx
    refine ⟨none, 0, h1, ?_⟩
    have := run_convert_bytes_nil (P := Try.prog) w 65 5 Try.underlying65 Try.underlying5 0 0 9 Try.underlying9
    exact this
  · refine ⟨some ⟨g, 0, none⟩, cap, h1, ?_⟩
    subst h1
    refine run_convert_bytes_arg (P := Try.prog) w 65 5 Try.underlying65 Try.underlying5 g 0 xs.length cap (xs.map fun n : Nat => (n : Int)) (by simp) (fun i hi => ?_) 9 Try.underlying9
    have hc := World.ownsRow.cellAt h i (by omega)
    rw [Nat.zero_add, hc]
    simp [bc, List.getD, hi]
theorem M.wl_each {l : List M.Ev} {k : Nat} {e : M.Ev} (h : M.wl 0 l = 0) (he : l[k]? = some e) : M.we e (M.lst M.z0 (l.take k)).t = 0 ∧ 0 ≤ (M.lst M.z0 (l.take k)).t := by
  obtain ⟨hk, he'⟩ := List.getElem?_eq_some_iff.1 he
  have h1 : M.wl M.z0.t (l.take k ++ l.drop k) = 0 := by rw [List.take_append_drop]; exact h
  obtain ⟨h2, h3⟩ := M.wl_append h1
  rw [List.drop_eq_getElem_cons hk, he'] at h3
  refine ⟨(M.wl_ok.1 h3).1, ?_⟩
  have h4 := M.wl_at h (Int.le_refl _)
  cases k with
  | zero => exact Int.le_refl _
  | succ k =>
    have hx : l[k]? = some l[k] := List.getElem?_eq_getElem (by omega)
    rw [List.take_add_one, hx]
    show 0 ≤ (M.lst M.z0 (l.take k ++ [l[k]])).t
    rw [M.lst_snoc]
    exact (h4 _ (List.getElem_mem _)).2.2
theorem M.pk_take {l : List M.Ev} {k : Nat} {e : M.Ev} (he : l[k]? = some e) : M.pk M.z0 (l.take (k + 1)) = M.pk M.z0 (l.take k) ++ M.eb (M.lst M.z0 (l.take k)) e := by
  rw [List.take_add_one, he]; exact M.pk_snoc _ _ _
theorem M.lst_take2 {l : List M.Ev} {k : Nat} {e : M.Ev} (h : l[k]? = some e) (z : M.Ev) : M.lst z (l.take (k + 1)) = e := by
  rw [List.take_add_one, h]; exact M.lst_snoc _ _ _
/-- A variable that holds an event. -/
structure V5 (w : World) (b : Nat) (e : M.Ev) : Prop where
  lt : b < w.heap.size
  c : E5 w b 0 e
  f : ∀ j, w.frozen? ⟨b, j, none⟩ = false
theorem V5.keep {w w' : World} {b B : Nat} {e : M.Ev} (h : V5 w b e) (hlt : b < B) (hb : Below B w w') : V5 w' b e :=
  ⟨Nat.lt_of_lt_of_le h.lt hb.size, h.c.keep hlt hb, fun j => keepF hb hlt (h.f j)⟩
theorem V5.gw {w w' : World} {v v' : Value} {b : Nat} {e : M.Ev} (h : V5 w b e) (hg : Gw w w' v v') (hne : some b ≠ v.ownBlock) : V5 w' b e :=
  ⟨Nat.lt_of_lt_of_le h.lt hg.gr.size, ⟨hg.cell h.lt hne h.c.c0, hg.cell h.lt hne h.c.c1, hg.cell h.lt hne h.c.c2, hg.cell h.lt hne h.c.c3, hg.cell h.lt hne h.c.c4⟩, fun j => hg.froz h.lt hne (h.f j)⟩
theorem oth {W : World} {b a c : Nat} {v : Value} (hab : a ≠ c) : (W.setCell ⟨b, a, none⟩ v).cell? ⟨b, c, none⟩ = W.cell? ⟨b, c, none⟩ := World.cell?_setCell_other W _ _ v (fun e => hab (congrArg Addr.off e))
theorem sam {W : World} {b a : Nat} {v u : Value} (h : W.cell? ⟨b, a, none⟩ = some u) : (W.setCell ⟨b, a, none⟩ v).cell? ⟨b, a, none⟩ = some v := World.cell?_setCell_same W _ v h
theorem V5.put {w : World} {b : Nat} {e : M.Ev} (h : V5 w b e) (y : M.Ev) :
    V5 (((((w.setCell ⟨b, 0, none⟩ (.int .i64 y.t)).setCell ⟨b, 1, none⟩ (.int .i64 y.k)).setCell ⟨b, 2, none⟩ (.int .i64 y.c)).setCell ⟨b, 3, none⟩ (.int .i64 y.a)).setCell ⟨b, 4, none⟩ (.int .i64 y.b)) b y := by
  obtain ⟨h0, h1, h2, h3, h4⟩ := h.c
  rw [Nat.zero_add] at h1 h2 h3 h4
  refine ⟨by simpa [World.setCell] using h.lt, ⟨?_, ?_, ?_, ?_, ?_⟩, fun j => ?_⟩
  · rw [oth (by omega), oth (by omega), oth (by omega), oth (by omega), sam h0]
  · rw [Nat.zero_add, oth (by omega), oth (by omega), oth (by omega), sam ((oth (by omega)).trans h1)]
  · rw [Nat.zero_add, oth (by omega), oth (by omega), sam ((oth (by omega)).trans ((oth (by omega)).trans h2))]
  · rw [Nat.zero_add, oth (by omega), sam ((oth (by omega)).trans ((oth (by omega)).trans ((oth (by omega)).trans h3)))]
  · rw [Nat.zero_add, sam ((oth (by omega)).trans ((oth (by omega)).trans ((oth (by omega)).trans ((oth (by omega)).trans h4))))]
  · simp only [World.frozen?_setCell]; exact h.f j
/-- What Pack answers. -/
def pa (l : List M.Ev) : ByteArray := if M.wr l = 0 then bs (M.pk M.z0 l) else ⟨#[]⟩

set_option maxHeartbeats 4000000 in
theorem Pack_any (l : List M.Ev) (ao : Option Addr) (c : Nat) (w : World) (hp : LE w ao l) (hc : l.length ≤ c) (hcm : c ≤ 9223372036854775807) (hbd : ∀ e ∈ l, e.t ≤ 9223372036854775807) :
    Calls Try.prog 20 #[.slice ao l.length c] w fun e w' => e = .returned (.tuple #[.string (pa l), .int .i64 (M.wr l)]) ∧ Below w.heap.size w w' := by
  have HW := Wrong_any l ao c w hp hc hcm hbd
  by_cases hok : M.wr l = 0
  · have hpa : pa l = bs (M.pk M.z0 l) := if_pos hok
    have hlen : l.length ≤ 4096 := by
      by_cases h : 4096 < l.length
      · unfold M.wr at hok; rw [if_pos h] at hok; omega
      · omega
    have hwl : Hid (M.wl 0 l = 0) := by show _ = _; unfold M.wr at hok; rw [if_neg (by omega)] at hok; exact hok
    rw [hpa, hok]
    rw [hok] at HW
    clear hpa hok
    obtain ⟨PK, hPK⟩ : ∃ P, P = M.pk M.z0 l := ⟨_, rfl⟩
    rw [← hPK]
    have HPK : Hid (PK = M.pk M.z0 l) := hPK
    clear hPK
    go_enter Try.func20, Try.ntmps20
    go_wp2_with fail
    refine HW.mono ?_
    rintro e w1 ⟨rfl, hb1⟩
    have z1 := hb1.size
    clear HW
    go_wp2_with fail
    have hv0 : ∀ os : Obj, os = .cells #[.int .i64 0, .int .i64 0, .int .i64 0, .int .i64 0, .int .i64 0] 62 → V5 (w1.alloc os) w1.heap.size M.z0 := by
      rintro os rfl
      exact ⟨by simp, ⟨by simp [go_sem], by simp [go_sem], by simp [go_sem], by simp [go_sem], by simp [go_sem]⟩, fun j => by simp [go_sem]⟩
    have hb0 : ∀ os, Below w.heap.size w (w1.alloc os) := fun os => hb1.alloc hb1.size _
    go_loopw [16, 5] (fun i o wr => ∃ (k : Nat), k ≤ l.length ∧ i = .int .i64 k ∧ OB wr (w1.heap.size + 1) o (M.pk M.z0 (l.take k)) ∧ V5 wr w1.heap.size (M.lst M.z0 (l.take k)) ∧ Below w.heap.size w wr) (fun i _ _ => l.length - (intOf i).toNat)
    case atStart => exact ⟨0, by omega, rfl, World.ownsRow_nil _ _ _ _, hv0 _ rfl, hb0 _⟩
    case round =>
      obtain ⟨k, hkn, rfl, ho, hv, hbr⟩ := hrel
      clear hv0 hb0
      by_cases hlt : k < l.length
      · have hlt' : (k : Int) < l.length := by omega
        obtain ⟨b, off, rfl, hbl, q0⟩ := (hp.step hbr).at' (by omega)
        obtain ⟨e, he⟩ : ∃ e, l[k]? = some e := ⟨_, List.getElem?_eq_getElem hlt⟩
        have q := q0 k e he
        have r0 := q.c0
        have r1 := q.c1
        have r2 := q.c2
        have r3 := q.c3
        have r4 := q.c4
        have w3 : IntKind.i64.wrap ((k : Int) + 1) = (k : Int) + 1 := wid (by omega) (by omega)
        obtain ⟨e1, e2⟩ := M.wl_each hwl.out he
        have hpl : (M.pk M.z0 (l.take k)).length ≤ 400000 := by
          have := M.pk_len M.z0 (l.take k); rw [List.length_take] at this; omega
        have HP : Hid (M.pk M.z0 (l.take (k + 1)) = M.pk M.z0 (l.take k) ++ M.eb (M.lst M.z0 (l.take k)) e) := M.pk_take he
        have HL : Hid (M.lst M.z0 (l.take (k + 1)) = e) := M.lst_take2 he _
        have HA := fun v w ho hb => appendEvent_any (M.lst M.z0 (l.take k)) e e1 e2 (hbd e (List.mem_of_getElem? he)) (w1.heap.size + 1) v _ w ho hb hpl
        generalize M.pk M.z0 (l.take k) = PP at *
        generalize M.lst M.z0 (l.take k) = AH at *
        clear q q0 he e1 e2 hpl
        obtain ⟨et, ek, ec, ea', eb'⟩ := e
        obtain ⟨at', ak, ac, aa, ab⟩ := AH
        have s0 := hv.c.c0
        have s1 := hv.c.c1
        have s2 := hv.c.c2
        have s3 := hv.c.c3
        have s4 := hv.c.c4
        have slt := hv.lt
        rw [Nat.zero_add] at s1 s2 s3 s4
        simp only at *
        have hb1' : ∀ os, Below wr.heap.size wr (wr.alloc os) := fun os => by go_grown
        go_wp2_with fail
        refine (HA _ _ (ho.keep (hb1' _)) (by simp; omega)).mono ?_
        rintro x w2 ⟨V2, rfl, ho2, hg2⟩
        rw [← HP.out] at ho2
        have hne : ∀ k, u5.ownBlock = some k → k < wr.heap.size ∧ w1.heap.size < k := fun k hk => ⟨own_lt ho k hk, own_block ho k hk⟩
        have hv2 : V5 w2 w1.heap.size ⟨at', ak, ac, aa, ab⟩ := (hv.keep hv.lt (hb1' _)).gw hg2 (fun q => by have := hne _ q.symm; omega)
        have he2 : ∀ o u, (World.cell? _ ⟨wr.heap.size, o, none⟩ = some u) → w2.cell? ⟨wr.heap.size, o, none⟩ = some u := fun o u hc => hg2.cell (by simp) (fun q => by have := hne _ q.symm; omega) hc
        have t0 : w2.cell? ⟨wr.heap.size, 0, none⟩ = some (.int .i64 et) := he2 _ _ (by simp [go_sem])
        have t1 : w2.cell? ⟨wr.heap.size, 1, none⟩ = some (.int .i64 ek) := he2 _ _ (by simp [go_sem])
        have t2 : w2.cell? ⟨wr.heap.size, 2, none⟩ = some (.int .i64 ec) := he2 _ _ (by simp [go_sem])
        have t3 : w2.cell? ⟨wr.heap.size, 3, none⟩ = some (.int .i64 ea') := he2 _ _ (by simp [go_sem])
        have t4 : w2.cell? ⟨wr.heap.size, 4, none⟩ = some (.int .i64 eb') := he2 _ _ (by simp [go_sem])
        have z2 := hg2.gr.size
        simp at z2
        have hb2 : Below w.heap.size w w2 := (hbr.alloc hbr.size _).trans (hg2.bel (by simp; have := hbr.size; omega) (fun k hk => by have := hne k hk; omega))
        have hv3 := hv2.put ⟨et, ek, ec, ea', eb'⟩
        have ho3 : ∀ (W : World) (a : Addr) u, a.block = w1.heap.size → OB W (w1.heap.size + 1) V2 (M.pk M.z0 (l.take (k + 1))) → OB (W.setCell a u) (w1.heap.size + 1) V2 (M.pk M.z0 (l.take (k + 1))) := fun W a u ha h => own_step h (fun k hk => heap_setCell_other _ _ _ _ (by have := own_block h k hk; omega))
        have f0 := hv2.f 0
        have f1 := hv2.f 1
        have f2 := hv2.f 2
        have f3 := hv2.f 3
        have f4 := hv2.f 4
        have d0 := hv2.c.c0
        have d1 := hv2.c.c1
        have d2 := hv2.c.c2
        have d3 := hv2.c.c3
        have d4 := hv2.c.c4
        rw [Nat.zero_add] at d1 d2 d3 d4
        have lt2 := hv2.lt
        have hz3 : Hid (M.lst M.z0 (l.take (k + 1)) = ⟨et, ek, ec, ea', eb'⟩) := HL
        clear hne he2 hg2 HA HP HL hv2 hv ho hb1' s0 s1 s2 s3 s4 r0 r1 r2 r3 r4
        go_wp2_with fail
        go_roundw
        case rel =>
          refine ⟨k + 1, by omega, by go_num, ?_, by rw [hz3.out]; exact hv3, ((((hb2.setCell (by simp; omega) _).setCell (by simp; omega) _).setCell (by simp; omega) _).setCell (by simp; omega) _).setCell (by simp; omega) _⟩
          exact ho3 _ _ _ rfl (ho3 _ _ _ rfl (ho3 _ _ _ rfl (ho3 _ _ _ rfl (ho3 _ _ _ rfl ho2))))
        case measure => simp [intOf]; omega
      · obtain rfl : k = l.length := by omega
        have hlt' : ¬ ((l.length : Nat) : Int) < l.length := by omega
        rw [List.take_length, ← HPK.out] at ho
        obtain ⟨a, cp, rfl, hcv⟩ := ho.conv
        clear HPK hv ho
        go_wp2_with fail
        go_returns
        exact ⟨rfl, hbr⟩
  · have hpa : pa l = ⟨#[]⟩ := if_neg hok
    rw [hpa]
    generalize M.wr l = X at *
    have hx : (X != 0) = true := by simp [hok]
    clear hok hpa
    go_enter Try.func20, Try.ntmps20
    go_wp2_with fail
    refine HW.mono ?_
    rintro e w1 ⟨rfl, hb1⟩
    go_wp2_with fail
    go_returns
    exact ⟨rfl, hb1⟩
end Go.Proofs.Ythfjbjcdhgajfag.Z
