/- What guess, fold and foldAll come to. -/
import Derived.Test.YtdlcnbfiklbiiaaCo2
import Derived.Test.YtdlcnbfiklbiiaaRFloatC
namespace Go.Proofs.Ytdlcnbfiklbiiaa.Co
open Go.RowKit Go.Maps Go.Sort
set_option linter.unusedVariables false
set_option linter.unusedSimpArgs false

theorem IL.getD {w : World} {S : Nat → Prop} {ao : Option Addr} {l : List Int} {b off : Nat} (h : IL w S ao l) (ha : ao = some ⟨b, off, none⟩) (j : Nat) (hj : j < l.length) : w.cell? ⟨b, off + j, none⟩ = some (.int .i64 (l.getD j 0)) := by
  obtain ⟨b', off', h1, h2, h3, h4⟩ := h.at' (by omega)
  rw [ha] at h1; cases h1
  refine h4 j _ ?_
  rw [List.getD_eq_getElem?_getD, List.getElem?_eq_getElem hj]; rfl
set_option maxRecDepth 8000 in
set_option maxHeartbeats 4000000 in
theorem guess_any (l : List Int) (S : Nat → Prop) (xa : Option Addr) (n c o : Nat) (w : World) (hI : IL w S xa l) (hn : l.length = n) (hc : n ≤ c) (hc2 : c ≤ 9223372036854775807) (hr : ∀ x ∈ l, inR x) (ho : o ≤ 3) (hon : o ≤ n) :
    Calls Try.prog 68 #[.slice xa n c, .int .i64 (o : Int)] w fun e w' => e = .returned (.int .i64 (ge l n o)) ∧ Below w.heap.size w w' := by
  have hq : ∀ i, -32768 ≤ l.getD i 0 ∧ l.getD i 0 ≤ 32767 := getD_in l hr
  obtain rfl | h : o = 0 ∨ 0 < o := by omega
  · have e : ge l n 0 = 0 := rfl
    rw [e]
    go_enter Try.func68, Try.ntmps68
    go_wp2_with fail
    go_ret
    exact ⟨rfl, by go_grown⟩
  obtain ⟨b, off, rfl, lb, _, _⟩ := hI.at' (by omega)
  have c1 := hI.getD rfl (n - 1) (by omega)
  have h1 := hq (n - 1)
  obtain rfl | h' : o = 1 ∨ 1 < o := by omega
  · have e : ge l n 1 = l.getD (n - 1) 0 := rfl
    rw [e]
    clear hI hr hq
    generalize l.getD (n - 1) 0 = A at *
    obtain ⟨m, rfl⟩ : ∃ m, n = m + 1 := ⟨n - 1, by omega⟩
    rw [show m + 1 - 1 = m by omega] at c1
    have w1 : IntKind.i64.wrap (((m + 1 : Nat) : Int) - 1) = (m : Int) := by rw [wid (by omega) (by omega)]; omega
    clear hn
    go_enter Try.func68, Try.ntmps68
    go_wp2_with fail
    go_ret
    exact ⟨rfl, by go_grown⟩
  have c2 := hI.getD rfl (n - 2) (by omega)
  have h2 := hq (n - 2)
  obtain rfl | h'' : o = 2 ∨ o = 3 := by omega
  · have e : ge l n 2 = 2 * l.getD (n - 1) 0 - l.getD (n - 2) 0 := rfl
    rw [e]
    clear hI hr hq
    generalize l.getD (n - 1) 0 = A at *
    generalize l.getD (n - 2) 0 = B at *
    obtain ⟨m, rfl⟩ : ∃ m, n = m + 2 := ⟨n - 2, by omega⟩
    rw [show m + 2 - 1 = m + 1 by omega] at c1
    rw [show m + 2 - 2 = m by omega] at c2
    have w1 : IntKind.i64.wrap (((m + 2 : Nat) : Int) - 1) = ((m + 1 : Nat) : Int) := by rw [wid (by omega) (by omega)]; omega
    have w2 : IntKind.i64.wrap (((m + 2 : Nat) : Int) - 2) = (m : Int) := by rw [wid (by omega) (by omega)]; omega
    clear hn
    go_enter Try.func68, Try.ntmps68
    go_wp2_with fail
    go_region
    go_wp2_with fail
    go_ret
    exact ⟨rfl, by go_grown⟩
  · subst h''
    have c3 := hI.getD rfl (n - 3) (by omega)
    have h3 := hq (n - 3)
    have e : ge l n 3 = 3 * l.getD (n - 1) 0 - 3 * l.getD (n - 2) 0 + l.getD (n - 3) 0 := rfl
    rw [e]
    clear hI hr hq
    generalize l.getD (n - 1) 0 = A at *
    generalize l.getD (n - 2) 0 = B at *
    generalize l.getD (n - 3) 0 = C at *
    obtain ⟨m, rfl⟩ : ∃ m, n = m + 3 := ⟨n - 3, by omega⟩
    rw [show m + 3 - 1 = m + 2 by omega] at c1
    rw [show m + 3 - 2 = m + 1 by omega] at c2
    rw [show m + 3 - 3 = m by omega] at c3
    have w1 : IntKind.i64.wrap (((m + 3 : Nat) : Int) - 1) = ((m + 2 : Nat) : Int) := by rw [wid (by omega) (by omega)]; omega
    have w2 : IntKind.i64.wrap (((m + 3 : Nat) : Int) - 2) = ((m + 1 : Nat) : Int) := by rw [wid (by omega) (by omega)]; omega
    have w3 : IntKind.i64.wrap (((m + 3 : Nat) : Int) - 3) = (m : Int) := by rw [wid (by omega) (by omega)]; omega
    clear hn
    go_enter Try.func68, Try.ntmps68
    go_wp2_with fail
    go_region
    go_wp2_with fail
    go_ret
    exact ⟨rfl, by go_grown⟩
theorem fold_any (d : Int) (w : World) (h1 : -1099511627776 ≤ d) (h2 : d ≤ 1099511627776) :
    Calls Try.prog 67 #[.int .i64 d] w fun e w' => e = .returned (.int .i64 (fo d : Nat)) ∧ w' = w := by
  by_cases c : d < 0
  · have e : ((fo d : Nat) : Int) = -2 * d - 1 := by unfold fo; rw [if_pos c]; omega
    rw [e]
    go_enter Try.func67, Try.ntmps67
    go_wp2_with fail
    go_ret
    exact ⟨rfl, rfl⟩
  · have e : ((fo d : Nat) : Int) = 2 * d := by unfold fo; rw [if_neg c]; omega
    rw [e]
    go_enter Try.func67, Try.ntmps67
    go_wp2_with fail
    go_ret
    exact ⟨rfl, rfl⟩
/-- l[:n], its room as it is. -/
theorem run_upto (la : Option Addr) (m c n : Nat) (h1 : n ≤ c) (w : World) : (Instr.slice 23 (.slice la m c) none (some (.int .i64 (n : Int))) none).run Try.prog w = .ok (.slice la n c) w := by
  have hu : Try.prog.underlying 23 = some (.slice 3) := Try.underlying23
  unfold Instr.slice
  simp [run_underlying hu, Instr.sliceBounds, run_sliceBound, h1, sizeF]
  intro _
  exact map_add0 la
def nts (l : List Nat) : List Int := l.map (fun x : Nat => (x : Int))
theorem nts_len (l : List Nat) : (nts l).length = l.length := List.length_map _
theorem ge_take (f : List Int) (i o : Nat) (h : o ≤ i) : ge (f.take i) i o = ge f i o := by
  have g : ∀ j, j < i → (f.take i).getD j 0 = f.getD j 0 := fun j hj => by
    rw [List.getD_eq_getElem?_getD, List.getD_eq_getElem?_getD, List.getElem?_take_of_lt hj]
  unfold ge
  by_cases c1 : o = 1
  · rw [if_pos c1, if_pos c1, g _ (by omega)]
  · rw [if_neg c1, if_neg c1]
    by_cases c2 : o = 2
    · rw [if_pos c2, if_pos c2, g _ (by omega), g _ (by omega)]
    · rw [if_neg c2, if_neg c2]
      by_cases c3 : o = 3
      · rw [if_pos c3, if_pos c3, g _ (by omega), g _ (by omega), g _ (by omega)]
      · rw [if_neg c3, if_neg c3]
set_option maxRecDepth 8000 in
set_option maxHeartbeats 8000000 in
theorem foldAll_any (f : List Int) (S : Nat → Prop) (xa : Option Addr) (n c o : Nat) (w : World) (hI : IL w S xa f) (hn : f.length = n) (hc : n ≤ c) (hc2 : c ≤ 9223372036854775807) (hr : ∀ x ∈ f, inR x) (ho : o ≤ 3) (hn2 : n ≤ 1099511627776) :
    Calls Try.prog 55 #[.slice xa n c, .int .i64 (o : Int)] w fun e w' => ∃ v, e = .returned v ∧ w'.ownsRow w.heap.size 3 1 v (n - o) (ints (nts (fal f o))) ∧ Below w.heap.size w w' := by
  have HI : Hid (IL w S xa f) := hI
  have HR : Hid (∀ x ∈ f, inR x) := hr
  have HN : Hid (f.length = n) := hn
  clear hI hr hn
  go_enter Try.func55, Try.ntmps55
  go_wp2_with fail
  go_loopw [6, 5] (fun i v wr => ∃ j : Nat, o ≤ j ∧ (j ≤ n ∨ j = o) ∧ i = .int .i64 (j : Int) ∧ Hid (wr.ownsRow w.heap.size 3 1 v (j - o) (ints (nts (fa f o j)))) ∧ Hid (Below w.heap.size w wr)) (fun i _ _ => n - (intOf i).toNat)
  case atStart => exact ⟨o, by omega, Or.inr rfl, rfl, by show World.ownsRow _ _ _ _ _ _ _; rw [fa_self f o o (by omega), show o - o = 0 by omega]; exact World.ownsRow_nil _ _ _ _, Below.refl _ _⟩
  case round =>
    obtain ⟨j, hoj, hjn, rfl, hO, hB⟩ := hrel
    by_cases hlt : j < n
    · have hlt' : (j : Int) < (n : Int) := by omega
      have hIr := HI.out.bel hB.out
      obtain ⟨b, off, rfl, lb, _, _⟩ := HI.out.at' (by rw [HN.out]; omega)
      have cx := hIr.getD rfl j (by rw [HN.out]; exact hlt)
      have hx := getD_in f HR.out j
      have hg := ge_in f HR.out j o
      have hstep : Hid (fa f o (j + 1) = fa f o j ++ [fo (f.getD j 0 - ge f j o)]) := fa_step f o j hoj
      obtain ⟨oa, oc, rfl, o1, o2⟩ := own_form hO.out
      have gq := guess_any (f.take j) S (some ⟨b, off, none⟩) j c o wr.drew ((hIr.take j).keep (fun _ _ _ => rfl) (Nat.le_refl _) (fun _ h _ => h)) (by rw [List.length_take, HN.out]; omega) (by omega) hc2 (fun x hx => HR.out x (List.mem_of_mem_take hx)) ho hoj
      rw [ge_take f j o hoj] at gq
      generalize f.getD j 0 = X at *
      generalize ge f j o = G at *
      have w1 : IntKind.i64.wrap (X - G) = X - G := wid (by omega) (by omega)
      have w2 : IntKind.i64.wrap ((j : Int) + 1) = (j : Int) + 1 := wid (by omega) (by omega)
      have s1 : ∀ W : World, (Instr.slice 23 (.slice (some ⟨b, off, none⟩) n c) none (some (.int .i64 (j : Int))) none).run Try.prog W = .ok (.slice (some ⟨b, off, none⟩) j c) W := fun W => run_upto _ n c j (by omega) W
      have lbr : b < wr.heap.size := by have := hB.out.size; omega
      have HBr : Hid (b < w.heap.size) := lb
      have hL2 : Hid (∀ k, (Value.slice oa (j - o) oc).ownBlock = some k → k < wr.heap.size) := own_lt hO.out
      clear hIr lb
      go_wp2_with fail
      refine RF.wp_region_floatC (fun w' : World => w'.cell? ⟨b, off + j, none⟩ = some (.int .i64 X)) (fun q => q != 9 && q != 11 && q != 12 && q != 13) (by kernel_rfl) (by kernel_rfl) (by kernel_rfl) cx ?_
      refine RF.wpFl_readC rfl rfl (.slice oa (j - o) oc) (fun w' hw' => by have cc : w'.cell? ⟨b, off + j, none⟩ = some (.int .i64 X) := hw'; have cl := lt_cell cc; have ss := s1 w'; unfold RM.valAt; go_simp) ?_
      refine RF.wpFl_readC rfl rfl (.slice (some ⟨b, off, none⟩) n c) (fun w' hw' => by have cc : w'.cell? ⟨b, off + j, none⟩ = some (.int .i64 X) := hw'; have cl := lt_cell cc; have ss := s1 w'; unfold RM.valAt; go_simp) ?_
      refine RF.wpFl_readC rfl rfl (.int .i64 (j : Int)) (fun w' hw' => by have cc : w'.cell? ⟨b, off + j, none⟩ = some (.int .i64 X) := hw'; have cl := lt_cell cc; have ss := s1 w'; unfold RM.valAt; go_simp) ?_
      refine RF.wpFl_readC rfl rfl (.pointer (some ⟨b, off + j, none⟩)) (fun w' hw' => by have cc : w'.cell? ⟨b, off + j, none⟩ = some (.int .i64 X) := hw'; have cl := lt_cell cc; have ss := s1 w'; unfold RM.valAt; go_simp) ?_
      refine RF.wpFl_readC rfl rfl (.int .i64 X) (fun w' hw' => by have cc : w'.cell? ⟨b, off + j, none⟩ = some (.int .i64 X) := hw'; have cl := lt_cell cc; have ss := s1 w'; unfold RM.valAt; go_simp) ?_
      refine RF.wpFl_readC rfl rfl (.slice (some ⟨b, off, none⟩) n c) (fun w' hw' => by have cc : w'.cell? ⟨b, off + j, none⟩ = some (.int .i64 X) := hw'; have cl := lt_cell cc; have ss := s1 w'; unfold RM.valAt; go_simp) ?_
      refine RF.wpFl_readC rfl rfl (.int .i64 (j : Int)) (fun w' hw' => by have cc : w'.cell? ⟨b, off + j, none⟩ = some (.int .i64 X) := hw'; have cl := lt_cell cc; have ss := s1 w'; unfold RM.valAt; go_simp) ?_
      refine RF.wpFl_readC rfl rfl (.slice (some ⟨b, off, none⟩) j c) (fun w' hw' => by have cc : w'.cell? ⟨b, off + j, none⟩ = some (.int .i64 X) := hw'; have cl := lt_cell cc; have ss := s1 w'; unfold RM.valAt; go_simp) ?_
      refine RF.wpFl_readC rfl rfl (.int .i64 (o : Int)) (fun w' hw' => by have cc : w'.cell? ⟨b, off + j, none⟩ = some (.int .i64 X) := hw'; have cl := lt_cell cc; have ss := s1 w'; unfold RM.valAt; go_simp) ?_
      refine RF.wpFl_doC rfl rfl (fun K hK => ?_)
      go_wp2_with fail
      refine gq.mono ?_
      rintro e w3 ⟨rfl, hb3⟩
      go_wp2_with fail
      have hb3' : Below wr.heap.size wr w3 := ⟨hb3.os, hb3.tape, hb3.output, hb3.size, fun k hk => hb3.block k hk⟩
      have cx3 := keepC hb3' lbr cx
      refine hK _ _ cx3 ?_
      clear hK K gq hb3
      refine RF.wpFl_readC rfl rfl (.int .i64 (X - G)) (fun w' hw' => by have cc : w'.cell? ⟨b, off + j, none⟩ = some (.int .i64 X) := hw'; have cl := lt_cell cc; have ss := s1 w'; unfold RM.valAt; go_simp) ?_
      refine RF.wpFl_doC rfl rfl (fun K hK => ?_)
      go_wp2_with fail
      refine (fold_any (X - G) w3 (by omega) (by omega)).mono ?_
      rintro e w4 ⟨rfl, hw4⟩
      subst hw4
      go_wp2_with fail
      refine hK _ _ cx3 ?_
      clear hK K
      refine RF.wpFl_doC rfl rfl (fun K hK => ?_)
      go_wp2_with fail
      have hb4 : Below w4.heap.size w4 (w4.alloc (.cells #[.int .i64 ((fo (X - G) : Nat) : Int)] 3)) := (Below.refl _ _).alloc (Nat.le_refl _) _
      have cx4 := keepC hb4 (by show b < w4.heap.size; have := hb3'.size; omega) cx3
      have hO4 : (w4.alloc (.cells #[.int .i64 ((fo (X - G) : Nat) : Int)] 3)).ownsRow w.heap.size 3 1 (.slice oa (j - o) oc) (j - o) (ints (nts (fa f o j))) := own_step hO.out (fun k hk => by rw [hb4.block k (by have := hL2.out k hk; have := hb3'.size; omega), hb3'.block k (hL2.out k hk)])
      refine hK _ _ cx4 ?_
      clear hK K
      refine RF.wpFl_doC rfl rfl (fun K hK => ?_)
      refine wpList_append_1 23 3 (.int .i64 0) 8 Try.underlying23 infoI rfl rfl (.tmp 14) (.tmp 26) rfl w.heap.size _ _ _ rfl hO4 w4.heap.size (.int .i64 ((fo (X - G) : Nat) : Int)) rfl (by simp [go_sem]) rfl (by omega) (by omega) (by have := hB.out.size; have := hb3'.size; simp; omega) ?_
      intro v' w5 k1 k2
      have cx5 : w5.cell? ⟨b, off + j, none⟩ = some (.int .i64 X) := k2.cell (by have := hb3'.size; simp; omega) (fun q => by have := own_block hO4 b q.symm; have := HBr.out; omega) cx4
      have HB5 : Hid (Below w.heap.size w w5) := (hB.out.trans ((hb3'.trans (hb4.mono hb3'.size)).mono hB.out.size)).trans (k2.bel (by have := hB.out.size; have := hb3'.size; simp; omega) (fun q hq => own_block hO4 q hq))
      have HO5 : Hid (w5.ownsRow w.heap.size 3 1 v' (j + 1 - o) (ints (nts (fa f o (j + 1))))) := by
        show World.ownsRow _ _ _ _ _ _ _
        rw [hstep.out, show j + 1 - o = j - o + 1 by omega]
        unfold nts ints at *
        simpa using k1
      refine hK _ _ cx5 ?_
      clear hK K k1 k2 hO4 hb4 cx4 hb3' cx3
      refine RF.wpFl_readC rfl rfl v' (fun w' hw' => by unfold RM.valAt; go_simp) ?_
      refine RF.wpFl_nil ?_
      clear hO hB hL2 cx5 cx HI HR HN hstep
      go_wp2_with fail
      go_roundw
      case rel => exact ⟨j + 1, by omega, Or.inl (by omega), by go_num, HO5, HB5⟩
      case measure => simp [intOf]; omega
    · have hlt' : ¬ (j : Int) < (n : Int) := by omega
      have e : j - o = n - o := by omega
      have e2 : fa f o j = fal f o := by
        unfold fal; rw [HN.out]
        rcases hjn with h | h
        · rw [show j = n by omega]
        · subst h; rw [fa_self f j j (by omega), fa_self f j n (by omega)]
      rw [e, e2] at hO
      clear e e2
      go_wp2_with fail
      go_ret
      exact ⟨_, rfl, hO.out, hB.out⟩
end Go.Proofs.Ytdlcnbfiklbiiaa.Co
