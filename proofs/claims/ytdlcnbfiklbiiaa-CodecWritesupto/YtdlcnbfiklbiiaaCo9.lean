/- The document's Fold, power, Differences, Misses and Long. -/
import Derived.Test.YtdlcnbfiklbiiaaCo4
namespace Go.Proofs.Ytdlcnbfiklbiiaa.Co
open Go.RowKit Go.Maps Go.Sort
set_option linter.unusedVariables false
set_option linter.unusedSimpArgs false

def dfa (l : List Int) (n : Nat) : List Int := (List.range n).map fun i => l.getD (i + 1) 0 - l.getD i 0
def df (l : List Int) : List Int := dfa l (l.length - 1)
theorem dfa_len (l : List Int) (n : Nat) : (dfa l n).length = n := by unfold dfa; simp
theorem dfa_step (l : List Int) (n : Nat) : dfa l (n + 1) = dfa l n ++ [l.getD (n + 1) 0 - l.getD n 0] := by unfold dfa; rw [List.range_succ, List.map_append]; rfl
theorem df_len (l : List Int) : (df l).length = l.length - 1 := dfa_len _ _
theorem df_get (l : List Int) (j : Nat) (h : j < l.length - 1) : (df l).getD j 0 = l.getD (j + 1) 0 - l.getD j 0 := by
  unfold df dfa
  rw [List.getD_eq_getElem?_getD, List.getElem?_map, List.getElem?_range h]; rfl
/-- Within a bound. -/
def bd (M : Int) (l : List Int) : Prop := ∀ x ∈ l, -M ≤ x ∧ x ≤ M
theorem bd_get {M : Int} {l : List Int} (h : bd M l) (hM : 0 ≤ M) (i : Nat) : -M ≤ l.getD i 0 ∧ l.getD i 0 ≤ M := by
  rw [List.getD_eq_getElem?_getD]
  cases e : l[i]? with
  | none => exact ⟨by show -M ≤ 0; omega, hM⟩
  | some x => exact h x (List.mem_of_getElem? e)
theorem bd_df {M : Int} {l : List Int} (h : bd M l) (hM : 0 ≤ M) : bd (2 * M) (df l) := by
  intro x hx
  unfold df dfa at hx
  obtain ⟨i, _, rfl⟩ := List.mem_map.1 hx
  have a := bd_get h hM (i + 1); have b := bd_get h hM i
  omega
/-- Differences of differences, so often. -/
def dfs (l : List Int) : Nat → List Int
  | 0 => l
  | k + 1 => df (dfs l k)
theorem dfs_len (l : List Int) (k : Nat) : (dfs l k).length = l.length - k := by
  induction k with
  | zero => simp [dfs]
  | succ k ih => show (df _).length = _; rw [df_len, ih]; omega
theorem bd_dfs {M : Int} {l : List Int} (h : bd M l) (hM : 0 ≤ M) (k : Nat) (hk : k ≤ 3) : bd (8 * M) (dfs l k) := by
  have h0 : bd M (dfs l 0) := h
  have h1 : bd (2 * M) (dfs l 1) := bd_df h0 hM
  have h2 : bd (4 * M) (dfs l 2) := by have := bd_df h1 (by omega); rw [show 2 * (2 * M) = 4 * M by omega] at this; exact this
  have h3 : bd (8 * M) (dfs l 3) := by have := bd_df h2 (by omega); rw [show 2 * (4 * M) = 8 * M by omega] at this; exact this
  match k, hk with
  | 0, _ => exact fun x hx => by have := h0 x hx; omega
  | 1, _ => exact fun x hx => by have := h1 x hx; omega
  | 2, _ => exact fun x hx => by have := h2 x hx; omega
  | 3, _ => exact h3
/-- What is missed is what differs of what differs. -/
theorem dfs_ge (f : List Int) (o j : Nat) (ho : o ≤ 3) (hj : o + j < f.length) : (dfs f o).getD j 0 = f.getD (o + j) 0 - ge f (o + j) o := by
  have h1 : ∀ i, 1 + i < f.length → (dfs f 1).getD i 0 = f.getD (1 + i) 0 - f.getD i 0 := fun i hi => by
    show (df f).getD i 0 = _
    rw [df_get _ _ (by omega), show i + 1 = 1 + i by omega]
  have h2 : ∀ i, 2 + i < f.length → (dfs f 2).getD i 0 = f.getD (2 + i) 0 - 2 * f.getD (1 + i) 0 + f.getD i 0 := fun i hi => by
    show (df (dfs f 1)).getD i 0 = _
    rw [df_get _ _ (by rw [dfs_len]; omega), h1 _ (by omega), h1 _ (by omega), show 1 + (i + 1) = 2 + i by omega, show i + 1 = 1 + i by omega]; omega
  have h3 : ∀ i, 3 + i < f.length → (dfs f 3).getD i 0 = f.getD (3 + i) 0 - 3 * f.getD (2 + i) 0 + 3 * f.getD (1 + i) 0 - f.getD i 0 := fun i hi => by
    show (df (dfs f 2)).getD i 0 = _
    rw [df_get _ _ (by rw [dfs_len]; omega), h2 _ (by omega), h2 _ (by omega), show 2 + (i + 1) = 3 + i by omega, show 1 + (i + 1) = 2 + i by omega, show i + 1 = 1 + i by omega]; omega
  match o, ho with
  | 0, _ => simp [dfs, ge]
  | 1, _ => rw [h1 j hj]; unfold ge; rw [if_pos rfl, show 1 + j - 1 = j by omega]
  | 2, _ => rw [h2 j hj]; unfold ge; rw [if_neg (by omega), if_pos rfl, show 2 + j - 1 = 1 + j by omega, show 2 + j - 2 = j by omega]; omega
  | 3, _ => rw [h3 j hj]; unfold ge; rw [if_neg (by omega), if_neg (by omega), if_pos rfl, show 3 + j - 1 = 2 + j by omega, show 3 + j - 2 = 1 + j by omega, show 3 + j - 3 = j by omega]; omega
theorem dfs_fal (f : List Int) (o : Nat) (ho : o ≤ 3) : (dfs f o).map fo = fal f o := by
  refine List.ext_getElem? (fun j => ?_)
  unfold fal fa
  rw [List.getElem?_map, List.getElem?_map]
  by_cases c : j < f.length - o
  · rw [List.getElem?_range c]
    have h := dfs_ge f o j ho (by omega)
    rw [List.getD_eq_getElem?_getD] at h
    rw [List.getElem?_eq_getElem (by rw [dfs_len]; exact c)] at h ⊢
    simp only [Option.map_some, Option.getD_some] at h ⊢
    rw [h]
  · rw [List.getElem?_eq_none (by rw [dfs_len]; omega), List.getElem?_eq_none (by simp; omega)]; rfl
theorem refFold_any (d : Int) (w : World) (h1 : -1099511627776 ≤ d) (h2 : d ≤ 1099511627776) :
    Calls Try.prog 70 #[.int .i64 d] w fun e w' => e = .returned (.int .i64 (fo d : Nat)) ∧ w' = w := by
  by_cases c : d < 0
  · have e : ((fo d : Nat) : Int) = 2 * -d - 1 := by unfold fo; rw [if_pos c]; omega
    rw [e]
    go_enter Try.func70, Try.ntmps70
    go_wp2_with fail
    go_ret
    exact ⟨rfl, rfl⟩
  · have e : ((fo d : Nat) : Int) = 2 * d := by unfold fo; rw [if_neg c]; omega
    rw [e]
    go_enter Try.func70, Try.ntmps70
    go_wp2_with fail
    go_ret
    exact ⟨rfl, rfl⟩
theorem pow_lt62 (j : Nat) (h : j ≤ 60) : 2 ^ j ≤ 1152921504606846976 := Nat.pow_le_pow_right (n := 2) (by omega) h
set_option maxHeartbeats 4000000 in
theorem power_any (k : Nat) (w : World) (hk : k ≤ 60) :
    Calls Try.prog 59 #[.int .i64 (k : Int)] w fun e w' => e = .returned (.int .i64 ((2 ^ k : Nat) : Int)) ∧ w' = w := by
  go_enter Try.func59, Try.ntmps59
  go_wp2_with fail
  go_loopw [4, 3] (fun i v wr => ∃ (j P : Nat), j ≤ k ∧ i = .int .i64 (j : Int) ∧ v = .int .i64 (P : Int) ∧ Hid (P = 2 ^ j) ∧ wr = w) (fun i _ _ => k - (intOf i).toNat)
  case atStart => exact ⟨0, 1, by omega, rfl, rfl, rfl, rfl⟩
  case round =>
    obtain ⟨j, P, hj, rfl, rfl, hP, hwr⟩ := hrel
    subst hwr
    by_cases hlt : j < k
    · have hlt' : (j : Int) < (k : Int) := by omega
      have hb := pow_lt62 j (by omega)
      rw [← hP.out] at hb
      have hP2 : Hid (2 * P = 2 ^ (j + 1)) := by show _ = _; rw [hP.out, Nat.pow_succ, Nat.mul_comm]
      have w1 : IntKind.i64.wrap (2 * (P : Int)) = ((2 * P : Nat) : Int) := by rw [wid (by omega) (by omega)]; omega
      have w2 : IntKind.i64.wrap ((j : Int) + 1) = (j : Int) + 1 := wid (by omega) (by omega)
      clear hP
      go_wp2_with (simp only [w1])
      go_roundw
      case rel => exact ⟨j + 1, 2 * P, by omega, by go_num, by go_num, hP2, by first | rfl | trivial⟩
      case measure => simp [intOf]; omega
    · obtain rfl : j = k := by omega
      have hlt' : ¬ (j : Int) < (j : Int) := by omega
      have e : Value.int .i64 (P : Int) = .int .i64 ((2 ^ j : Nat) : Int) := by rw [hP.out]
      have HE : Hid (Value.int .i64 (P : Int) = .int .i64 ((2 ^ j : Nat) : Int)) := e
      clear e hP
      go_wp2_with fail
      go_ret
      exact ⟨congrArg Ending.returned HE.out, by first | rfl | trivial⟩
set_option maxRecDepth 8000 in
set_option maxHeartbeats 8000000 in
theorem differences_any (l : List Int) (S : Nat → Prop) (xa : Option Addr) (n c : Nat) (w : World) (hI : IL w S xa l) (hS : ∀ b, S b → b < w.heap.size) (hn : l.length = n) (hc : n ≤ c) (hc2 : c ≤ 9223372036854775807) (hr : bd 1099511627776 l) (hn2 : n ≤ 1099511627776) :
    Calls Try.prog 69 #[.slice xa n c] w fun e w' => ∃ v, e = .returned v ∧ w'.ownsRow w.heap.size 3 1 v (n - 1) (ints (df l)) ∧ Below w.heap.size w w' := by
  have HI : Hid (IL w S xa l) := hI
  have HR : Hid (bd 1099511627776 l) := hr
  have HN : Hid (l.length = n) := hn
  clear hI hr hn
  go_enter Try.func69, Try.ntmps69
  go_wp2_with fail
  go_loopw [4, 3] (fun i v wr => ∃ j : Nat, (j + 1 ≤ n ∨ j = 0) ∧ i = .int .i64 ((j + 1 : Nat) : Int) ∧ Hid (wr.ownsRow w.heap.size 3 1 v j (ints (dfa l j))) ∧ Hid (Below w.heap.size w wr)) (fun i _ _ => n + 1 - (intOf i).toNat)
  case atStart => exact ⟨0, Or.inr rfl, rfl, World.ownsRow_nil _ _ _ _, Below.refl _ _⟩
  case round =>
    obtain ⟨j, hjn, rfl, hO, hB⟩ := hrel
    by_cases hlt : j + 1 < n
    · have hlt' : ((j + 1 : Nat) : Int) < (n : Int) := by omega
      have hIr := HI.out.bel hB.out
      obtain ⟨b, off, rfl, lb, _, _⟩ := HI.out.at' (by rw [HN.out]; omega)
      have cx := hIr.getD rfl (j + 1) (by rw [HN.out]; exact hlt)
      have cy := hIr.getD rfl j (by rw [HN.out]; omega)
      have hx := bd_get HR.out (by omega) (j + 1)
      have hy := bd_get HR.out (by omega) j
      obtain ⟨m, hm⟩ : ∃ m, m = j + 1 := ⟨_, rfl⟩
      have hstep : Hid (dfa l (j + 1) = dfa l j ++ [l.getD (j + 1) 0 - l.getD j 0]) := dfa_step l j
      obtain ⟨oa, oc, rfl, o1, o2⟩ := own_form hO.out
      generalize l.getD (j + 1) 0 = X at *
      generalize l.getD j 0 = Y at *
      rw [← hm] at cx hlt hlt'
      have w2 : IntKind.i64.wrap ((m : Int) + 1) = ((m + 1 : Nat) : Int) := by rw [wid (by omega) (by omega)]; omega
      have w3 : IntKind.i64.wrap ((m : Int) - 1) = (j : Int) := by rw [wid (by omega) (by omega)]; omega
      have w1 : IntKind.i64.wrap (X - Y) = X - Y := wid (by omega) (by omega)
      have lbr : b < wr.heap.size := by have := hB.out.size; omega
      have HBr : Hid (b < w.heap.size) := lb
      have hL2 : Hid (∀ k, (Value.slice oa j oc).ownBlock = some k → k < wr.heap.size) := own_lt hO.out
      have hjn1 : j < n := by omega
      rw [← hm]
      have HM : Hid (m = j + 1) := hm
      clear hIr lb hm
      go_wp2_with fail
      refine RF.wp_region_floatC (fun w' : World => w'.cell? ⟨b, off + m, none⟩ = some (.int .i64 X) ∧ w'.cell? ⟨b, off + j, none⟩ = some (.int .i64 Y)) (fun q => q != 11 && q != 12) (by kernel_rfl) (by kernel_rfl) (by kernel_rfl) ⟨cx, cy⟩ ?_
      refine RF.wpFl_readC rfl rfl (.slice oa j oc) (fun w' hw' => by have cc := hw'.1; have cd := hw'.2; have cl := lt_cell cc; unfold RM.valAt; go_simp) ?_
      refine RF.wpFl_readC rfl rfl (.slice (some ⟨b, off, none⟩) n c) (fun w' hw' => by have cc := hw'.1; have cd := hw'.2; have cl := lt_cell cc; unfold RM.valAt; go_simp) ?_
      refine RF.wpFl_readC rfl rfl (.int .i64 (m : Int)) (fun w' hw' => by have cc := hw'.1; have cd := hw'.2; have cl := lt_cell cc; unfold RM.valAt; go_simp) ?_
      refine RF.wpFl_readC rfl rfl (.pointer (some ⟨b, off + m, none⟩)) (fun w' hw' => by have cc := hw'.1; have cd := hw'.2; have cl := lt_cell cc; unfold RM.valAt; go_simp) ?_
      refine RF.wpFl_readC rfl rfl (.int .i64 X) (fun w' hw' => by have cc := hw'.1; have cd := hw'.2; have cl := lt_cell cc; unfold RM.valAt; go_simp) ?_
      refine RF.wpFl_readC rfl rfl (.slice (some ⟨b, off, none⟩) n c) (fun w' hw' => by have cc := hw'.1; have cd := hw'.2; have cl := lt_cell cc; unfold RM.valAt; go_simp) ?_
      refine RF.wpFl_readC rfl rfl (.int .i64 (m : Int)) (fun w' hw' => by have cc := hw'.1; have cd := hw'.2; have cl := lt_cell cc; unfold RM.valAt; go_simp) ?_
      refine RF.wpFl_readC rfl rfl (.int .i64 (j : Int)) (fun w' hw' => by have cc := hw'.1; have cd := hw'.2; have cl := lt_cell cc; unfold RM.valAt; go_simp) ?_
      refine RF.wpFl_readC rfl rfl (.pointer (some ⟨b, off + j, none⟩)) (fun w' hw' => by have cc := hw'.1; have cd := hw'.2; have cl := lt_cell cc; unfold RM.valAt; go_simp) ?_
      refine RF.wpFl_readC rfl rfl (.int .i64 Y) (fun w' hw' => by have cc := hw'.1; have cd := hw'.2; have cl := lt_cell cc; unfold RM.valAt; go_simp) ?_
      refine RF.wpFl_readC rfl rfl (.int .i64 (X - Y)) (fun w' hw' => by have cc := hw'.1; have cd := hw'.2; have cl := lt_cell cc; unfold RM.valAt; go_simp) ?_
      refine RF.wpFl_doC rfl rfl (fun K hK => ?_)
      go_wp2_with fail
      have hb4 : Below wr.heap.size wr (wr.alloc (.cells #[.int .i64 (X - Y)] 3)).drew := ((Below.refl _ _).alloc (Nat.le_refl _) _).drew
      have cx4 := keepC (a := ⟨b, off + m, none⟩) hb4 lbr cx
      have cy4 := keepC (a := ⟨b, off + j, none⟩) hb4 lbr cy
      have hO4 : ((wr.alloc (.cells #[.int .i64 (X - Y)] 3)).drew).ownsRow w.heap.size 3 1 (.slice oa j oc) j (ints (dfa l j)) := own_step hO.out (fun k hk => hb4.block k (hL2.out k hk))
      have cz : (wr.alloc (.cells #[.int .i64 (X - Y)] 3)).drew.cell? ⟨wr.heap.size, 0, none⟩ = some (.int .i64 (X - Y)) := (World.cell?_alloc_at _ _ _ _ rfl).trans rfl
      have hz4 : wr.heap.size < (wr.alloc (.cells #[.int .i64 (X - Y)] 3)).drew.heap.size := by simp
      generalize (wr.alloc (.cells #[.int .i64 (X - Y)] 3)).drew = w4 at *
      refine hK _ _ ⟨cx4, cy4⟩ ?_
      clear hK K
      refine RF.wpFl_doC rfl rfl (fun K hK => ?_)
      refine wpList_append_1 23 3 (.int .i64 0) 8 Try.underlying23 infoI rfl rfl (.tmp 11) (.tmp 22) rfl w.heap.size _ _ _ rfl hO4 wr.heap.size (.int .i64 (X - Y)) rfl cz rfl (by omega) (by omega) (by have := hB.out.size; omega) ?_
      intro v' w5 k1 k2
      have hne : some b ≠ (Value.slice oa j oc).ownBlock := fun q => by have := own_block hO4 b q.symm; have := HBr.out; omega
      have cx5 := k2.cell (by omega) hne cx4
      have cy5 := k2.cell (by omega) hne cy4
      have HB5 : Hid (Below w.heap.size w w5) := (hB.out.trans (hb4.mono hB.out.size)).trans (k2.bel (by have := hB.out.size; omega) (fun q hq => own_block hO4 q hq))
      have HO5 : Hid (w5.ownsRow w.heap.size 3 1 v' (j + 1) (ints (dfa l (j + 1)))) := by
        show World.ownsRow _ _ _ _ _ _ _
        rw [hstep.out]
        unfold ints at *
        simpa using k1
      refine hK _ _ ⟨cx5, cy5⟩ ?_
      clear hK K k1 k2 hO4 hb4 cx4 cy4 cz hz4
      refine RF.wpFl_readC rfl rfl v' (fun w' hw' => by unfold RM.valAt; go_simp) ?_
      refine RF.wpFl_nil ?_
      clear hO hB hL2 cx5 cx cy5 cy HI HR HN hstep
      go_wp2_with fail
      go_roundw
      case rel => exact ⟨j + 1, by have := HM.out; omega, by rw [HM.out]; go_num, HO5, HB5⟩
      case measure => simp [intOf]; omega
    · have hlt' : ¬ ((j + 1 : Nat) : Int) < (n : Int) := by omega
      have e : j = n - 1 := by omega
      have e2 : dfa l j = df l := by unfold df; rw [HN.out, e]
      rw [e2, e] at hO
      have HO : Hid (wr.ownsRow w.heap.size 3 1 u3 (n - 1) (ints (df l))) := hO
      clear e e2 hO
      go_wp2_with fail
      go_ret
      exact ⟨_, rfl, HO.out, hB.out⟩
end Go.Proofs.Ytdlcnbfiklbiiaa.Co
