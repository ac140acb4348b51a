/- What the program's Break comes to. -/
import Derived.Test.YtiffppnaaenalagV8
import Derived.Test.YtiffppnaaenalagVRow
namespace Go.Proofs.Ytiffppnaaenalag.V
open Go.RowKit Go.Sort Go.Maps
set_option linter.unusedVariables false
set_option linter.unusedSimpArgs false

theorem is_head {b : M.Bx} {n a : Nat} {v : M.Wy} {r : List Nat} (ha : a < n) (h : M.Is b n a v) (hr : M.Bst b n n a r) : ∃ e t, r = e :: t ∧ v.fin = (e : Int) ∧ a < e ∧ e ≤ n ∧ M.Bst b n n e t := by
  cases r with
  | nil => have := hr.1; simp only [M.wy] at this; omega
  | cons e t =>
    refine ⟨e, t, rfl, ?_, hr.1.1, hr.1.2.1, hr.tail⟩
    rcases h with ⟨_, l, hl, _, _, h4⟩ | ⟨_, h2⟩
    · rw [← hr.one hl] at h4; simpa using h4
    · exact absurd hr.1 (h2 _)

set_option maxRecDepth 20000 in
set_option maxHeartbeats 8000000 in
theorem Break_any (b : M.Bx) (ao : Option Addr) (n c : Nat) (w : World) (hp : BL w ao n b) (hc : n ≤ c) (hcm : c ≤ 9223372036854775807) :
    Calls Try.prog 8 #[.slice ao n c, .int .i64 b.wide] w fun e w' => (∃ bo m d x C E, e = .returned (.tuple #[.slice bo m d, .int .i64 C, .int .i64 E]) ∧ m ≤ d ∧ d ≤ 9223372036854775807 ∧ LI w' bo m x ∧ M.BrR b n x m C E) ∧ Below w.heap.size w w' := by
  have HW := fun w hp => Wrong_any b ao n c w hp hc hcm
  by_cases hw : M.wr b n = 0
  rotate_left
  · have hw' : (M.wr b n != 0) = true := by simp [hw]
    have HR : Hid (M.BrR b n (fun _ => 0) 0 0 (M.wr b n)) := Or.inl ⟨hw, rfl, rfl, rfl⟩
    clear hw
    generalize M.wr b n = X at *
    go_enter Try.func8, Try.ntmps8
    go_wp2_with fail
    refine (HW _ hp).mono ?_
    rintro e w1 ⟨rfl, hb1⟩
    go_wp2_with fail
    go_returns
    exact ⟨⟨none, 0, 0, _, _, _, rfl, by omega, by omega, ⟨fun h => by omega⟩, HR.out⟩, hb1⟩
  obtain ⟨hn, w1b, w2b, hr⟩ := M.wr_zero hw
  have HB := fun w hp => bestWays_any b ao n c w hp hc hcm hr hn w1b w2b
  have HNo : Hid ((∀ l, ¬ M.wy b n n 0 l) → M.BrR b n (fun _ => 0) 0 0 6) := fun h => Or.inr (Or.inl ⟨hw, rfl, rfl, rfl, h⟩)
  have HYes : Hid (∀ (x : Nat → Int) (m : Nat), (∀ j, j < m → 0 ≤ x j ∧ x j ≤ n) → M.Bst b n n 0 (M.ls x 0 m) → M.BrR b n x m (M.co b n 0 (M.ls x 0 m)) 0) := fun x m h1 h2 => Or.inr (Or.inr ⟨hw, rfl, h1, rfl, h2⟩)
  rw [hw] at HW
  clear hw
  obtain ⟨i0, hi0, hz0, hz1, hz2⟩ := info_parts info3
  go_enter Try.func8, Try.ntmps8
  go_wp2_with fail
  refine (HW _ hp).mono ?_
  rintro e w1 ⟨rfl, hb1⟩
  clear HW
  go_wp2_with fail
  refine (HB _ (hp.step hb1)).mono ?_
  rintro e w2 ⟨⟨wb, V, rfl, hwb, hT, hIs⟩, hb2⟩
  have k2 : Below w.heap.size w w2 := hb1.trans (hb2.mono hb1.size)
  have z2 := k2.size
  have hIs' : Hid (∀ j, j ≤ n → M.Is b n j (V j)) := hIs
  clear HB hb1 hb2 hwb hIs
  have cc := hT.at (j := 0) (by omega)
  have c0 := cc.c0
  have c1 := cc.c1
  simp only [Nat.zero_mul, Nat.zero_add] at c0 c1
  have hlt := World.rowIs.lt hT
  have hI0 := hIs'.out 0 (by omega)
  clear cc
  cases hx : (V 0).ex
  · have hV : Hid (M.BrR b n (fun _ => 0) 0 0 6) := HNo.out (by
      rcases hI0 with ⟨h1, _⟩ | ⟨_, h2⟩
      · rw [hx] at h1; exact absurd h1 (by decide)
      · exact h2)
    rw [hx] at c0
    clear HNo HYes hI0 hx hIs'
    go_wp2_with fail
    go_returns
    exact ⟨⟨none, 0, 0, _, _, _, rfl, by omega, by omega, ⟨fun h => by omega⟩, hV.out⟩, k2⟩
  obtain ⟨l0, hl0, hco⟩ : ∃ l0, M.Bst b n n 0 l0 ∧ Hid ((V 0).cost = M.co b n 0 l0) := by
    rcases hI0 with ⟨_, l, h1, h2, _⟩ | ⟨h1, _⟩
    · exact ⟨l, h1, h2⟩
    · rw [hx] at h1; exact absurd h1 (by decide)
  rw [hx] at c0
  have hl0' : Hid (M.Bst b n n 0 l0) := hl0
  clear HNo hI0 hx hl0
  go_wp2_with fail
  go_loopw [4, 9] (fun v s wr => ∃ (i m : Nat) (x : Nat → Int), i ≤ n ∧ m ≤ i ∧ s = .int .i64 (i : Int) ∧ Below w2.heap.size w2 wr ∧ wr.ownsRow w2.heap.size 3 1 v m (rows (ic x) m) ∧ Hid (∀ j, j < m → 0 ≤ x j ∧ x j ≤ n) ∧ Hid (∃ r, M.ls x 0 m ++ r = l0 ∧ M.Bst b n n i r)) (fun _ s _ => n - (intOf s).toNat)
  case atStart => exact ⟨0, 0, fun _ => 0, by omega, by omega, rfl, Below.refl _ _, World.ownsRow_nil _ _ _ _, fun j hj => by omega, ⟨l0, rfl, hl0'.out⟩⟩
  case round =>
    obtain ⟨i, m, x, hin, hmi, rfl, hbr, hown, hxb, hR⟩ := hrel
    have zr := hbr.size
    have hT3 := hT.keep hbr
    have hltr := World.rowIs.lt hT3
    have cr := keepC hbr hlt c1
    by_cases hi : i < n
    rotate_left
    · obtain rfl : i = n := by omega
      have hfin : Hid (M.BrR b i x m (V 0).cost 0) := by
        show M.BrR _ _ _ _ _ _
        obtain ⟨r, h1, h2⟩ := hR.out
        have h3 := M.wy_end h2.1
        rw [h3, List.append_nil] at h1
        rw [hco.out, ← h1]
        exact HYes.out x m hxb.out (by rw [h1]; exact hl0'.out)
      obtain ⟨bo, d, hv, hd1, hd2, hli⟩ := own_LI hown
      subst hv
      clear HYes hxb hR hl0' hco hIs' hown c0
      generalize (V 0).cost = VC at *
      go_wp2_with fail
      go_quiet (fail)
      go_wp2_with fail
      go_returns
      exact ⟨⟨_, _, _, _, _, _, rfl, hd1, hd2, hli.step (below_drewN (Below.refl _ _) _), hfin.out⟩, below_drewN (k2.trans (hbr.mono z2)) _⟩
    obtain ⟨r, hr1, hr2⟩ := hR.out
    obtain ⟨e, t, he, hfin, ha1, ha2, ht⟩ := is_head hi (hIs'.out i (by omega)) hr2
    have c3 := (hT3.at (j := i) (by omega)).c3
    rw [hfin] at c3
    have hR2 : Hid (∃ r, M.ls (ex x m (e : Int)) 0 (m + 1) ++ r = l0 ∧ M.Bst b n n e r) := ⟨t, by
      rw [M.ls_snoc, Nat.zero_add, ex_same, Int.toNat_natCast, M.ls_ext (y := x) (fun j _ hj => ex_less (by omega)), List.append_assoc, ← hr1, he]; rfl, ht⟩
    have hxb2 : Hid (∀ j, j < m + 1 → 0 ≤ ex x m (e : Int) j ∧ ex x m (e : Int) j ≤ n) := fun j hj => by
      rcases Nat.lt_succ_iff_lt_or_eq.1 hj with h | rfl
      · rw [ex_less h]; exact hxb.out j h
      · rw [ex_same]; omega
    have E3 : Hid (rows (ic x) m ++ [.int .i64 (e : Int)] = rows (ic (ex x m (e : Int))) (m + 1)) := by
      show _ = rows (ic (ex x m (e : Int))) m ++ ic (ex x m (e : Int)) m
      rw [rows_ext (x := ex x m (e : Int)) (y := x) (fun j hj => ex_less hj)]; unfold ic; rw [ex_same]
    have hil : (i : Int) < (n : Int) + 1 := by omega
    have hil2 : i < n + 1 := by omega
    have HFI : Hid ((V i).fin = (e : Int)) := hfin
    clear hR hr1 hr2 he hfin ht hxb
    go_wp2_with (at_builtin; refine wpList_append_own_at _ rfl (.tmp 33) (.tmp 39) 23 rfl w2.heap.size 3 i0 (.int .i64 0) 1 8 Try.underlying23 hi0 hz0 hz1 hz2 rfl (by decide) _ m (rows (ic x) m) rfl (hown.alloc _) ⟨wr.heap.size, 0, none⟩ 1 1 [.int .i64 (e : Int)] rfl rfl ?c1 ?c2 ?c3 ?c4 ?c5 ?_)
    case c1 =>
      intro j u hj
      match j, hj with
      | 0, hj => simp at hj; subst hj; simp [Addr.add, go_sem]
    case c2 => intro u hu; simp at hu; subst hu; rfl
    case c3 => unfold maxLen; omega
    case c4 => omega
    case c5 => simp; omega
    intro v5 w5 hown5 hgrow _ hloc
    rw [E3.out] at hown5
    have hlo := hown.lt
    have hb25 : Below w2.heap.size w2 w5 := (hbr.alloc hbr.size _).grown hgrow (by simp; omega) (fun k hk => (hlo k hk).1)
    have hT5 := hT.keep hb25
    have c5 := (hT5.at (j := i) (by omega)).c3
    rw [HFI.out] at c5
    have hlt5 := World.rowIs.lt hT5
    clear hgrow hloc hlo c3 cr hltr hT3 hT5 hown
    go_wp2_with fail
    go_roundw
    case rel => exact ⟨e, m + 1, _, by omega, by omega, rfl, hb25, hown5, hxb2, hR2⟩
    case measure => simp [intOf]; omega
end Go.Proofs.Ytiffppnaaenalag.V
