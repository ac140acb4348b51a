/- The document's Turn and Wrong. -/
import Derived.Test.YtggbbekgmjkplaaRg5
namespace Go.Proofs.Ytggbbekgmjkplaa.Rg
open Go.RowKit Go.Maps Go.Sort
set_option linter.unusedVariables false
set_option linter.unusedSimpArgs false

theorem IL.own2 {w : World} {base : Nat} {v : Value} {n : Nat} {l : List Int} (h : w.ownsRow base 3 1 v n (ints l)) (hl : l.length = n) : ∃ ao c, v = .slice ao n c ∧ n ≤ c ∧ c ≤ 9223372036854775807 ∧ (ao = none → c = 0) ∧ IL w (fun b => base ≤ b) ao l := by
  obtain ⟨ao, c, h1, h2, h3, h4, h5⟩ := IL.own h hl
  exact ⟨ao, c, h1, h2, h3, h4, h5.keep (fun _ _ _ => rfl) (Nat.le_refl _) (fun b hb _ => own_block h b hb.symm)⟩
/-- What the document's Turn leaves. -/
structure TnQ (w : World) (B n : Nat) (q : List Int) (x : Int) (e : Ending) (w' : World) : Prop where
  b : Below w.heap.size w w'
  o : ∃ oa oc, e = .returned (.tuple #[.slice oa (nq n q x).length oc, .int .i64 (tu n q x).k, .bool (tu n q x).ok]) ∧ (nq n q x).length ≤ oc ∧ oc ≤ 9223372036854775807 ∧ (oa = none → oc = 0) ∧ IL w' (fun k => B ≤ k) oa (nq n q x)
set_option maxRecDepth 20000 in
set_option maxHeartbeats 8000000 in
theorem Turn_any (B n : Nat) (q : List Int) (ao : Option Addr) (m cp : Nat) (x : Int) (w : World) (hL : IL w (fun k => B ≤ k) ao q) (hm : q.length = m) (hc : m ≤ cp) (hcm : cp ≤ 9223372036854775807) (hn : ao = none → cp = 0) (hl : m ≤ n) (hn2 : n ≤ 65536) (hB : B ≤ w.heap.size) :
    Calls Try.prog 8 #[.int .i64 (n : Int), .slice ao m cp, .int .i64 x] w fun e w' => TnQ w B n q x e w' := by
  have HL : Hid (IL w (fun k => B ≤ k) ao q) := hL
  have HN : Hid (ao = none → cp = 0) := hn
  clear hL hn
  by_cases hx : 0 ≤ x
  · have hd : decide (0 ≤ x) = true := by simp [hx]
    by_cases hf : m = n
    · have hd2 : ((m : Int) == (n : Int)) = true := by simp [hf]
      have hq : nq n q x = q := by unfold nq; rw [if_pos hx, if_neg (by omega)]
      have HQ : Hid (TnQ w B n q x (.returned (.tuple #[.slice ao m cp, .int .i64 0, .bool false])) w) := by
        refine ⟨Below.refl _ _, ao, cp, ?_, by rw [hq, hm]; exact hc, hcm, HN.out, by rw [hq]; exact HL.out⟩
        rw [hq, hm]
        unfold tu
        simp [hx]
        omega
      clear HL HN hf hq
      go_enter Try.func8, Try.ntmps8
      go_wp2_with fail
      go_returns
      exact HQ.out
    · have hd2 : ((m : Int) == (n : Int)) = false := by simp; omega
      have hq : nq n q x = q ++ [x] := by unfold nq; rw [if_pos hx, if_pos (by omega)]
      have HT : Hid (tu n q x = ⟨0, true, (nq n q x).length⟩) := by show _ = _; unfold tu; rw [if_pos hx, if_pos hx]; congr 1; simp; omega
      have hnl : ¬ ((m : Int) = (n : Int)) := by omega
      have hown : (w.alloc (.cells #[] 3)).ownsRow w.heap.size 3 1 (.slice (some ⟨w.heap.size, 0, none⟩) 0 0) 0 [] := World.ownsRow_made w #[] 0 (Nat.le_refl _) (by unfold maxLen; omega) rfl
      have hil : IL (w.alloc (.cells #[] 3)) (fun k => B ≤ k) ao q := HL.out.bel ((Below.refl _ _).alloc (Nat.le_refl _) _)
      have HQ : Hid (∀ oa oc w', Below w.heap.size w w' → m + 1 ≤ oc → oc ≤ 9223372036854775807 → (oa = none → oc = 0) → IL w' (fun k => w.heap.size ≤ k) oa (q ++ [x]) → TnQ w B n q x (.returned (.tuple #[.slice oa (m + 1) oc, .int .i64 0, .bool true])) w') := fun oa oc w' h1 h2 h3 h4 h5 => by
        have e : (q ++ [x]).length = m + 1 := by simp [hm]
        refine ⟨h1, oa, oc, ?_, ?_, h3, h4, ?_⟩
        · rw [HT.out, hq, e]
        · rw [hq, e]; exact h2
        · rw [hq]; exact h5.keep (fun _ _ _ => rfl) (Nat.le_refl _) (fun b hb _ => by omega)
      have HIL : Hid (IL (w.alloc (.cells #[] 3)) (fun k => B ≤ k) ao q) := hil
      have HO : Hid ((w.alloc (.cells #[] 3)).ownsRow w.heap.size 3 1 (.slice (some ⟨w.heap.size, 0, none⟩) 0 0) 0 []) := hown
      clear hil hown hq HT HL
      go_enter Try.func8, Try.ntmps8
      go_wp2_with (at_builtin; refine wpList_append_il rfl (.tmp 16) (.tmp 17) rfl w.heap.size _ 0 [] rfl HO.out (fun k => B ≤ k) q m hm ao cp rfl hc HN.out HIL.out (by omega) (by simp) ?_)
      intro v1 w1 o1 g1
      have hb1 : Below w.heap.size w w1 := ((Below.refl w.heap.size w).alloc (Nat.le_refl _) _).trans (g1.bel (by simp) (fun j hj => own_block HO.out j hj))
      have HO1 : Hid (w1.ownsRow w.heap.size 3 1 v1 m (ints q)) := o1
      have hz1 := hb1.size
      have HB1 : Hid (Below w.heap.size w w1) := hb1
      clear o1 g1 hb1 HO HIL HN
      have hA : Below w1.heap.size w1 (w1.alloc (.cells #[.int .i64 x] 3)) := (Below.refl _ _).alloc (Nat.le_refl _) _
      have HO2 : Hid ((w1.alloc (.cells #[.int .i64 x] 3)).ownsRow w.heap.size 3 1 v1 m (ints q)) := own_step HO1.out (fun k e => hA.block k (own_lt HO1.out k e))
      have HA : Hid (Below w.heap.size w (w1.alloc (.cells #[.int .i64 x] 3))) := HB1.out.trans (hA.mono hz1)
      have X0 : Hid ((w1.alloc (.cells #[.int .i64 x] 3)).cell? ⟨w1.heap.size, 0, none⟩ = some (.int .i64 x)) := (World.cell?_alloc_at _ _ _ _ rfl).trans rfl
      clear hA
      go_wp2_with (at_builtin; refine wpList_append_1 22 3 (.int .i64 0) 8 Try.underlying22 infoI rfl rfl (.tmp 18) (.tmp 20) rfl w.heap.size _ m (ints q) rfl HO2.out w1.heap.size (.int .i64 x) rfl X0.out rfl (by omega) (by omega) (by simp; omega) ?_)
      intro v2 w2 o2 g2
      have hb2 : Below w.heap.size w w2 := HA.out.trans (g2.bel (by simp; omega) (fun j hj => own_block HO2.out j hj))
      have o3 : w2.ownsRow w.heap.size 3 1 v2 (m + 1) (ints (q ++ [x])) := by
        unfold ints at o2 ⊢
        rw [List.map_append]
        exact o2
      obtain ⟨oa, oc, rfl, k1, k2, k3, k4⟩ := IL.own2 o3 (by simp [hm])
      have HF := HQ.out oa oc w2 hb2 k1 k2 k3 k4
      have HF : Hid (TnQ w B n q x (.returned (.tuple #[.slice oa (m + 1) oc, .int .i64 0, .bool true])) w2) := HF
      clear o2 o3 g2 hb2 k4 HO2 HO1 HA HB1 X0
      go_wp2_with fail
      go_returns
      exact HF.out
  · have hd : decide (0 ≤ x) = false := by simp; omega
    have hq : nq n q x = q.tail := by unfold nq; rw [if_neg hx]
    by_cases hf : m = 0
    · have hqe : q = [] := List.eq_nil_of_length_eq_zero (by omega)
      subst hf
      have HQ : Hid (TnQ w B n q x (.returned (.tuple #[.slice ao 0 cp, .int .i64 0, .bool false])) w) := by
        refine ⟨Below.refl _ _, ao, cp, ?_, by rw [hq, hqe]; exact Nat.zero_le _, hcm, HN.out, by rw [hq, hqe]; exact IL.nil _ _ _⟩
        rw [hq, hqe]
        unfold tu
        simp [hx]
      clear HL HN hq hqe
      go_enter Try.func8, Try.ntmps8
      go_wp2_with fail
      go_returns
      exact HQ.out
    · have hd2 : ((m : Int) == 0) = false := by simp; omega
      have hnm : ¬ (m : Int) = 0 := by omega
      have hm0 : 0 < m := by omega
      have hm1 : (0 : Int) < (m : Int) := by omega
      have hm2 : 1 ≤ m := hm0
      obtain ⟨y, p, rfl⟩ : ∃ y p, q = y :: p := by
        cases q with
        | nil => simp at hm; omega
        | cons y p => exact ⟨y, p, rfl⟩
      obtain ⟨nb, of, rfl, h2, h3, h4⟩ := HL.out.at' (by omega)
      have c0 := h4 0 y rfl
      rw [Nat.add_zero] at c0
      have hrf := run_from (some ⟨nb, of, none⟩) m cp 1 (by omega)
      have hdr := HL.out.drop 1 cp (by omega)
      have HQ : Hid (∀ j, TnQ w B n (y :: p) x (.returned (.tuple #[.slice (frm (some ⟨nb, of, none⟩) 1 cp) (m - 1) (cp - 1), .int .i64 y, .bool true])) (w.drewN j)) := fun j => by
        have e : p.length = m - 1 := by simp at hm; omega
        have hbd : Below w.heap.size w (w.drewN j) := ⟨rfl, rfl, rfl, Nat.le_refl _, fun _ _ => rfl⟩
        refine TnQ.mk hbd ⟨frm (some ⟨nb, of, none⟩) 1 cp, cp - 1, ?_, ?_, by omega, (fun h => frm_none HN.out h), ?_⟩
        · rw [hq]
          unfold tu
          simp [hx, e]
        · rw [hq]; show p.length ≤ _; omega
        · rw [hq]; exact hdr.bel hbd
      generalize frm (some ⟨nb, of, none⟩) 1 cp = FA at *
      have hrf' : ∀ W : World, (Instr.slice 22 (.slice (some ⟨nb, of, none⟩) m cp) (some (.int .i64 1)) none none).run Try.prog W = .ok (.slice FA (m - 1) (cp - 1)) W := hrf
      clear HL HN hq hdr hrf hm
      go_enter Try.func8, Try.ntmps8
      go_wp2_with fail
      go_quiet (simp only [hrf'])
      go_wp2_with fail
      go_returns
      exact HQ.out _
set_option maxHeartbeats 2000000 in
theorem Wrong_any (n : Int) (w : World) :
    Calls Try.prog 7 #[.int .i64 n] w fun e w' => e = .returned (.int .i64 (if n < 1 ∨ 65536 < n then 3 else 0)) ∧ w' = w := by
  by_cases h1 : n < 1
  · have hd : decide (n < 1) = true := by simp [h1]
    rw [if_pos (.inl h1)]
    go_enter Try.func7, Try.ntmps7
    go_wp2_with fail
    go_ret
    exact ⟨rfl, rfl⟩
  · have hd : decide (n < 1) = false := by simp; omega
    by_cases h2 : 65536 < n
    · have hd2 : decide (65536 < n) = true := by simp [h2]
      rw [if_pos (.inr h2)]
      go_enter Try.func7, Try.ntmps7
      go_wp2_with fail
      go_ret
      exact ⟨rfl, rfl⟩
    · have hd2 : decide (65536 < n) = false := by simp; omega
      rw [if_neg (by omega)]
      go_enter Try.func7, Try.ntmps7
      go_wp2_with fail
      go_ret
      exact ⟨rfl, rfl⟩
end Go.Proofs.Ytggbbekgmjkplaa.Rg
