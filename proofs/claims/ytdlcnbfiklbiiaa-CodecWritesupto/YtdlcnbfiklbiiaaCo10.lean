/- The document's Misses and Long. -/
import Derived.Test.YtdlcnbfiklbiiaaCo9
namespace Go.Proofs.Ytdlcnbfiklbiiaa.Co
open Go.RowKit Go.Maps Go.Sort
set_option linter.unusedVariables false
set_option linter.unusedSimpArgs false

theorem own_base {w : World} {base base' : Nat} {e : TypeId} {size : Nat} {v : Value} {n : Nat} {xs : List Value} (h : w.ownsRow base e size v n xs) (hb : base' ≤ base) : w.ownsRow base' e size v n xs := by
  refine ⟨h.1, ?_⟩
  rcases h.2 with hn | ⟨g, cap, cur, h0, h1, rest⟩
  · exact .inl hn
  · exact .inr ⟨g, cap, cur, h0, Nat.le_trans hb h1, rest⟩
set_option maxRecDepth 8000 in
set_option maxHeartbeats 8000000 in
theorem misses_any (f : List Int) (S : Nat → Prop) (xa : Option Addr) (n c o : Nat) (w : World) (hI : IL w S xa f) (hS : ∀ b, S b → b < w.heap.size) (hn : f.length = n) (hc : n ≤ c) (hc2 : c ≤ 9223372036854775807) (hr : ∀ x ∈ f, inR x) (ho : o ≤ 3) (hn2 : n ≤ 1099511627776) :
    Calls Try.prog 58 #[.slice xa n c, .int .i64 (o : Int)] w fun e w' => ∃ v, e = .returned v ∧ w'.ownsRow w.heap.size 3 1 v (n - o) (ints (nts (fal f o))) ∧ Below w.heap.size w w' := by
  have hbd : bd 32768 f := fun x hx => by have := hr x hx; unfold inR at this; omega
  have HBD : Hid (∀ k, k ≤ 3 → bd 262144 (dfs f k)) := fun k hk => by have := bd_dfs hbd (by omega) k hk; exact this
  have HN : Hid (f.length = n) := hn
  have hI0 : IL w (fun b => b < w.heap.size) xa f := hI.keep (fun _ _ _ => rfl) (Nat.le_refl _) (fun b hb _ => hS b hb)
  have HI0 : Hid (IL w (fun b => b < w.heap.size) xa f) := hI0
  clear hI hI0 hr hn hbd hS
  go_enter Try.func58, Try.ntmps58
  go_wp2_with fail
  go_loopw [5, 0] (fun i v wr => ∃ (k : Nat) (la : Option Addr) (lc : Nat), k ≤ o ∧ i = .int .i64 (k : Int) ∧ v = .slice la (n - k) lc ∧ n - k ≤ lc ∧ lc ≤ 9223372036854775807 ∧ Hid (IL wr (fun b => b < wr.heap.size) la (dfs f k)) ∧ Hid (Below w.heap.size w wr)) (fun i _ _ => o - (intOf i).toNat)
  case atStart => exact ⟨0, xa, c, by omega, rfl, rfl, by omega, hc2, HI0, Below.refl _ _⟩
  case round =>
    obtain ⟨k, la, lc, hk, rfl, rfl, hl1, hl2, hIk, hB⟩ := hrel
    have hlen : (dfs f k).length = n - k := by rw [dfs_len, HN.out]
    by_cases hlt : k < o
    · have hlt' : (k : Int) < (o : Int) := by omega
      have hq := differences_any (dfs f k) (fun b => b < wr.heap.size) la (n - k) lc wr hIk.out (fun b hb => hb) hlen hl1 hl2 (fun x hx => by have := HBD.out k (by omega) x hx; omega) (by omega)
      have w2 : IntKind.i64.wrap ((k : Int) + 1) = (k : Int) + 1 := wid (by omega) (by omega)
      clear hIk
      go_wp2_with fail
      refine hq.mono ?_
      rintro e w5 ⟨v, rfl, hv, hb5⟩
      rw [show n - k - 1 = n - (k + 1) by omega] at hv
      obtain ⟨va, vc, rfl, v1, v2, v3, v4⟩ := IL.own hv (by rw [df_len, hlen]; omega)
      have HI5 : Hid (IL w5 (fun b => b < w5.heap.size) va (dfs f (k + 1))) := v4.keep (fun _ _ _ => rfl) (Nat.le_refl _) (fun b _ hl => hl)
      have HB5 : Hid (Below w.heap.size w w5) := hB.out.trans (hb5.mono hB.out.size)
      clear hq hv v4 hb5 hB hlen v3
      go_wp2_with fail
      go_roundw
      case rel => exact ⟨k + 1, va, vc, by omega, by go_num, rfl, v1, v2, HI5, HB5⟩
      case measure => simp [intOf]; omega
    · obtain rfl : k = o := by omega
      have hlt' : ¬ (k : Int) < (k : Int) := by omega
      obtain ⟨L, hL⟩ : ∃ L, L = dfs f k := ⟨_, rfl⟩
      have HLb : Hid (bd 262144 L) := by rw [hL]; exact HBD.out k ho
      have HLf : Hid (L.map fo = fal f k) := by rw [hL]; exact dfs_fal f k ho
      rw [← hL] at hIk hlen
      have HL : Hid (L.length = n - k) := hlen
      obtain ⟨m, hm⟩ : ∃ m, m = n - k := ⟨_, rfl⟩
      rw [← hm] at hl1 HL ⊢
      have Hm : Hid (m = n - k) := hm
      have hmb : m ≤ 1099511627776 := by omega
      obtain ⟨w0, hw0⟩ : ∃ x, x = wr := ⟨wr, rfl⟩
      subst hw0
      have HI1 : Hid (IL w0 (fun b => b < w0.heap.size) la L) := hIk
      have HB1 : Hid (Below w.heap.size w w0) := hB
      clear hL hlen hm hIk hB HBD
      go_wp2_with fail
      go_loopw [18, 6] (fun i v wr => ∃ j : Nat, j ≤ m ∧ i = .int .i64 (j : Int) ∧ Hid (wr.ownsRow w0.heap.size 3 1 v j (ints (nts ((L.take j).map fo)))) ∧ Hid (Below w0.heap.size w0 wr)) (fun i _ _ => m - (intOf i).toNat)
      case atStart => exact ⟨0, by omega, rfl, World.ownsRow_nil _ _ _ _, Below.refl _ _⟩
      case round =>
        obtain ⟨j, hj, rfl, hO, hB⟩ := hrel
        by_cases hlt : j < m
        · have hlt' : (j : Int) < (m : Int) := by omega
          obtain ⟨x, hx⟩ : ∃ x, L[j]? = some x := ⟨_, List.getElem?_eq_getElem (by rw [HL.out]; exact hlt)⟩
          have hxb := HLb.out x (List.mem_of_getElem? hx)
          have hI2 := HI1.out.bel hB.out
          obtain ⟨b, off, rfl, lb, hbS, cc⟩ := hI2.at' (by rw [HL.out]; omega)
          have cx := cc j x hx
          have hst : Hid (nts ((L.take (j + 1)).map fo) = nts ((L.take j).map fo) ++ [((fo x : Nat) : Int)]) := by
            show _ = _
            unfold nts
            rw [List.take_add_one, hx, List.map_append, List.map_append]; rfl
          have hq := refFold_any x wr (by omega) (by omega)
          have w2 : IntKind.i64.wrap ((j : Int) + 1) = (j : Int) + 1 := wid (by omega) (by omega)
          obtain ⟨oa, oc, rfl, o1, o2⟩ := own_form hO.out
          clear cc hx hI2
          generalize fo x = FX at *
          have hb1 : Below wr.heap.size wr (wr.alloc (.cells #[.int .i64 (FX : Int)] 3)) := (Below.refl _ _).alloc (Nat.le_refl _) _
          have hO1 := own_step (w' := wr.alloc (.cells #[.int .i64 (FX : Int)] 3)) hO.out (fun k hk => hb1.block k (own_lt hO.out k hk))
          go_wp2_with fail
          refine hq.mono ?_
          rintro e w5 ⟨rfl, hw5⟩
          subst hw5
          go_wp2_with (at_builtin; refine wpList_append_1 23 3 (.int .i64 0) 8 Try.underlying23 infoI rfl rfl (.tmp 22) (.tmp 25) rfl w0.heap.size _ _ _ rfl hO1 w5.heap.size (.int .i64 (FX : Int)) rfl (by simp [go_sem]) rfl (by omega) (by omega) (by have := hB.out.size; simp; omega) ?_; intro v' w6 k1 k2; have HO6 : Hid (w6.ownsRow w0.heap.size 3 1 v' (j + 1) (ints (nts ((L.take (j + 1)).map fo)))) := (by show World.ownsRow _ _ _ _ _ _ _; rw [hst.out]; unfold ints at *; simpa using k1); have HB6 : Hid (Below w0.heap.size w0 w6) := (hB.out.trans (hb1.mono hB.out.size)).trans (k2.bel (by have := hB.out.size; simp; omega) (fun q hq => own_block hO1 q hq)); clear k1 k2 hO1 hb1 cx hO hB)
          go_roundw
          case rel => exact ⟨j + 1, by omega, by go_num, HO6, HB6⟩
          case measure => simp [intOf]; omega
        · obtain rfl : j = m := by omega
          have hlt' : ¬ (j : Int) < (j : Int) := by omega
          have e : (L.take j).map fo = fal f k := by rw [List.take_of_length_le (by rw [HL.out]; omega), HLf.out]
          rw [e] at hO
          have HO : Hid (∀ v, wr.ownsRow w0.heap.size 3 1 v j (ints (nts (fal f k))) → wr.ownsRow w.heap.size 3 1 v (n - k) (ints (nts (fal f k)))) := fun v h => by
            have h2 := own_base h HB1.out.size
            rw [Hm.out] at h2; exact h2
          have HBB : Hid (Below w.heap.size w wr) := HB1.out.trans (hB.out.mono HB1.out.size)
          clear e
          go_wp2_with fail
          go_ret
          exact ⟨_, rfl, HO.out _ hO.out, HBB.out⟩
end Go.Proofs.Ytdlcnbfiklbiiaa.Co
