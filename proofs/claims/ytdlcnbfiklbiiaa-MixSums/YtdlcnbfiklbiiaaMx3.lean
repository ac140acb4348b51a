/- What NewDither and Run come to. -/
import Derived.Test.YtdlcnbfiklbiiaaMx2
namespace Go.Proofs.Ytdlcnbfiklbiiaa.Mx
open Go.RowKit Go.Maps Go.Sort
set_option linter.unusedVariables false
set_option linter.unusedSimpArgs false

set_option maxHeartbeats 2000000 in
theorem New_any (z : Nat) (w : World) :
    Calls Try.prog 28 #[.int .u32 z] w fun e w' => e = .returned (.pointer (some ⟨w.heap.size, 0, none⟩)) ∧ Hid (DL w' w.heap.size (new z)) ∧ Below w.heap.size w w' := by
  go_enter Try.func28, Try.ntmps28
  go_wp2_with fail
  go_ret
  refine ⟨rfl, ?_, (Below.refl _ _).alloc (Nat.le_refl _) _⟩
  exact World.rowIs_alloc w #[.int .u32 z, .int .i64 0, .int .i64 0, .int .i64 0] 57 (dv (new z)) (fun i hi => by
    match i, hi with
    | 0, _ => rfl
    | 1, _ => rfl
    | 2, _ => rfl
    | 3, _ => rfl
    | i + 4, hi => exact absurd hi (by show ¬ (i + 4 < 4); omega))
theorem max_is {L Z : Int} (h0 : 0 ≤ L) : (if (if L < Z then Z else L) < -Z then -Z else (if L < Z then Z else L)) = mx L (ab Z) := by
  unfold mx ab
  by_cases h1 : Z < 0
  · simp only [if_pos h1]; simp only [show ¬ L < Z by omega, if_false]
  · simp only [if_neg h1]
    by_cases h2 : L < Z
    · simp only [if_pos h2]; rw [if_neg (by omega)]
    · simp only [if_neg h2]; rw [if_neg (by omega)]
/-- What Run leaves. -/
structure RnQ (w : World) (b : Nat) (s : Dt) (l : List Int) (e : Ending) (w' : World) : Prop where
  ex : ∃ ao c, e = .returned (.tuple #[.slice ao (prr s l).l.length c, .int .i64 (prr s l).e]) ∧ (prr s l).l.length ≤ c ∧ c ≤ 9223372036854775807 ∧ (ao = none → c = 0) ∧ IL w' (fun k => w.heap.size ≤ k) ao (prr s l).l
  v : DL w' b (pst s l)
  k : Kn w b w.heap.size w'
set_option maxHeartbeats 4000000 in
theorem Run_any (s : Dt) (hg : Gd s) (b : Nat) (S : Nat → Prop) (l : List Int) (ao : Option Addr) (cp : Nat) (w : World) (hD : DL w b s) (hL : IL w S ao l) (hS : ∀ k, S k → k ≠ b) (hc : l.length ≤ cp) (hcm : cp ≤ 9223372036854775807) (hl : l.length ≤ 17592186044416) (hcl : s.clip + l.length ≤ 2305843009213693952) :
    Calls Try.prog 29 #[.pointer (some ⟨b, 0, none⟩), .slice ao l.length cp] w fun e w' => RnQ w b s l e w' := by
  have hlt := hD.lt
  have hw1 := within_any mS (by decide) (by decide) l S ao cp w hL hc hcm
  cases hR : inR mS l
  · have HQ : Hid (RnQ w b s l (.returned (.tuple #[.slice none 0 0, .int .i64 3])) w) := by
      have e1 : prr s l = ⟨[], 3, s.loud, s.clip⟩ := by unfold prr; rw [if_neg (by rw [hR]; decide)]
      have e2 : pst s l = s := by unfold pst; rw [if_neg (by rw [hR]; decide)]
      exact ⟨⟨none, 0, by rw [e1]; rfl, by rw [e1]; exact Nat.le_refl _, by omega, fun _ => rfl, by rw [e1]; exact IL.nil _ _ _⟩, by rw [e2]; exact hD, Kn.refl _ _ _⟩
    rw [hR] at hw1
    clear hR hD hL hS hg hcl
    go_enter Try.func29, Try.ntmps29
    go_wp2_with fail
    refine hw1.mono ?_
    rintro e w1 ⟨rfl, hw⟩
    rw [hw]
    clear hw hw1
    go_wp2_with fail
    go_returns
    exact HQ.out
  · obtain ⟨n, hn⟩ : ∃ n, n = l.length := ⟨_, rfl⟩
    rw [hR] at hw1
    have mk : (Instr.makeSlice 23 (.int .i64 (n : Int)) (.int .i64 (n : Int))).run Try.prog w = .ok (.slice (some ⟨w.heap.size, 0, none⟩) n n) (w.alloc (.cells (madeCells #[.int .i64 0] n) 3)) := run_make_row' (P := Try.prog) 23 3 (.int .i64 0) 8 Try.underlying23 infoI rfl .i64 .i64 n (by omega) (by omega) w
    have HL : Hid (IL w S ao l) := hL
    have HS : Hid (∀ k, S k → k ≠ b) := hS
    have HGd : Hid (Gd s) := hg
    have HRl : Hid (inR mS l = true) := hR
    have hbA : Below w.heap.size w (w.alloc (.cells (madeCells #[.int .i64 0] n) 3)) := (Below.refl _ _).alloc (Nat.le_refl _) _
    have HF : Hid (FR (w.alloc (.cells (madeCells #[.int .i64 0] n) 3)) w.heap.size n (fun i => ([] : List Int).getD i 0)) := World.rowIs.congr (World.rowIs_made w (.int .i64 0) n 3) (fun i _ => rfl)
    have HV : Hid (DL (w.alloc (.cells (madeCells #[.int .i64 0] n) 3)) b s) := hD.bel hbA
    have hzA : (w.alloc (.cells (madeCells #[.int .i64 0] n) 3)).heap.size = w.heap.size + 1 := by simp
    have Hn : Hid (n = l.length) := hn
    have HCl : Hid (s.clip + l.length ≤ 2305843009213693952) := hcl
    have HQ : Hid (∀ w', DL w' b (sts s l) → FR w' w.heap.size n (fun i => (outs s l).getD i 0) → Kn w b w.heap.size w' → w.heap.size < w'.heap.size → RnQ w b s l (.returned (.tuple #[.slice (some ⟨w.heap.size, 0, none⟩) n n, .int .i64 0])) w') := fun w' h1 h2 h3 h4 => by
      have e1 : prr s l = ⟨outs s l, 0, (sts s l).loud, (sts s l).clip⟩ := by unfold prr; rw [if_pos hR]
      have e2 : pst s l = sts s l := by unfold pst; rw [if_pos hR]
      have e3 : (prr s l).l.length = n := by rw [e1, hn]; exact outs_len s l
      exact ⟨⟨some ⟨w.heap.size, 0, none⟩, n, by rw [e3, e1], by rw [e3]; exact Nat.le_refl _, by omega, (fun q => by cases q), by
        refine h2.il e3 (fun i hi => by rw [e1]) h4 _ (Nat.le_refl _)⟩, by rw [e2]; exact h1, h3⟩
    rw [← hn] at hc hl hw1 ⊢
    clear hn hR hD hL hS hg hcl
    go_enter Try.func29, Try.ntmps29
    go_wp2_with fail
    refine hw1.mono ?_
    rintro e w1 ⟨rfl, hw⟩
    rw [hw]
    clear hw hw1
    go_wp2_with (simp only [mk])
    generalize w.alloc (.cells (madeCells #[.int .i64 0] n) 3) = W0 at *
    clear mk
    go_loopw [18] (fun i ww => ∃ k : Nat, k ≤ n ∧ i = .int .i64 k ∧ Hid (DL ww b (sts s (l.take k))) ∧ Hid (FR ww w.heap.size n (fun i => (outs s (l.take k)).getD i 0)) ∧ Kn w b w.heap.size ww ∧ w.heap.size < ww.heap.size) (fun i _ => n - (intOf i).toNat)
    case atStart => exact ⟨0, by omega, rfl, HV, HF, Kn.bel hbA (Nat.le_refl _) hlt, by omega⟩
    case round =>
      obtain ⟨k, hk, rfl, hV, hG, hK, hz⟩ := hrel
      clear HV HF
      by_cases hlt2 : k < n
      · obtain ⟨x, hx⟩ : ∃ x, l[k]? = some x := ⟨_, List.getElem?_eq_getElem (by rw [← Hn.out]; exact hlt2)⟩
        obtain ⟨nb, of, rfl, hnb, hSb, q0⟩ := HL.out.at' (by rw [← Hn.out]; omega)
        have r0 := q0 k x hx
        have hne0 := HS.out nb hSb
        have r0' : wr.cell? ⟨nb, of + k, none⟩ = some (.int .i64 x) := (World.cell?_of_block (w := w) (w' := wr) (a := ⟨nb, of + k, none⟩) (hK.k nb hnb hne0)).trans r0
        have HO : Hid (outs s (l.take (k + 1)) = outs s (l.take k) ++ [cut (raw (sts s (l.take k)) x)]) := outs_step s hx
        have HT : Hid (sts s (l.take (k + 1)) = nxt (sts s (l.take k)) x) := sts_step s hx
        have hgk : Gd (sts s (l.take k)) := sts_gd HGd.out _
        have hck : (sts s (l.take k)).clip < 2305843009213693952 := by
          have h1 := (sts_clip s (l.take k)).2
          have h2 := HCl.out
          rw [← Hn.out] at h2
          rw [List.length_take, ← Hn.out] at h1
          omega
        have HOl : Hid ((outs s (l.take k)).length = k) := by unfold Hid; rw [outs_len, List.length_take, ← Hn.out]; omega
        have hxb := inR_mem HRl.out (List.mem_of_getElem? hx)
        have hlt' : (k : Int) < (n : Int) := by omega
        have w3 : IntKind.i64.wrap ((k : Int) + 1) = (k : Int) + 1 := wid (by omega) (by omega)
        have q1 := split_any (sts s (l.take k)) hgk b x hxb.1 hxb.2 wr hV.out
        have hnb' : nb < wr.heap.size := by have := hK.z; omega
        generalize sts s (l.take k) = SS at *
        generalize outs s (l.take k) = OO at *
        have hxb1 : -4503599627370496 ≤ x ∧ x ≤ 4503599627370496 := hxb
        clear q0 hx r0 hxb
        go_wp2_with fail
        refine q1.mono ?_
        rintro e w2 ⟨rfl, hD2, hK2⟩
        obtain ⟨RR, hRR⟩ : ∃ RR, RR = raw SS x := ⟨_, rfl⟩
        have hb1 : -9223372036854775808 ≤ RR ∧ RR ≤ 9223372036854775807 := by
          obtain ⟨m, m0, m1, me⟩ := raw_eq SS x
          have n1 := noise_lt SS.seed
          have := hgk.r1
          have := hgk.r2
          obtain ⟨x1, x2⟩ := hxb1
          rw [hRR]; omega
        have HC : Hid (nxt SS x = ⟨sd SS.seed, if cut RR = RR then x + SS.rest - 65536 * RR else 0, mx SS.loud (ab (cut RR)), if cut RR = RR then SS.clip else SS.clip + 1⟩) := by rw [hRR]; rfl
        rw [← hRR] at HO hD2 ⊢
        clear hRR
        have q2 := clip_any ⟨sd SS.seed, x + SS.rest - 65536 * RR, SS.loud, SS.clip⟩ b RR w2 hD2 hb1.1 hb1.2 (by show SS.clip < _; omega)
        clear q1
        go_wp2_with fail
        refine q2.mono ?_
        rintro e w3 ⟨rfl, hD3, hK3⟩
        have hmm := max_is (L := SS.loud) (Z := cut RR) hgk.l1
        have hcb := cut_bd RR
        rw [HC.out] at HT
        have HK3 : Hid (Kn wr b wr.heap.size w3) := hK2.trans (hK3.less hK2.z)
        have HF3 : Hid (FR w3 w.heap.size n (fun i => OO.getD i 0)) := World.rowIs.of_block hG.out (HK3.out.k _ hz (by omega))
        have hz3 : w.heap.size < w3.heap.size := by have := HK3.out.z; omega
        have y : w3.cell? ⟨w.heap.size, k, none⟩ = some (.int .i64 (OO.getD k 0)) := World.rowIs.cell HF3.out hlt2
        have yf := World.rowIs.frozen HF3.out k
        have d2 : w3.cell? ⟨b, 2, none⟩ = some (.int .i64 SS.loud) := hD3.c2
        have df := hD3.f 2
        have hl3 := hD3.lt
        have HD3 : Hid (DL w3 b ⟨sd SS.seed, if cut RR = RR then x + SS.rest - 65536 * RR else 0, SS.loud, if cut RR = RR then SS.clip else SS.clip + 1⟩) := hD3
        generalize OO.getD k 0 = gk at *
        generalize mx SS.loud (ab (cut RR)) = LL at *
        generalize cut RR = CC at *
        generalize SS.loud = LO at *
        have hne : b ≠ w.heap.size := by omega
        have hne' : w.heap.size ≠ b := by omega
        clear q2 hD2 hD3 hK2 hK3 hV hG HC hgk hck hb1 hxb1
        go_wp2_with fail
        refine ⟨⟨k + 1, by omega, by go_num, ?_, ?_, ?_, ?_⟩, by simp [intOf]; omega⟩
        · unfold Hid
          rw [HT.out]
          exact World.rowIs.setOther (HD3.out.put2 LL) hne _
        · refine World.rowIs.congr (World.rowIs.set (World.rowIs.setOther HF3.out hne' _) k (.int .i64 CC)) (fun i hi => ?_)
          show _ = Value.int .i64 ((outs s (l.take (k + 1))).getD i 0)
          rw [HO.out, getD_snoc, HOl.out]
          by_cases e : i = k
          · rw [if_pos e, if_pos e]
          · rw [if_neg e, if_neg e]
        · exact ((hK.trans (HK3.out.less (by omega))).trans (Kn.put (.inl rfl) (Nat.le_refl _))).trans (Kn.put (.inr (Nat.le_refl _)) (by omega))
        · simpa [World.setCell] using hz3
      · obtain rfl : k = n := by omega
        have ht : l.take k = l := List.take_of_length_le (by rw [← Hn.out]; exact Nat.le_refl _)
        rw [ht] at hV hG
        have Hr : Hid (RnQ w b s l (.returned (.tuple #[.slice (some ⟨w.heap.size, 0, none⟩) k k, .int .i64 0])) wr) := HQ.out wr hV.out hG.out hK hz
        clear hV hG
        go_wp2_with fail
        go_returns
        exact Hr.out
end Go.Proofs.Ytdlcnbfiklbiiaa.Mx
