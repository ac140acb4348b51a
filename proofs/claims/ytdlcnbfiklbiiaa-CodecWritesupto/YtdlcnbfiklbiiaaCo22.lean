/- The program's reader: guessed, frame. -/
import Derived.Test.YtdlcnbfiklbiiaaCo21
namespace Go.Proofs.Ytdlcnbfiklbiiaa.Co
open Go.RowKit Go.Maps Go.Sort
set_option linter.unusedVariables false
set_option linter.unusedSimpArgs false

set_option maxRecDepth 8000 in
set_option maxHeartbeats 8000000 in
theorem guessed_any (p k o key : Nat) (r : List Nat) (s : ByteArray) (out : List Int) (S : Nat → Prop) (va : Option Addr) (n c : Nat) (w : World) (hR : Rt w p s k) (ha : At s k r) (hs : s.size ≤ 140737488355328) (hk : key ≤ 15) (ho : o ≤ 3) (hon : o ≤ n)
    (hI : IL w S va out) (hS : ∀ b, S b → b ≠ p) (hn : out.length = n) (hc : n ≤ c) (hc2 : c ≤ 9223372036854775807) (hr : ∀ x ∈ out, inR x) :
    Calls Try.prog 63 #[.pointer (some ⟨p, 0, none⟩), .slice va n c, .agg #[.int .i64 (o : Int), .int .i64 (key : Int)]] w fun e w' =>
      e = .returned (.tuple #[.int .i64 (ge out n o + un (rf key (524288 / 2 ^ key) 0 r).2.1), .bool ((rf key (524288 / 2 ^ key) 0 r).1 && sok (ge out n o + un (rf key (524288 / 2 ^ key) 0 r).2.1))]) ∧ Rd w w' p s (rf key (524288 / 2 ^ key) 0 r).2.2 := by
  obtain ⟨w0, hw0⟩ : ∃ w0, w0 = w.alloc (.cells #[.int .i64 (o : Int), .int .i64 (key : Int)] 70) := ⟨_, rfl⟩
  have hb0 : Below w.heap.size w w0 := by rw [hw0]; exact (Below.refl _ _).alloc (Nat.le_refl _) _
  have C0 : CD w0 w.heap.size o key := by rw [hw0]; exact ⟨by simp [go_sem], by simp [go_sem], by simp [go_sem], by simp [go_sem]⟩
  have hq := rfolded_any p k key r s w0 (hR.step hb0) ha hs hk
  have hml := rf_lt (k := key) (g := 524288 / 2 ^ key) (hi := 0) ha.bits
  have hpl := hR.lt
  have hP := pow_le15 key hk
  have hGP := Nat.div_mul_le_self 524288 (2 ^ key)
  have hmb : (rf key (524288 / 2 ^ key) 0 r).2.1 < 557056 := by
    rw [Nat.zero_add, Nat.add_mul] at hml; omega
  have HT0 : Hid (TK w p w0) := TK.below hb0 hpl
  have hbp : w.heap.size ≠ p := by omega
  have HI0 : Hid (IL w0 (fun b => b < w0.heap.size ∧ b ≠ p) va out) := hI.keep (fun b _ hl => hb0.block b hl) hb0.size (fun b hb hl => ⟨by have := hb0.size; omega, hS b hb⟩)
  have hge := ge_in out hr n o
  have HR : Hid (∀ x ∈ out, inR x) := hr
  have HN : Hid (out.length = n) := hn
  generalize rf key (524288 / 2 ^ key) 0 r = RF at *
  obtain ⟨ok, m, r'⟩ := RF
  simp only at hq hmb ⊢
  have hun := un_in m
  have HG : ∀ w', IL w' (fun b => b < w'.heap.size) va out → Calls Try.prog 68 #[.slice va n c, .int .i64 (o : Int)] w' fun e w'' => e = .returned (.int .i64 (ge out n o)) ∧ Below w'.heap.size w' w'' := fun w' h => guess_any out _ va n c o w' h HN.out hc hc2 HR.out ho hon
  have HU := fun w' => unfold_any m w' (by omega)
  generalize ge out n o = GE at *
  generalize un m = UM at *
  have w1 : IntKind.i64.wrap (GE + UM) = GE + UM := wid (by omega) (by omega)
  have HSm := fun w' => isSample_any (GE + UM) w'
  have d1 := C0.c1
  have lx := C0.lt
  have HC0 : Hid (CD w0 w.heap.size o key) := C0
  clear hml hP hGP hR ha hI hS hn hr C0 hb0
  go_enter Try.func63, Try.ntmps63
  go_wp2_with fail
  rw [← hw0]
  clear hw0
  go_wp2_with fail
  refine hq.mono ?_
  rintro e w3 ⟨rfl, hRd⟩
  have C3 := HC0.out.keep (hRd.tk.blk _ HC0.out.lt hbp)
  have d0 := C3.c0
  have lx3 := C3.lt
  have HI3 : IL w3 (fun b => b < w3.heap.size) va out := HI0.out.keep (fun b hb hl => hRd.tk.blk b hb.1 hb.2) hRd.tk.bel.size (fun b hb _ => by have := hRd.tk.bel.size; omega)
  have hqg := HG w3 HI3
  have HRd : Hid (Rd w0 w3 p s r') := hRd
  clear hq HI3 hRd C3 d1 HG
  go_wp2_with fail
  refine hqg.mono ?_
  rintro e w4 ⟨rfl, hb4⟩
  have HB4 : Hid (Below w3.heap.size w3 w4) := hb4
  clear hqg hb4
  go_wp2_with fail
  refine (HU w4).mono ?_
  rintro e w5 ⟨rfl, hw5⟩
  subst hw5
  have hfin : Rd w w5 p s r' := by
    obtain ⟨j, h1, h2⟩ := HRd.out.at'
    exact ⟨⟨j, h1.step HB4.out, h2⟩, (HT0.out.trans HRd.out.tk).trans (TK.below HB4.out h1.lt)⟩
  have HF : Hid (Rd w w5 p s r') := hfin
  clear HU hfin HB4
  obtain ⟨SK, hSK⟩ : ∃ SK, SK = sok (GE + UM) := ⟨_, rfl⟩
  rw [← hSK] at HSm
  have HSK : Hid (SK = sok (GE + UM)) := hSK
  clear hSK
  cases ok with
  | true =>
    go_wp2_with fail
    refine (HSm w5).mono ?_
    rintro e w6 ⟨rfl, hw6⟩
    subst hw6
    clear HSm
    go_wp2_with fail
    go_returns
    exact ⟨by rw [← HSK.out]; rfl, HF.out⟩
  | false =>
    clear HSm
    go_wp2_with fail
    go_returns
    exact ⟨by rw [← HSK.out]; rfl, HF.out⟩
theorem rs_step {o k n i : Nat} {out : List Int} {r : List Nat} : rs o k (n + 1) out i r = if (r1 o k out i r).1 = true then rs o k n (out ++ [(r1 o k out i r).2.1]) (i + 1) (r1 o k out i r).2.2 else none := rfl
theorem r1_first {o k i : Nat} {out : List Int} {r : List Nat} (h : i < o) : r1 o k out i r = ((rn 16 r).1, ((rn 16 r).2.1 : Int) - 32768, (rn 16 r).2.2) := if_pos h
theorem r1_next {o k i : Nat} {out : List Int} {r : List Nat} (h : ¬ i < o) : r1 o k out i r = ((rf k (524288 / 2 ^ k) 0 r).1 && sok (ge out out.length o + un (rf k (524288 / 2 ^ k) 0 r).2.1), ge out out.length o + un (rf k (524288 / 2 ^ k) 0 r).2.1, (rf k (524288 / 2 ^ k) 0 r).2.2) := if_neg h
theorem r1_in {o k i : Nat} {out : List Int} {r : List Nat} (hb : bits2 r) (h : (r1 o k out i r).1 = true) : inR (r1 o k out i r).2.1 := by
  by_cases c : i < o
  · rw [r1_first c]
    have := rn_lt 16 r hb
    constructor <;> (simp only; omega)
  · rw [r1_next c] at h ⊢
    simp only [Bool.and_eq_true] at h
    exact (sok_iff _).1 h.2
/-- What a frame's reading answers. -/
def FrR (w' : World) (base p : Nat) (s : ByteArray) (e : Ending) : Option (List Int × List Nat) → Prop
  | some (out, r) => ∃ v, e = .returned (.tuple #[v, .bool true]) ∧ w'.ownsRow base 3 1 v out.length (ints out) ∧ ∃ j, Rt w' p s j ∧ At s j r
  | none => e = .returned (.tuple #[.slice none 0 0, .bool false])
set_option maxRecDepth 8000 in
set_option maxHeartbeats 8000000 in
theorem rframe_any (p k long : Nat) (r : List Nat) (s : ByteArray) (out : List Int) (v : Value) (w : World) (hR : Rt w p s k) (ha : At s k r) (hs : s.size ≤ 140737488355328) (hO : w.ownsRow (p + 1) 3 1 v out.length (ints out)) (hr : ∀ x ∈ out, inR x) (hl : out.length ≤ 1048576) (hlong : long ≤ 256) :
    Calls Try.prog 41 #[.pointer (some ⟨p, 0, none⟩), v, .int .i64 (long : Int)] w fun e w' => FrR w' (p + 1) p s e (rr out long r) ∧ Below p w w' := by
  have hq := code_any p k r s w hR ha hs
  have hlt := rn_lt 6 r ha.bits
  have hbb := rn_bits (n := 6) ha.bits
  obtain ⟨RR, hRR⟩ : ∃ RR, RR = rr out long r := ⟨_, rfl⟩
  rw [← hRR]
  have hRR2 : RR = if (rn 6 r).1 = true then rs ((rn 6 r).2.1 / 16) ((rn 6 r).2.1 % 16) long out 0 (rn 6 r).2.2 else none := hRR
  have HO : Hid (w.ownsRow (p + 1) 3 1 v out.length (ints out)) := hO
  have hpl := hR.lt
  generalize rn 6 r = R6 at *
  obtain ⟨ok, X, r6⟩ := R6
  simp only at hq hlt hbb hRR2
  have hX : X < 64 := by simpa using hlt
  obtain ⟨O, hO'⟩ : ∃ O, O = X / 16 := ⟨_, rfl⟩
  obtain ⟨K, hK'⟩ : ∃ K, K = X % 16 := ⟨_, rfl⟩
  rw [← hO', ← hK'] at hq hRR2
  have hO3 : O ≤ 3 := by omega
  have hK15 : K ≤ 15 := by omega
  obtain ⟨n0, hn0⟩ : ∃ n0, n0 = out.length := ⟨_, rfl⟩
  have HR0 : Hid (∀ x ∈ out, inR x) := hr
  obtain ⟨va, vc, rfl, v1, v2⟩ := own_form hO
  rw [← hn0] at hl v1 HO ⊢
  have HN0 : Hid (n0 = out.length) := hn0
  clear hRR hlt hX hO' hK' hR ha hO hr hn0
  cases ok with
  | false =>
    have HE : Hid (RR = none) := hRR2
    clear hRR2
    go_enter Try.func41, Try.ntmps41
    go_wp2_with fail
    refine hq.mono ?_
    rintro e w1 ⟨rfl, hd⟩
    have HD : Hid (Rd w w1 p s r6) := hd
    have hlw : p < w1.heap.size := by have := hd.tk.bel.size; omega
    clear hq hd
    go_wp2_with fail
    go_returns
    exact ⟨by rw [HE.out]; rfl, HD.out.tk.bel.trans (by go_grown)⟩
  | true =>
    have HRR : Hid (RR = rs O K long out 0 r6) := hRR2
    clear hRR2
    go_enter Try.func41, Try.ntmps41
    go_wp2_with fail
    refine hq.mono ?_
    rintro e w1 ⟨rfl, hd⟩
    have HD : Hid (Rd w w1 p s r6) := hd
    have hlw : p < w1.heap.size := by have := hd.tk.bel.size; omega
    clear hq hd
    go_wp2_with fail
    obtain ⟨cb, hcb⟩ : ∃ cb, cb = w1.heap.size := ⟨_, rfl⟩
    obtain ⟨w2, hw2⟩ : ∃ w2, w2 = w1.alloc (.cells #[.int .i64 (O : Int), .int .i64 (K : Int)] 70) := ⟨_, rfl⟩
    have hb2 : Below w1.heap.size w1 w2 := by rw [hw2]; exact (Below.refl _ _).alloc (Nat.le_refl _) _
    have C2 : Hid (CD w2 cb O K) := by rw [hw2, hcb]; exact ⟨by simp [go_sem], by simp [go_sem], by simp [go_sem], by simp [go_sem]⟩
    have hown0 : ∀ q, (Value.slice va n0 vc).ownBlock = some q → q < w.heap.size ∧ p + 1 ≤ q := fun q hq => ⟨own_lt HO.out q hq, own_block HO.out q hq⟩
    have hz1 := HD.out.tk.bel.size
    have O2 : Hid (w2.ownsRow (p + 1) 3 1 (.slice va n0 vc) n0 (ints out)) := own_step HO.out (fun q hq => by
      have := hown0 q hq
      rw [hb2.block q (by omega), HD.out.tk.blk q this.1 (by omega)])
    have N2 : Hid (some cb ≠ (Value.slice va n0 vc).ownBlock) := fun e => by have := hown0 cb e.symm; omega
    have R2 : Hid (∃ j, Rt w2 p s j ∧ At s j r6) := by
      obtain ⟨j, h1, h2⟩ := HD.out.at'
      exact ⟨j, h1.step hb2, h2⟩
    have B2 : Hid (Below p w w2) := HD.out.tk.bel.trans (hb2.mono (by omega))
    have hcp : p < cb := by omega
    rw [← hw2, ← hcb]
    clear hw2 hcb hb2 hown0 hz1 HD HO hlw
    go_loopw [20, 1] (fun a v wr => ∃ (i : Nat) (o' : List Int) (r' : List Nat) (va' : Option Addr) (vc' : Nat), i ≤ long ∧ a = .int .i64 (i : Int) ∧ v = .slice va' (n0 + i) vc' ∧ n0 + i ≤ vc' ∧ vc' ≤ 9223372036854775807 ∧ Hid (RR = rs O K (long - i) o' i r') ∧ Hid (wr.ownsRow (p + 1) 3 1 (.slice va' (n0 + i) vc') (n0 + i) (ints o')) ∧ Hid (o'.length = n0 + i ∧ ∀ x ∈ o', inR x) ∧ Hid (∃ j, Rt wr p s j ∧ At s j r') ∧ Hid (CD wr cb O K) ∧ Hid (some cb ≠ (Value.slice va' (n0 + i) vc').ownBlock) ∧ Hid (Below p w wr)) (fun a _ _ => long - (intOf a).toNat)
    case atStart => exact ⟨0, out, r6, va, vc, by omega, rfl, rfl, v1, v2, HRR, O2, ⟨HN0.out.symm, HR0.out⟩, R2, C2, N2, B2⟩
    case round =>
      obtain ⟨i, o', r', va', vc', hi, rfl, rfl, hv1, hv2, hE, hOw, hL, hRt, hC, hNe, hB⟩ := hrel
      obtain ⟨j, hRj, hAj⟩ := hRt.out
      by_cases hlt : i < long
      · have hlt' : (i : Int) < (long : Int) := by omega
        have hbits := hAj.bits
        have d0 := hC.out.c0
        have d1 := hC.out.c1
        have lcb := hC.out.lt
        obtain ⟨g, hg⟩ : ∃ g, long - i = g + 1 := ⟨long - i - 1, by omega⟩
        have hg2 : long - (i + 1) = g := by omega
        have hEs := hE.out
        rw [hg, rs_step] at hEs
        have hin := r1_in (o := O) (k := K) (i := i) (out := o') hbits
        have hownb : ∀ q, (Value.slice va' (n0 + i) vc').ownBlock = some q → q < wr.heap.size ∧ p + 1 ≤ q := fun q hq => ⟨own_lt hOw.out q hq, own_block hOw.out q hq⟩
        have hILf : ∃ S : Nat → Prop, (∀ b, S b → b ≠ p) ∧ IL wr S va' o' := by
          obtain ⟨a, c, h1, h2, h3, h4, h5⟩ := IL.own hOw.out hL.out.1
          cases h1
          exact ⟨_, fun b hb => by have := hownb b hb.symm; omega, h5⟩
        obtain ⟨S, hS, hIL⟩ := hILf
        have w3 : IntKind.i64.wrap ((i : Int) + 1) = (i : Int) + 1 := wid (by omega) (by omega)
        by_cases hio : i < O
        case' pos =>
          have hio' : (i : Int) < (O : Int) := by omega
          have hq := plain_any p j r' s wr hRj hAj hs
          have e1 := r1_first (o := O) (k := K) (i := i) (out := o') (r := r') hio
          rw [e1] at hEs hin
          generalize hR1 : rn 16 r' = R1 at *
          obtain ⟨ok1, X1, r2⟩ := R1
          simp only at hq hEs hin
          generalize (X1 : Int) - 32768 = Y at *
          have HEs : Hid (RR = if ok1 = true then rs O K g (o' ++ [Y]) (i + 1) r2 else none) := hEs
          clear hEs e1 hR1 hIL hS hE hRt hRj hAj hbits
          go_wp2_with fail
          refine hq.mono ?_
        case' neg =>
          have hio' : ¬ (i : Int) < (O : Int) := by omega
          have hq := guessed_any p j O K r' s o' S va' (n0 + i) vc' wr hRj hAj hs hK15 hO3 (by omega) hIL hS hL.out.1 hv1 hv2 hL.out.2
          have e1 := r1_next (o := O) (k := K) (i := i) (out := o') (r := r') hio
          rw [hL.out.1] at e1
          rw [e1] at hEs hin
          generalize hR1 : rf K (524288 / 2 ^ K) 0 r' = R1 at *
          obtain ⟨okm, X1, r2⟩ := R1
          simp only at hq hEs hin
          generalize ge o' (n0 + i) O + un X1 = Y at *
          generalize (okm && sok Y) = ok1 at *
          have HEs : Hid (RR = if ok1 = true then rs O K g (o' ++ [Y]) (i + 1) r2 else none) := hEs
          clear hEs e1 hR1 hIL hS hE hRt hRj hAj hbits
          go_wp2_with fail
          refine hq.mono ?_
        all_goals
          rintro e w5 ⟨rfl, hd⟩
          have hz5 := hd.tk.bel.size
          have hO5 := own_step (w' := w5) hOw.out (fun q hq => hd.tk.blk q (hownb q hq).1 (by have := (hownb q hq).2; omega))
          have hC5 := hC.out.keep (hd.tk.blk cb lcb (by omega))
          have HAt5 : Hid (∃ j, Rt w5 p s j ∧ At s j r2) := hd.at'
          have HB5 : Hid (Below p w w5) := hB.out.trans hd.tk.bel
          have lcb5 := hC5.lt
          have HC5 : Hid (CD w5 cb O K) := hC5
          clear hq hd d0 d1 hC hC5 hB hownb hOw
          cases ok1 with
          | false =>
            have HEn : Hid (RR = none) := HEs.out
            clear hin HEs hO5
            go_wp2_with fail
            go_returns
            exact ⟨by rw [HEn.out]; rfl, HB5.out⟩
          | true =>
            have HEy : Hid (RR = rs O K g (o' ++ [Y]) (i + 1) r2) := HEs.out
            have hY := hin rfl
            have hb6 : Below w5.heap.size w5 (w5.alloc (.cells #[.int .i64 Y] 3)) := (Below.refl _ _).alloc (Nat.le_refl _) _
            have hO6 := own_step (w' := w5.alloc (.cells #[.int .i64 Y] 3)) hO5 (fun q hq => hb6.block q (own_lt hO5 q hq))
            clear hin HEs
            go_wp2_with (at_builtin; refine wpList_append_1 23 3 (.int .i64 0) 8 Try.underlying23 infoI rfl rfl (.tmp 41) (.tmp 43) rfl (p + 1) _ _ _ rfl hO6 w5.heap.size (.int .i64 Y) rfl (by simp [go_sem]) rfl (by omega) (by omega) (by simp; omega) ?_; intro v' w6 k1 k2; have HO6 : Hid (w6.ownsRow (p + 1) 3 1 v' (n0 + i + 1) (ints (o' ++ [Y]))) := (by show World.ownsRow _ _ _ _ _ _ _; have e : ints (o' ++ [Y]) = ints o' ++ [.int .i64 Y] := (by unfold ints; rw [List.map_append]; rfl); rw [e]; exact k1); have hp6 : w6.heap[p]? = w5.heap[p]? := (k2.gr.block p (by simp; omega) (fun q => by have := own_block hO6 p q.symm; omega)).trans (hb6.block p (by omega)); have hc6 : w6.heap[cb]? = w5.heap[cb]? := (k2.gr.block cb (by simp; omega) hNe.out).trans (hb6.block cb lcb5); have HA6 : Hid (∃ j, Rt w6 p s j ∧ At s j r2) := (by obtain ⟨j, h1, h2⟩ := HAt5.out; exact ⟨j, h1.blk hp6 (by have := k2.gr.size; simp at this; omega), h2⟩); have HC6 : Hid (CD w6 cb O K) := HC5.out.keep hc6; have HN6 : Hid (some cb ≠ v'.ownBlock) := (by intro e; rcases k2.ob with q | ⟨z, q, hz⟩; exact hNe.out (e.trans q); rw [q] at e; cases e; simp at hz; omega); have HB6 : Hid (Below p w w6) := (HB5.out.trans (hb6.mono (by omega))).trans (k2.bel (by simp; omega) (fun q hq => by have := own_block hO6 q hq; omega)); obtain ⟨va6, vc6, hv6, g1, g2⟩ := own_form HO6.out; subst hv6; clear k1 k2 hO6 hb6 hO5 hp6 hc6 HAt5 HC5 HB5 hNe)
            go_roundw
            case rel =>
              refine ⟨i + 1, o' ++ [Y], r2, va6, vc6, by omega, by go_num, by rw [Nat.add_assoc], by omega, g2, by rw [hg2]; exact HEy, by rw [← Nat.add_assoc]; exact HO6, ⟨by rw [List.length_append, hL.out.1]; rfl, fun x hx => ?_⟩, HA6, HC6, by rw [← Nat.add_assoc]; exact HN6, HB6⟩
              rcases List.mem_append.1 hx with h | h
              · exact hL.out.2 x h
              · simp at h; rw [h]; exact hY
            case measure => simp [intOf]; omega
      · have hil : i = long := by omega
        subst hil
        have hlt' : ¬ (i : Int) < (i : Int) := by omega
        have HEe : Hid (RR = some (o', r')) := by show _ = _; rw [hE.out, Nat.sub_self]; rfl
        clear hE hRj hAj
        go_wp2_with fail
        go_returns
        exact ⟨by rw [HEe.out]; exact ⟨_, rfl, by rw [hL.out.1]; exact hOw.out, hRt.out⟩, hB.out⟩
end Go.Proofs.Ytdlcnbfiklbiiaa.Co
