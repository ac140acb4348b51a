/- The program's Decode, at every text. -/
import Derived.Test.YtdlcnbfiklbiiaaCo22
namespace Go.Proofs.Ytdlcnbfiklbiiaa.Co
open Go.RowKit Go.Maps Go.Sort
set_option linter.unusedVariables false
set_option linter.unusedSimpArgs false

theorem r1_bits {o k i : Nat} {out : List Int} {r : List Nat} (hb : bits2 r) : bits2 (r1 o k out i r).2.2 := by
  by_cases c : i < o
  · rw [r1_first c]; exact rn_bits hb
  · rw [r1_next c]; exact rf_bits hb
theorem rs_all {o k n i : Nat} {out out' : List Int} {r r' : List Nat} (hb : bits2 r) (hi : ∀ x ∈ out, inR x) (h : rs o k n out i r = some (out', r')) : out'.length = out.length + n ∧ (∀ x ∈ out', inR x) ∧ bits2 r' := by
  induction n generalizing i out r with
  | zero => cases h; exact ⟨rfl, hi, hb⟩
  | succ n ih =>
    rw [rs_step] at h
    by_cases c : (r1 o k out i r).1 = true
    · rw [if_pos c] at h
      have hx := r1_in hb c
      have := ih (r1_bits hb) (fun x hx' => by
        rcases List.mem_append.1 hx' with q | q
        · exact hi x q
        · simp at q; rw [q]; exact hx) h
      refine ⟨?_, this.2⟩
      rw [this.1, List.length_append, List.length_singleton]; omega
    · rw [if_neg c] at h; cases h
theorem rr_all {n : Nat} {out out' : List Int} {r r' : List Nat} (hb : bits2 r) (hi : ∀ x ∈ out, inR x) (h : rr out n r = some (out', r')) : out'.length = out.length + n ∧ (∀ x ∈ out', inR x) ∧ bits2 r' := by
  unfold rr at h
  split at h
  · exact rs_all (rn_bits hb) hi h
  · cases h
/-- What is told of what is behind the last frame. -/
def en0 (r : List Nat) : Bool := decide (r.length < 8) && decide (va r = 0)
/-- What Decode answers, by what came of the frames. -/
def fin : Option (List Int × List Nat) → List Int × Int
  | some (out, r) => if en0 r = true then (out, 0) else ([], 2)
  | none => ([], 2)
/-- What Decode answers. -/
def dc (r : List Nat) : List Int × Int :=
  if (rn 24 r).1 = true then (if 1048576 < (rn 24 r).2.1 then ([], 5) else fin (ra (rn 24 r).2.1 ((rn 24 r).2.1 + 1) [] (rn 24 r).2.2)) else ([], 2)
set_option maxHeartbeats 4000000 in
theorem isAtEnd_any (p k : Nat) (r : List Nat) (s : ByteArray) (w : World) (hR : Rt w p s k) (ha : At s k r) (hs : s.size ≤ 140737488355328) :
    Calls Try.prog 42 #[.pointer (some ⟨p, 0, none⟩)] w fun e w' => e = .returned (.bool (en0 r)) ∧ TK w p w' := by
  have c0 := hR.c0
  have c1 := hR.c1
  have lt := hR.lt
  have hl := ha.len
  have hle := ha.le
  obtain ⟨L, hL⟩ : ∃ L, L = r.length := ⟨_, rfl⟩
  rw [← hL] at hl
  have w1 : IntKind.i64.wrap (8 * (s.size : Int)) = 8 * (s.size : Int) := wid (by omega) (by omega)
  have w2 : IntKind.i64.wrap (8 * (s.size : Int) - (k : Int)) = (L : Int) := by rw [wid (by omega) (by omega)]; omega
  have w2' : 8 * (s.size : Int) - (k : Int) = (L : Int) := by omega
  have HR : Hid (Rt w p s k ∧ At s k r) := ⟨hR, ha⟩
  have HL : Hid (L = r.length) := hL
  by_cases c : L < 8
  · have c' : ¬ (8 : Int) ≤ (L : Int) := by omega
    have HE : Hid (en0 r = decide (va r = 0)) := by show _ = _; unfold en0; rw [← hL, decide_eq_true c]; rfl
    have hb : ∀ N, Below w.heap.size w (w.drewN N) := fun N => below_drewN (Below.refl _ _) N
    have hq : ∀ N, Calls Try.prog 40 #[.pointer (some ⟨p, 0, none⟩), .int .i64 (L : Int)] (w.drewN N) fun e w' => e = .returned (.tuple #[.int .i64 ((va r : Nat) : Int), .bool true]) ∧ Rd (w.drewN N) w' p s [] := fun N => by
      have h := rnumber_any p k L r s (w.drewN N) (HR.out.1.step (hb N)) HR.out.2 hs (by omega)
      have e : rn L r = (true, va r, []) := by
        rw [rn_yes (by omega), List.take_of_length_le (by omega), List.drop_of_length_le (by omega)]
      rw [e] at h; exact h
    clear hR ha hl hL hle
    generalize va r = V at *
    go_enter Try.func42, Try.ntmps42
    go_wp2_with fail
    go_quiet (fail)
    go_wp2_with (simp only [w2'])
    refine (hq _).mono ?_
    rintro e w3 ⟨rfl, hd⟩
    have HB : Hid (TK w p w3) := (TK.below (hb _) lt).trans hd.tk
    clear hq hd hb
    go_wp2_with fail
    go_ret
    refine ⟨?_, HB.out⟩
    rw [HE.out]
    by_cases q : V = 0
    · subst q; rfl
    · have hv : ((V : Int) == 0) = false := by simp; omega
      rw [decide_eq_false q]
      show Ending.returned (Value.bool ((V : Int) == 0)) = _
      rw [hv]
  · have c' : (8 : Int) ≤ (L : Int) := by omega
    have HE : Hid (en0 r = false) := by show _ = _; unfold en0; rw [← hL, decide_eq_false c]; rfl
    have hb : ∀ N, Below w.heap.size w (w.drewN N) := fun N => below_drewN (Below.refl _ _) N
    clear hR ha hl hL hle
    go_enter Try.func42, Try.ntmps42
    go_wp2_with fail
    go_quiet (fail)
    go_wp2_with (simp only [w2'])
    go_ret
    exact ⟨by rw [HE.out]; rfl, TK.below (hb _) lt⟩
theorem ra_step {many g : Nat} {out : List Int} {r : List Nat} : ra many (g + 1) out r = if out.length < many then (match rr out (min (many - out.length) 256) r with | some (out', r') => ra many g out' r' | none => none) else some (out, r) := rfl
def slen : Value → Nat
  | .slice _ n _ => n
  | _ => 0
set_option maxRecDepth 8000 in
set_option maxHeartbeats 8000000 in
theorem Decode_any (s : ByteArray) (w : World) (hs : s.size ≤ 140737488355328) :
    Calls Try.prog 19 #[.string s] w fun e w' => (∃ v, e = .returned (.tuple #[v, .int .i64 (dc (tb s)).2]) ∧ w'.ownsRow (w.heap.size + 1) 3 1 v (dc (tb s)).1.length (ints (dc (tb s)).1)) ∧ Below w.heap.size w w' := by
  obtain ⟨p, hp⟩ : ∃ p, p = w.heap.size := ⟨_, rfl⟩
  obtain ⟨w0, hw0⟩ : ∃ w0, w0 = w.alloc (.cells #[.string s, .int .i64 0] 77) := ⟨_, rfl⟩
  have hb0 : Below p w w0 := by rw [hw0, hp]; exact (Below.refl _ _).alloc (Nat.le_refl _) _
  have hR0 : Rt w0 p s 0 := by rw [hw0, hp]; exact ⟨by simp, by simp [go_sem], by simp [go_sem], by simp [go_sem]⟩
  have hA0 : At s 0 (tb s) := ⟨rfl, by omega⟩
  have hq := rnumber_any p 0 24 (tb s) s w0 hR0 hA0 hs (by omega)
  have hbits := hA0.bits
  have hlt := rn_lt 24 (tb s) hbits
  have hbb := rn_bits (n := 24) hbits
  obtain ⟨DD, hDD⟩ : ∃ DD, DD = dc (tb s) := ⟨_, rfl⟩
  rw [← hDD, ← hp]
  have hdef := hDD
  have hunf : dc (tb s) = if (rn 24 (tb s)).1 = true then (if 1048576 < (rn 24 (tb s)).2.1 then ([], 5) else fin (ra (rn 24 (tb s)).2.1 ((rn 24 (tb s)).2.1 + 1) [] (rn 24 (tb s)).2.2)) else ([], 2) := rfl
  rw [hunf] at hdef
  clear hDD hunf hA0 hbits
  generalize rn 24 (tb s) = R24 at *
  obtain ⟨ok, X, r1⟩ := R24
  simp only at hq hlt hbb hdef
  have hX : X < 16777216 := by simpa using hlt
  have HB0 : Hid (Below p w w0) := hb0
  clear hlt hb0 hR0
  have Hp : Hid (p = w.heap.size) := hp
  cases ok with
  | false =>
    have HE : Hid (DD = ([], 2)) := hdef
    clear hdef
    go_enter Try.func19, Try.ntmps19
    go_wp2_with fail
    rw [← hw0, ← hp]
    clear hw0 hp
    refine hq.mono ?_
    rintro e w1 ⟨rfl, hd⟩
    have HB1 : Hid (Below p w w1) := HB0.out.trans hd.tk.bel
    clear hq hd
    go_wp2_with fail
    go_returns
    exact ⟨⟨.slice none 0 0, by rw [HE.out]; rfl, by rw [HE.out]; exact World.ownsRow_nil _ _ _ _⟩, HB1.out⟩
  | true =>
    have hdef2 : DD = if 1048576 < X then ([], 5) else fin (ra X (X + 1) [] r1) := hdef
    clear hdef
    by_cases hbig : 1048576 < X
    · have HE2 : Hid (DD = ([], 5)) := by show _ = _; rw [hdef2, if_pos hbig]
      have hbig' : (1048576 : Int) < (X : Int) := by omega
      clear hdef2
      go_enter Try.func19, Try.ntmps19
      go_wp2_with fail
      rw [← hw0, ← hp]
      clear hw0 hp
      refine hq.mono ?_
      rintro e w1 ⟨rfl, hd⟩
      have HB1 : Hid (Below p w w1) := HB0.out.trans hd.tk.bel
      clear hq hd
      go_wp2_with fail
      go_returns
      exact ⟨⟨.slice none 0 0, by rw [HE2.out]; rfl, by rw [HE2.out]; exact World.ownsRow_nil _ _ _ _⟩, HB1.out⟩
    · have hbig' : ¬ (1048576 : Int) < (X : Int) := by omega
      obtain ⟨RA, hRA⟩ : ∃ RA, RA = ra X (X + 1) [] r1 := ⟨_, rfl⟩
      rw [if_neg hbig, ← hRA] at hdef2
      have HE2 : Hid (DD = fin RA) := hdef2
      have HRA : Hid (RA = ra X (X + 1) [] r1) := hRA
      have HBb : Hid (bits2 r1) := hbb
      clear hdef2 hRA hbb
      go_enter Try.func19, Try.ntmps19
      go_wp2_with fail
      rw [← hw0, ← hp]
      clear hw0 hp
      refine hq.mono ?_
      rintro e w1 ⟨rfl, hd⟩
      have HB1 : Hid (Below p w w1) := HB0.out.trans hd.tk.bel
      have HA1 : Hid (∃ j, Rt w1 p s j ∧ At s j r1) := hd.at'
      clear hq hd
      go_wp2_with fail
      go_loopw [7] (fun v wr => ∃ (g : Nat) (o' : List Int) (r' : List Nat) (va : Option Addr) (n vc : Nat), v = .slice va n vc ∧ n ≤ vc ∧ vc ≤ 9223372036854775807 ∧ n ≤ X ∧ X < n + g ∧ Hid (o'.length = n ∧ (∀ x ∈ o', inR x)) ∧ Hid (RA = ra X g o' r') ∧ Hid (wr.ownsRow (p + 1) 3 1 (.slice va n vc) n (ints o')) ∧ Hid (∃ j, Rt wr p s j ∧ At s j r') ∧ Hid (Below p w wr)) (fun v _ => X - slen v)
      case atStart => exact ⟨X + 1, [], r1, none, 0, 0, rfl, by omega, by omega, by omega, by omega, ⟨rfl, fun x hx => by cases hx⟩, HRA, World.ownsRow_nil _ _ _ _, HA1, HB1⟩
      case round =>
        obtain ⟨g, o', r', va, n, vc, rfl, hv1, hv2, hnX, hgX, hL, hE, hO, hRt, hB⟩ := hrel
        obtain ⟨j, hRj, hAj⟩ := hRt.out
        by_cases hlt : n < X
        · have hlt' : (n : Int) < (X : Int) := by omega
          obtain ⟨g', rfl⟩ : ∃ g', g = g' + 1 := ⟨g - 1, by omega⟩
          obtain ⟨D, hD⟩ : ∃ D, D = X - n := ⟨_, rfl⟩
          obtain ⟨L, hLg⟩ : ∃ L, L = min D 256 := ⟨_, rfl⟩
          have hL0 : 0 < L ∧ L ≤ 256 ∧ n + L ≤ X := by omega
          have w1 : IntKind.i64.wrap ((X : Int) - (n : Int)) = (D : Int) := by rw [wid (by omega) (by omega)]; omega
          have m1 : (if (256 : Int) < (D : Int) then (256 : Int) else (D : Int)) = (L : Int) := by
            by_cases q : 256 < D
            · rw [if_pos (by omega), hLg, Nat.min_eq_right (by omega)]; rfl
            · rw [if_neg (by omega), hLg, Nat.min_eq_left (by omega)]
          have m2 : (if 256 < D then (256 : Int) else (D : Int)) = (L : Int) := by
            by_cases q : 256 < D
            · rw [if_pos q, hLg, Nat.min_eq_right (by omega)]; rfl
            · rw [if_neg q, hLg, Nat.min_eq_left (by omega)]
          have hEs := hE.out
          rw [ra_step, hL.out.1, if_pos hlt, ← hD, ← hLg] at hEs
          have hOo : wr.ownsRow (p + 1) 3 1 (.slice va n vc) o'.length (ints o') := by rw [hL.out.1]; exact hO.out
          have hqf := rframe_any p j L r' s o' (.slice va n vc) wr hRj hAj hs hOo hL.out.2 (by rw [hL.out.1]; omega) hL0.2.1
          have hall : ∀ o2 r2, rr o' L r' = some (o2, r2) → o2.length = o'.length + L ∧ (∀ x ∈ o2, inR x) ∧ bits2 r2 := fun o2 r2 h => rr_all hAj.bits hL.out.2 h
          have HBr : Hid (Below p w wr) := hB
          have hplr := hRj.lt
          generalize rr o' L r' = RR at *
          clear hD hLg hE hOo hRj hAj hRt hO hB
          cases RR with
          | none =>
            have HEn : Hid (RA = none) := hEs
            clear hEs hall hL
            go_wp2_with (simp only [w1])
            refine hqf.mono ?_
            rintro e w5 ⟨hF, hB5⟩
            have hF2 : e = .returned (.tuple #[.slice none 0 0, .bool false]) := hF
            subst hF2
            have HB5 : Hid (Below p w w5) := HBr.out.trans hB5
            clear hqf hB5 hF
            go_wp2_with fail
            go_returns
            exact ⟨⟨.slice none 0 0, by rw [HE2.out, HEn.out]; rfl, by rw [HE2.out, HEn.out]; exact World.ownsRow_nil _ _ _ _⟩, HB5.out⟩
          | some q =>
            obtain ⟨o2, r2⟩ := q
            have HEy : Hid (RA = ra X g' o2 r2) := hEs
            have hal := hall o2 r2 rfl
            have HAl : Hid (o2.length = n + L ∧ (∀ x ∈ o2, inR x)) := ⟨by rw [hal.1, hL.out.1], hal.2.1⟩
            clear hEs hall hal
            go_wp2_with (simp only [w1])
            refine hqf.mono ?_
            rintro e w5 ⟨hF, hB5⟩
            obtain ⟨v5, he5, hO5, hR5⟩ : ∃ v, e = .returned (.tuple #[v, .bool true]) ∧ w5.ownsRow (p + 1) 3 1 v o2.length (ints o2) ∧ ∃ j, Rt w5 p s j ∧ At s j r2 := hF
            subst he5
            rw [HAl.out.1] at hO5
            obtain ⟨va5, vc5, rfl, g1, g2⟩ := own_form hO5
            have HO5 : Hid (w5.ownsRow (p + 1) 3 1 (.slice va5 (n + L) vc5) (n + L) (ints o2)) := hO5
            have HR5 : Hid (∃ j, Rt w5 p s j ∧ At s j r2) := hR5
            have HB5 : Hid (Below p w w5) := HBr.out.trans hB5
            clear hqf hB5 hO5 hR5 hL
            go_wp2_with fail
            go_roundw
            case rel => exact ⟨g', o2, r2, va5, n + L, vc5, rfl, g1, g2, hL0.2.2, by omega, HAl, HEy, HO5, HR5, HB5⟩
            case measure => simp [slen]; omega
        · have hnX2 : n = X := by omega
          subst hnX2
          have hlt' : ¬ (n : Int) < (n : Int) := by omega
          obtain ⟨g', rfl⟩ : ∃ g', g = g' + 1 := ⟨g - 1, by omega⟩
          have HEe : Hid (RA = some (o', r')) := by show _ = _; rw [hE.out, ra_step, hL.out.1, if_neg hlt]
          have hqe := isAtEnd_any p j r' s wr hRj hAj hs
          have HBr : Hid (Below p w wr) := hB
          have hplr := hRj.lt
          have HO : Hid (wr.ownsRow (p + 1) 3 1 (.slice va n vc) n (ints o')) := hO
          clear hE hRj hAj hRt hB hO
          obtain ⟨EN, hEN⟩ : ∃ EN, EN = en0 r' := ⟨_, rfl⟩
          have HEN : Hid (fin (some (o', r')) = if EN = true then (o', 0) else ([], 2)) := by show _ = _; rw [hEN]; rfl
          rw [← hEN] at hqe
          clear hEN
          cases EN with
          | true =>
            have HDD : Hid (DD = (o', 0)) := by show _ = _; rw [HE2.out, HEe.out, HEN.out]; rfl
            go_wp2_with fail
            refine hqe.mono ?_
            rintro e w5 ⟨rfl, hT⟩
            have hO5 := own_step (w' := w5) HO.out (fun q hq => hT.blk q (own_lt HO.out q hq) (by have := own_block HO.out q hq; omega))
            have HO5 : Hid (w5.ownsRow (p + 1) 3 1 (.slice va n vc) n (ints o')) := hO5
            have HB5 : Hid (Below p w w5) := HBr.out.trans hT.bel
            clear hqe hT hO5
            go_wp2_with fail
            go_returns
            exact ⟨⟨.slice va n vc, by rw [HDD.out]; rfl, by rw [HDD.out]; show World.ownsRow _ _ _ _ _ o'.length _; rw [hL.out.1]; exact HO5.out⟩, HB5.out⟩
          | false =>
            have HDD : Hid (DD = ([], 2)) := by show _ = _; rw [HE2.out, HEe.out, HEN.out]; rfl
            go_wp2_with fail
            refine hqe.mono ?_
            rintro e w5 ⟨rfl, hT⟩
            have HB5 : Hid (Below p w w5) := HBr.out.trans hT.bel
            clear hqe hT
            go_wp2_with fail
            go_returns
            exact ⟨⟨.slice none 0 0, by rw [HDD.out]; rfl, by rw [HDD.out]; exact World.ownsRow_nil _ _ _ _⟩, HB5.out⟩
end Go.Proofs.Ytdlcnbfiklbiiaa.Co
