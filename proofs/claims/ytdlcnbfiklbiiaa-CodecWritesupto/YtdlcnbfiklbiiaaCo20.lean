/- The program's reader of bits: how it lies; what bit and number come to. -/
import Derived.Test.YtdlcnbfiklbiiaaCo2
import Derived.Test.YtdlcnbfiklbiiaaCoMath2
namespace Go.Proofs.Ytdlcnbfiklbiiaa.Co
open Go.RowKit Go.Maps Go.Sort
set_option linter.unusedVariables false
set_option linter.unusedSimpArgs false

/-- A text's bytes. -/
def tx (s : ByteArray) : List Nat := s.data.toList.map fun x => x.toNat
theorem tx_len (s : ByteArray) : (tx s).length = s.size := by unfold tx; rw [List.length_map, Array.length_toList]; rfl
/-- Bytes' bits. -/
def u8 (l : List Nat) : List Nat := l.flatMap fun x => bn x 8
theorem u8_len (l : List Nat) : (u8 l).length = 8 * l.length := by
  unfold u8
  induction l with
  | nil => rfl
  | cons x t ih => rw [List.flatMap_cons, List.length_append, bn_len, ih, List.length_cons]; omega
theorem u8_get (l : List Nat) (p : Nat) (h : p < 8 * l.length) : (u8 l)[p]? = some (l.getD (p / 8) 0 / 2 ^ (7 - p % 8) % 2) := by
  induction l generalizing p with
  | nil => simp at h
  | cons x t ih =>
    have e : u8 (x :: t) = bn x 8 ++ u8 t := List.flatMap_cons ..
    rw [e]
    by_cases c : p < 8
    · rw [List.getElem?_append_left (by rw [bn_len]; exact c), bn_get x 8 p c]
      have h1 : p / 8 = 0 := by omega
      have h2 : p % 8 = p := by omega
      rw [h1, h2]; rfl
    · rw [List.getElem?_append_right (by rw [bn_len]; omega), bn_len, ih (p - 8) (by rw [List.length_cons] at h; omega)]
      have h1 : p / 8 = (p - 8) / 8 + 1 := by omega
      have h2 : p % 8 = (p - 8) % 8 := by omega
      rw [h1, ← h2]; rfl
theorem u8_bits (l : List Nat) : bits2 (u8 l) := by
  intro x hx
  unfold u8 at hx
  obtain ⟨y, _, hy⟩ := List.mem_flatMap.1 hx
  exact bn_lt y 8 x hy
/-- A text's bits. -/
def tb (s : ByteArray) : List Nat := u8 (tx s)
theorem tb_len (s : ByteArray) : (tb s).length = 8 * s.size := by unfold tb; rw [u8_len, tx_len]
/-- What is left from a bit on. -/
structure At (s : ByteArray) (k : Nat) (r : List Nat) : Prop where
  e : (tb s).drop k = r
  le : k ≤ 8 * s.size
theorem At.bits {s : ByteArray} {k : Nat} {r : List Nat} (h : At s k r) : bits2 r := by rw [← h.e]; exact (u8_bits _).drop k
theorem At.nil {s : ByteArray} {k : Nat} (h : At s k []) : k = 8 * s.size := by
  have h1 := h.e
  have h2 := h.le
  rw [List.drop_eq_nil_iff, tb_len] at h1
  omega
theorem At.len {s : ByteArray} {k : Nat} {r : List Nat} (h : At s k r) : r.length = 8 * s.size - k := by
  rw [← h.e, List.length_drop, tb_len]
theorem At.cons {s : ByteArray} {k b : Nat} {t : List Nat} (h : At s k (b :: t)) : ∃ hk : k / 8 < s.size, (s[k / 8]'hk).toNat / 2 ^ (7 - k % 8) % 2 = b ∧ At s (k + 1) t := by
  have h1 := h.e
  have hl := h.len
  rw [List.length_cons] at hl
  have hk : k < (tb s).length := by rw [tb_len]; omega
  rw [List.drop_eq_getElem_cons hk] at h1
  obtain ⟨e1, e2⟩ := List.cons.inj h1
  have hk' : k / 8 < s.size := by omega
  refine ⟨hk', ?_, ⟨e2, by omega⟩⟩
  have e3 := u8_get (tx s) k (by rw [tx_len]; omega)
  have e4 : (tb s)[k]? = some b := by rw [List.getElem?_eq_getElem hk, e1]
  have e5 : (tx s).getD (k / 8) 0 = (s[k / 8]'hk').toNat := by
    unfold tx
    rw [List.getD_eq_getElem?_getD, List.getElem?_map, Array.getElem?_toList, Array.getElem?_eq_getElem (show k / 8 < s.data.size from hk')]
    rfl
  rw [show (tb s)[k]? = _ from e3, e5] at e4
  exact Option.some.inj e4
/-- A reader's text and place. -/
structure Rt (w : World) (p : Nat) (s : ByteArray) (k : Nat) : Prop where
  lt : p < w.heap.size
  c0 : w.cell? ⟨p, 0, none⟩ = some (.string s)
  c1 : w.cell? ⟨p, 1, none⟩ = some (.int .i64 (k : Int))
  f1 : w.frozen? ⟨p, 1, none⟩ = false
/-- What a reader's method keeps: all but the place. -/
structure TK (w : World) (p : Nat) (w' : World) : Prop where
  bel : Below p w w'
  blk : ∀ b, b < w.heap.size → b ≠ p → w'.heap[b]? = w.heap[b]?
theorem TK.refl (w : World) (p : Nat) : TK w p w := ⟨Below.refl _ _, fun _ _ _ => rfl⟩
theorem TK.trans {w w1 w2 : World} {p : Nat} (h : TK w p w1) (h2 : TK w1 p w2) : TK w p w2 :=
  ⟨h.bel.trans h2.bel, fun b b1 b2 => (h2.blk b (Nat.lt_of_lt_of_le b1 h.bel.size) b2).trans (h.blk b b1 b2)⟩
theorem TK.below {w w' : World} {p : Nat} (hb : Below w.heap.size w w') (hp : p < w.heap.size) : TK w p w' :=
  ⟨hb.mono (by omega), fun b b1 _ => hb.block b b1⟩
theorem TK.set (w : World) (p : Nat) (v : Value) : TK w p (w.setCell ⟨p, 1, none⟩ v) :=
  ⟨(Below.refl p w).setCell (p := ⟨p, 1, none⟩) (Nat.le_refl _) _, fun b _ b2 => Below.heap_setCell _ _ _ _ (by show b ≠ p; exact b2)⟩
theorem Rt.step {w w' : World} {p k : Nat} {s : ByteArray} (h : Rt w p s k) (hb : Below w.heap.size w w') : Rt w' p s k :=
  ⟨Nat.lt_of_lt_of_le h.lt hb.size, keepC hb h.lt h.c0, keepC hb h.lt h.c1, (World.frozen?_of_block (w := w) (w' := w') (a := ⟨p, 1, none⟩) (hb.block p h.lt)).trans h.f1⟩
theorem Rt.set {w : World} {p k : Nat} {s : ByteArray} (h : Rt w p s k) (j : Nat) : Rt (w.setCell ⟨p, 1, none⟩ (.int .i64 (j : Int))) p s j :=
  ⟨by simpa [World.setCell] using h.lt, (World.cell?_setCell_other _ _ _ _ (by intro e; cases e)).trans h.c0, World.cell?_setCell_same' _ _ _ (by rw [h.c1]; rfl), (World.frozen?_setCell _ _ _ _).trans h.f1⟩
/-- A reader went on: where it stands is what is left. -/
structure Rd (w w' : World) (p : Nat) (s : ByteArray) (r : List Nat) : Prop where
  at' : ∃ j, Rt w' p s j ∧ At s j r
  tk : TK w p w'
theorem Rd.trans {w w1 w2 : World} {p : Nat} {s : ByteArray} {r r2 : List Nat} (h : Rd w w1 p s r) (h2 : Rd w1 w2 p s r2) : Rd w w2 p s r2 := ⟨h2.at', h.tk.trans h2.tk⟩
set_option maxRecDepth 20000 in
set_option maxHeartbeats 4000000 in
theorem rbit_none (p k : Nat) (s : ByteArray) (w : World) (hR : Rt w p s k) (ha : At s k []) (hs : s.size ≤ 140737488355328) :
    Calls Try.prog 60 #[.pointer (some ⟨p, 0, none⟩)] w fun e w' => e = .returned (.tuple #[.int .i64 0, .bool false]) ∧ Rd w w' p s [] := by
  have c0 := hR.c0
  have c1 := hR.c1
  have lt := hR.lt
  have HR : Hid (Rt w p s k ∧ At s k []) := ⟨hR, ha⟩
  have hk := ha.nil
  have hd : Int.tdiv (k : Int) 8 = (s.size : Int) := by rw [Int.tdiv_eq_ediv_of_nonneg (by omega)]; omega
  have hd2 : (k : Int) / 8 = (s.size : Int) := by omega
  have w1 : IntKind.i64.wrap (s.size : Int) = (s.size : Int) := wid (by omega) (by omega)
  have hk0 : k ≤ 1125899906842624 := by omega
  clear hR ha hk
  go_enter Try.func60, Try.ntmps60
  go_wp2_with fail
  go_quiet (fail)
  go_wp2_with fail
  go_returns
  have bd : Below w.heap.size w (w.drewN nq) := below_drewN (Below.refl _ _) _
  exact ⟨rfl, ⟨k, HR.out.1.step bd, HR.out.2⟩, TK.below bd lt⟩
set_option maxRecDepth 20000 in
set_option maxHeartbeats 4000000 in
theorem rbit_some (p k b : Nat) (t : List Nat) (s : ByteArray) (w : World) (hR : Rt w p s k) (ha : At s k (b :: t)) (hs : s.size ≤ 140737488355328) :
    Calls Try.prog 60 #[.pointer (some ⟨p, 0, none⟩)] w fun e w' => e = .returned (.tuple #[.int .i64 (b : Int), .bool true]) ∧ Rd w w' p s t := by
  have c0 := hR.c0
  have c1 := hR.c1
  have f1 := hR.f1
  have lt := hR.lt
  have HR : Hid (Rt w p s k) := hR
  obtain ⟨hk, e1, ha2⟩ := ha.cons
  have HA : Hid (At s (k + 1) t) := ha2
  have hkb : k < 8 * s.size := by omega
  generalize hq : k / 8 = q at hk e1
  have hd2 : (k : Int) / 8 = (q : Int) := by omega
  obtain ⟨j, hj⟩ : ∃ j, j = 7 - k % 8 := ⟨_, rfl⟩
  rw [← hj] at e1
  have hj7 : j ≤ 7 := by omega
  have hwj : IntKind.i64.wrap (7 - (k : Int) % 8) = (j : Int) := by rw [wid (by omega) (by omega)]; omega
  have hwj2 : (7 : Int) - (k : Int) % 8 = (j : Int) := by omega
  have w4 : IntKind.i64.wrap ((k : Int) + 1) = (k : Int) + 1 := wid (by omega) (by omega)
  have hk0 : k ≤ 1125899906842624 := by omega
  clear hq hj hkb
  clear hR ha ha2
  go_enter Try.func60, Try.ntmps60
  go_wp2_with fail
  go_quiet (fail)
  go_wp2_with fail
  go_quiet (fail)
  go_wp2_with fail
  have hy : (s[q]'hk).toNat < 256 := UInt8.toNat_lt _
  have ev : bits .and .i64 (wrap64 (((s[q]'hk).toNat : Nat) : Int) / 2 ^ j) 1 = (b : Int) := by
    have h1 : wrap64 (((s[q]'hk).toNat : Nat) : Int) = (((s[q]'hk).toNat : Nat) : Int) := by unfold wrap64; omega
    have h2 := and1 ((s[q]'hk).toNat / 2 ^ j)
    rw [e1] at h2
    rw [h1, ← h2]; push_cast; rfl
  rw [ev]
  have bd : ∀ N, Below w.heap.size w (w.drewN N) := fun N => below_drewN (Below.refl _ _) _
  have hRR := fun N => (HR.out.step (bd N)).set (k + 1)
  have hTT := fun N => (TK.below (bd N) lt).trans (TK.set _ p (.int .i64 ((k + 1 : Nat) : Int)))
  clear c0 c1 f1 ev
  go_returns
  exact ⟨rfl, ⟨k + 1, hRR _, HA.out⟩, hTT _⟩
theorem va_take (r : List Nat) (j b : Nat) (t : List Nat) (h : r.drop j = b :: t) : va (r.take (j + 1)) = 2 * va (r.take j) + b := by
  have hb : r[j]? = some b := by
    have := List.getElem?_drop (xs := r) (i := j) (j := 0)
    rw [h] at this; simpa using this.symm
  rw [List.take_add_one, hb]
  exact va_snoc _ _
theorem drop_next {r : List Nat} {j b : Nat} {t : List Nat} (h : r.drop j = b :: t) : r.drop (j + 1) = t := by
  rw [← List.drop_drop, h]; rfl
set_option maxRecDepth 20000 in
set_option maxHeartbeats 4000000 in
theorem rnumber_any (p k n : Nat) (r : List Nat) (s : ByteArray) (w : World) (hR : Rt w p s k) (ha : At s k r) (hs : s.size ≤ 140737488355328) (hn : n ≤ 24) :
    Calls Try.prog 40 #[.pointer (some ⟨p, 0, none⟩), .int .i64 (n : Int)] w fun e w' => e = .returned (.tuple #[.int .i64 (((rn n r).2.1 : Nat) : Int), .bool (rn n r).1]) ∧ Rd w w' p s (rn n r).2.2 := by
  have hbits := ha.bits
  have HB : Hid (bits2 r) := hbits
  have H0 : Hid (Rd w w p s r) := ⟨⟨k, hR, ha⟩, TK.refl _ _⟩
  obtain ⟨R, hR0⟩ : ∃ R, R = rn n r := ⟨_, rfl⟩
  rw [← hR0]
  have HR0 : Hid (R = rn n r) := hR0
  clear hbits hR ha hR0
  go_enter Try.func40, Try.ntmps40
  go_wp2_with fail
  go_loopw [10, 6] (fun i a wr => ∃ (j A : Nat), j ≤ n ∧ j ≤ r.length ∧ i = .int .i64 (j : Int) ∧ a = .int .i64 (A : Int) ∧ Hid (A = va (r.take j)) ∧ Hid (Rd w wr p s (r.drop j))) (fun i _ _ => n - (intOf i).toNat)
  case atStart => exact ⟨0, 0, by omega, by omega, rfl, rfl, rfl, H0⟩
  case round =>
    obtain ⟨j, A, hj, hjl, rfl, rfl, hA, hRd⟩ := hrel
    obtain ⟨kk, hRt, hAt⟩ := hRd.out.at'
    have HT : Hid (TK w p wr) := hRd.out.tk
    by_cases hlt : j < n
    · have hlt' : (j : Int) < (n : Int) := by omega
      have hAb : A < 16777216 := by
        rw [hA.out]
        have h1 := va_lt (r.take j) (HB.out.take j)
        have h2 : (r.take j).length ≤ 24 := by rw [List.length_take]; omega
        have h3 : 2 ^ (r.take j).length ≤ 2 ^ 24 := Nat.pow_le_pow_right (by omega) h2
        omega
      cases hc : r.drop j with
      | nil =>
        rw [hc] at hAt
        have hq := rbit_none p kk s wr hRt hAt hs
        have hlen : r.length ≤ j := by rw [List.drop_eq_nil_iff] at hc; exact hc
        have HR1 : Hid (R = (false, 0, [])) := by show _ = _; rw [HR0.out]; exact rn_no (by omega)
        clear hRt hAt hRd hc HR0 H0 HB hA
        go_wp2_with fail
        refine hq.mono ?_
        rintro e w3 ⟨rfl, hRd3⟩
        have HRd3 : Hid (Rd wr w3 p s []) := hRd3
        clear hq hRd3
        go_wp2_with fail
        go_returns
        exact ⟨by rw [HR1.out]; rfl, by rw [HR1.out]; exact ⟨HRd3.out.at', HT.out.trans HRd3.out.tk⟩⟩
      | cons b t =>
        have hv := va_take r j b t hc
        have hd := drop_next hc
        have hjl2 : j + 1 ≤ r.length := by
          have := congrArg List.length hc
          rw [List.length_drop, List.length_cons] at this; omega
        rw [hc] at hAt
        have hb2 : b < 2 := hAt.bits b (List.mem_cons_self ..)
        have hq := rbit_some p kk b t s wr hRt hAt hs
        have HV : Hid (2 * A + b = va (r.take (j + 1))) := by show _ = _; rw [hv, hA.out]
        have HD : Hid (r.drop (j + 1) = t) := hd
        have w1 : IntKind.i64.wrap (2 * (A : Int)) = 2 * (A : Int) := wid (by omega) (by omega)
        have w2 : IntKind.i64.wrap (2 * (A : Int) + (b : Int)) = 2 * (A : Int) + (b : Int) := wid (by omega) (by omega)
        have w3 : IntKind.i64.wrap ((j : Int) + 1) = (j : Int) + 1 := wid (by omega) (by omega)
        clear hRt hAt hRd hc H0 HB hA hv hd HR0
        go_wp2_with fail
        refine hq.mono ?_
        rintro e w3 ⟨rfl, hRd3⟩
        have HRd3 : Hid (Rd w w3 p s (r.drop (j + 1))) := by
          show Rd _ _ _ _ _
          rw [HD.out]; exact ⟨hRd3.at', HT.out.trans hRd3.tk⟩
        clear hq hRd3
        go_wp2_with fail
        go_roundw
        case rel => exact ⟨j + 1, 2 * A + b, by omega, hjl2, by go_num, by go_num, HV, HRd3⟩
        case measure => simp [intOf]; omega
    · obtain rfl : j = n := by omega
      have hlt' : ¬ (j : Int) < (j : Int) := by omega
      have HR1 : Hid (R = (true, A, r.drop j)) := by show _ = _; rw [HR0.out, rn_yes hjl, hA.out]
      clear HR0 hA hRt hAt
      go_wp2_with fail
      go_returns
      exact ⟨by rw [HR1.out]; rfl, by rw [HR1.out]; exact hRd.out⟩
end Go.Proofs.Ytdlcnbfiklbiiaa.Co
