/- What the program's cutting of an interval's letters comes to, at a text of plain signs. -/
import Derived.Test.YtmccbokjigjpnaaDoorQT7
namespace Go.Proofs.YtmccbokjigjpnaaDoor
open Go.RowKit Go.Lib Go.Joins
set_option linter.unusedSimpArgs false
set_option linter.unusedVariables false

namespace M
def nl (r : Nat) : Bool := !(decide (0 ≤ Lib.indexByte [80, 77, 109, 65, 100] r.toUInt8))
end M

theorem notLetter_any (r : Nat) (w : World) (hr : r < 128) :
    Calls Tryd.prog 69 #[.int .i32 r] w fun e w' => e = .returned (.bool (M.nl r)) ∧ w' = w := by
  go_enter Tryd.func69, Tryd.ntmps69
  go_wp2_with (go_at_call 70; refine (Tryd.strings_ContainsRune_ascii _ _ _ (by omega) (by omega)).mono ?_; rintro e w' ⟨rfl, hw⟩; rw [hw])
  go_ret
  exact ⟨ret_bool (by simp [M.nl]), rfl⟩

theorem idx_end (s : ByteArray) (b pos : Nat) (h : ¬ pos < s.size) : Lib.idxFuncFrom M.nl true s b pos = -1 := Lib.idxFuncFrom_end _ _ _ _ _ h

set_option maxRecDepth 100000 in
set_option maxHeartbeats 1000000 in
theorem indexFunc_plain (s : ByteArray) (w : World) (ha : ∀ i (h : i < s.size), (s[i]'h).toNat < 128) :
    Calls Tryd.prog 80 #[.string s, .func (.func 69) #[] #[], .bool true] w fun e w' => e = .returned (.int .i64 (Lib.idxFunc M.nl true s)) ∧ Below w.heap.size w w' := by
  have eg : ∀ args w, (callFunc 69 args).run Tryd.prog w = .ok (.enter 69 args) w := fun args w => by kernel_rfl
  go_enter Tryd.func80, Tryd.ntmps80
  go_wp2_with fail
  go_loopw [] (fun w' => ∃ (pos b : Nat), w' = w.iter s pos ∧ Hid (Lib.idxFuncFrom M.nl true s b pos = Lib.idxFunc M.nl true s) ∧ s.size ≤ pos + b) (fun w' => s.size - w'.iterPos w.heap.size)
  case atStart => exact ⟨0, s.size, rfl, rfl, by omega⟩
  case round =>
    obtain ⟨pos, b, rfl, hc, hb⟩ := hrel
    by_cases hq : pos < s.size
    · have hnx : ∀ ty, (Instr.next (.pointer (some ⟨w.heap.size, 0, none⟩)) true ty).run Tryd.prog (w.iter s pos) = _ := fun ty => run_next_ascii w s pos ty hq (ha pos hq)
      obtain ⟨b, rfl⟩ : ∃ b', b = b' + 1 := ⟨b - 1, by omega⟩
      have hd := decode_ascii s pos hq (ha pos hq)
      cases hn : M.nl (s[pos]'hq).toNat
      · have HC : Hid (Lib.idxFuncFrom M.nl true s b (pos + 1) = Lib.idxFunc M.nl true s) := by
          show _ = _; rw [← hc.out]; simp [Lib.idxFuncFrom, hq, hd, hn]
        clear hc
        go_wp2_with (go_at_call 69; refine (notLetter_any _ _ (ha pos hq)).mono ?_; rintro e w' ⟨rfl, hw⟩; rw [hw, hn])
        go_roundw
        case rel => exact ⟨pos + 1, b, rfl, HC, by omega⟩
        case measure =>
          simp
          omega
      · have HC : Hid (Lib.idxFunc M.nl true s = (pos : Int)) := by
          show _ = _; rw [← hc.out]; simp [Lib.idxFuncFrom, hq, hd, hn]
        clear hc
        go_wp2_with (go_at_call 69; refine (notLetter_any _ _ (ha pos hq)).mono ?_; rintro e w' ⟨rfl, hw⟩; rw [hw, hn])
        go_ret
        exact ⟨ret_int HC.out.symm, iter_below w s _⟩
    · have hnx : ∀ ty, (Instr.next (.pointer (some ⟨w.heap.size, 0, none⟩)) true ty).run Tryd.prog (w.iter s pos) = _ := fun ty => run_next_end w s pos ty hq
      have HC : Hid (Lib.idxFunc M.nl true s = -1) := by show _ = _; rw [← hc.out, idx_end s b pos hq]
      clear hc
      go_wp2_with fail
      go_ret
      exact ⟨ret_int HC.out.symm, iter_below w s _⟩

theorem IndexFunc_plain (s : ByteArray) (w : World) (ha : ∀ i (h : i < s.size), (s[i]'h).toNat < 128) :
    Calls Tryd.prog 68 #[.string s, .func (.func 69) #[] #[]] w fun e w' => e = .returned (.int .i64 (Lib.idxFunc M.nl true s)) ∧ Below w.heap.size w w' := by
  go_enter Tryd.func68, Tryd.ntmps68
  go_wp2_with fail
  refine (indexFunc_plain s _ ha).mono ?_
  rintro e w1 ⟨rfl, hb1⟩
  go_wp2_with fail
  go_ret
  exact ⟨rfl, hb1⟩

/-- Letters and what is behind them. -/
theorem cutQuality_ok (s q r : ByteArray) (k : Nat) (w : World) (ha : ∀ i (h : i < s.size), (s[i]'h).toNat < 128) (hi : Lib.idxFunc M.nl true s = (k : Int)) (hk : k ≤ s.size) (hs : s.size ≤ 1000) (hq : s.extract 0 k = q) (hr : s.extract k s.size = r) :
    Calls Tryd.prog 50 #[.string s] w fun e w' => e = .returned (.tuple #[.string q, .string r]) ∧ Below w.heap.size w w' := by
  have h1 : (0 : Int) ≤ k := by omega
  have h2 : (k : Int) ≤ s.size := by omega
  go_enter Tryd.func50, Tryd.ntmps50
  go_wp2_with fail
  refine (IndexFunc_plain s _ ha).mono ?_
  rintro e w1 ⟨rfl, hb1⟩
  rw [hi]
  go_wp2_with fail
  go_region
  go_wp2
  go_returns
  exact ⟨by first | rfl | simp [hq, hr], hb1.drew⟩

set_option maxHeartbeats 1000000 in
theorem sized_ok (q : ByteArray) (c : UInt8) (n s : Int) (w : World) (ht : Tab w) (h0 : 0 < q.size) (hc : q[0]'h0 = c) (hn : (q.size : Int) = n) (hn2 : n ≤ 6) (h1 : 0 ≤ s) (h2 : s ≤ 1000)
    (H : Int) (hH : H = if c = 65 then M.wh s + n else if c = 109 then M.wh s - 1 else if c = 100 then (if M.pf s = true then M.wh s - n else M.wh s - n - 1) else M.wh s) :
    Calls Tryd.prog 51 #[.string q, .int .i64 s] w fun e w' => e = .returned (.agg #[.int .i64 s, .int .i64 H]) ∧ Below w.heap.size w w' := by
  have hwb := M.wh_bd s
  have hcn : (((q[0]'h0).toNat : Nat) : Int) = (c.toNat : Int) := by rw [hc]
  have hz : (q.size : Int) ≤ 6 := by omega
  have hz1 : (1 : Int) ≤ q.size := by omega
  have go : ∀ (W : World), Tab W → Calls Tryd.prog 53 #[.int .i64 s] W fun e w' => e = .returned (.int .i64 (M.wh s)) ∧ Below W.heap.size W w' := fun W hT => plainSize_any s W hT (by omega) (by omega)
  by_cases c1 : c = 65
  · have e1 : H = M.wh s + n := by rw [hH, if_pos c1]
    clear hH
    rw [e1]
    go_enter Tryd.func51, Tryd.ntmps51
    go_wp2_with fail
    refine (go _ (ht.step (by go_grown))).mono ?_
    rintro e w1 ⟨rfl, hb1⟩
    have z1 := hb1.size
    simp at z1
    have p0 : w1.cell? ⟨w.heap.size, 0, none⟩ = some (.int .i64 0) := keepC hb1 (by simp) (by simp [go_sem])
    have p1 : w1.cell? ⟨w.heap.size, 1, none⟩ = some (.int .i64 0) := keepC hb1 (by simp) (by simp [go_sem])
    have f0 : w1.frozen? ⟨w.heap.size, 0, none⟩ = false := keepF hb1 (by simp) (by simp [go_sem])
    have f1 : w1.frozen? ⟨w.heap.size, 1, none⟩ = false := keepF hb1 (by simp) (by simp [go_sem])
    have hb01 : Below w.heap.size w w1 := Below.trans (by go_grown) (hb1.mono (by simp))
    go_wp2_with fail
    refine bodyPost_ret (v := .agg #[.int .i64 s, .int .i64 (M.wh s + n)]) (by simp [results, Tryd.results51, go_sem, p0, p1]) rfl ⟨rfl, ?_⟩
    exact (hb01.setCell (by simp) _).setCell (by simp) _
  by_cases c2 : c = 109
  · have e1 : H = M.wh s - 1 := by rw [hH, if_neg c1, if_pos c2]
    clear hH c1
    rw [e1]
    go_enter Tryd.func51, Tryd.ntmps51
    go_wp2_with fail
    refine (go _ (ht.step (by go_grown))).mono ?_
    rintro e w1 ⟨rfl, hb1⟩
    have z1 := hb1.size
    simp at z1
    have p0 : w1.cell? ⟨w.heap.size, 0, none⟩ = some (.int .i64 0) := keepC hb1 (by simp) (by simp [go_sem])
    have p1 : w1.cell? ⟨w.heap.size, 1, none⟩ = some (.int .i64 0) := keepC hb1 (by simp) (by simp [go_sem])
    have f0 : w1.frozen? ⟨w.heap.size, 0, none⟩ = false := keepF hb1 (by simp) (by simp [go_sem])
    have f1 : w1.frozen? ⟨w.heap.size, 1, none⟩ = false := keepF hb1 (by simp) (by simp [go_sem])
    have hb01 : Below w.heap.size w w1 := Below.trans (by go_grown) (hb1.mono (by simp))
    go_wp2_with fail
    refine bodyPost_ret (v := .agg #[.int .i64 s, .int .i64 (M.wh s - 1)]) (by simp [results, Tryd.results51, go_sem, p0, p1]) rfl ⟨rfl, ?_⟩
    exact (hb01.setCell (by simp) _).setCell (by simp) _
  by_cases c3 : c = 100
  · cases hp : M.pf s
    · have e1 : H = M.wh s - n - 1 := by rw [hH, if_neg c1, if_neg c2, if_pos c3, if_neg (by rw [hp]; decide)]
      clear hH c1 c2
      rw [e1]
      go_enter Tryd.func51, Tryd.ntmps51
      go_wp2_with fail
      refine (go _ (ht.step (by go_grown))).mono ?_
      rintro e w1 ⟨rfl, hb1⟩
      have z1 := hb1.size
      simp at z1
      have p0 : w1.cell? ⟨w.heap.size, 0, none⟩ = some (.int .i64 0) := keepC hb1 (by simp) (by simp [go_sem])
      have p1 : w1.cell? ⟨w.heap.size, 1, none⟩ = some (.int .i64 0) := keepC hb1 (by simp) (by simp [go_sem])
      have f0 : w1.frozen? ⟨w.heap.size, 0, none⟩ = false := keepF hb1 (by simp) (by simp [go_sem])
      have f1 : w1.frozen? ⟨w.heap.size, 1, none⟩ = false := keepF hb1 (by simp) (by simp [go_sem])
      have hb01 : Below w.heap.size w w1 := Below.trans (by go_grown) (hb1.mono (by simp))
      go_wp2_with (go_at_call 54; refine (isPerfect_any _ _ (by omega) (by omega)).mono ?_; rintro e w' ⟨rfl, hw⟩; rw [hw, hp])
      refine bodyPost_ret (v := .agg #[.int .i64 s, .int .i64 (M.wh s - n - 1)]) (by simp [results, Tryd.results51, go_sem, p0, p1]) rfl ⟨rfl, ?_⟩
      exact (hb01.setCell (by simp) _).setCell (by simp) _
    · have e1 : H = M.wh s - n := by rw [hH, if_neg c1, if_neg c2, if_pos c3, if_pos hp]
      clear hH c1 c2
      rw [e1]
      go_enter Tryd.func51, Tryd.ntmps51
      go_wp2_with fail
      refine (go _ (ht.step (by go_grown))).mono ?_
      rintro e w1 ⟨rfl, hb1⟩
      have z1 := hb1.size
      simp at z1
      have p0 : w1.cell? ⟨w.heap.size, 0, none⟩ = some (.int .i64 0) := keepC hb1 (by simp) (by simp [go_sem])
      have p1 : w1.cell? ⟨w.heap.size, 1, none⟩ = some (.int .i64 0) := keepC hb1 (by simp) (by simp [go_sem])
      have f0 : w1.frozen? ⟨w.heap.size, 0, none⟩ = false := keepF hb1 (by simp) (by simp [go_sem])
      have f1 : w1.frozen? ⟨w.heap.size, 1, none⟩ = false := keepF hb1 (by simp) (by simp [go_sem])
      have hb01 : Below w.heap.size w w1 := Below.trans (by go_grown) (hb1.mono (by simp))
      go_wp2_with (go_at_call 54; refine (isPerfect_any _ _ (by omega) (by omega)).mono ?_; rintro e w' ⟨rfl, hw⟩; rw [hw, hp])
      refine bodyPost_ret (v := .agg #[.int .i64 s, .int .i64 (M.wh s - n)]) (by simp [results, Tryd.results51, go_sem, p0, p1]) rfl ⟨rfl, ?_⟩
      exact (hb01.setCell (by simp) _).setCell (by simp) _
  have e1 : H = M.wh s := by rw [hH, if_neg c1, if_neg c2, if_neg c3]
  have b1 : ((c.toNat : Int) == 65) = false := by
    rw [beq_eq_false_iff_ne]; intro hx; exact c1 (UInt8.toNat_inj.1 (by have : c.toNat = 65 := by omega
                                                                        rw [this]; rfl))
  have b2 : ((c.toNat : Int) == 109) = false := by
    rw [beq_eq_false_iff_ne]; intro hx; exact c2 (UInt8.toNat_inj.1 (by have : c.toNat = 109 := by omega
                                                                        rw [this]; rfl))
  have b3 : ((c.toNat : Int) == 100) = false := by
    rw [beq_eq_false_iff_ne]; intro hx; exact c3 (UInt8.toNat_inj.1 (by have : c.toNat = 100 := by omega
                                                                        rw [this]; rfl))
  clear hH c1 c2 c3
  rw [e1]
  go_enter Tryd.func51, Tryd.ntmps51
  go_wp2_with fail
  refine (go _ (ht.step (by go_grown))).mono ?_
  rintro e w1 ⟨rfl, hb1⟩
  have z1 := hb1.size
  simp at z1
  have p0 : w1.cell? ⟨w.heap.size, 0, none⟩ = some (.int .i64 0) := keepC hb1 (by simp) (by simp [go_sem])
  have p1 : w1.cell? ⟨w.heap.size, 1, none⟩ = some (.int .i64 0) := keepC hb1 (by simp) (by simp [go_sem])
  have f0 : w1.frozen? ⟨w.heap.size, 0, none⟩ = false := keepF hb1 (by simp) (by simp [go_sem])
  have f1 : w1.frozen? ⟨w.heap.size, 1, none⟩ = false := keepF hb1 (by simp) (by simp [go_sem])
  have hb01 : Below w.heap.size w w1 := Below.trans (by go_grown) (hb1.mono (by simp))
  go_wp2_with fail
  refine bodyPost_ret (v := .agg #[.int .i64 s, .int .i64 (M.wh s)]) (by simp [results, Tryd.results51, go_sem, p0, p1]) rfl ⟨rfl, ?_⟩
  exact (hb01.setCell (by simp) _).setCell (by simp) _
end Go.Proofs.YtmccbokjigjpnaaDoor
