/- What the document's Read comes to, where signs may stand. -/
import Derived.Test.YtmccbokjigjpnaaDoorQD13
namespace Go.Proofs.YtmccbokjigjpnaaDoor
open Go.RowKit
set_option linter.unusedVariables false
set_option linter.unusedSimpArgs false

/-- The block of the seven signs. -/
structure SgC (z g : Nat) (wr : World) : Prop where
  c : ∀ k, k < 7 → wr.cell? ⟨g, k, none⟩ = some (.string (M.TB k))
  lg : g < wr.heap.size
  zg : z + 2 < g
theorem SgC.below {z g : Nat} {wr W : World} (h : SgC z g wr) (hb : Below wr.heap.size wr W) : SgC z g W := by
  have z := h.lg; have z' := hb.size
  exact ⟨fun k hk => keepC hb z (h.c k hk), by omega, h.zg⟩
theorem SgC.put {z g i : Nat} {W : World} {v : Value} (h : SgC z g W) : SgC z g (W.setCell ⟨z + 2, i, none⟩ v) := by
  have hz := h.zg
  have hne : g ≠ z + 2 := by omega
  exact ⟨fun k hk => by simp [go_sem, h.c k hk, hne, Ne.symm hne], by simpa using h.lg, hz⟩
theorem va_is (k : Nat) (hk : k < 7) : (#[.int .i64 1, .int .i64 1, .int .i64 2, .int .i64 2, .int .i64 (-1), .int .i64 (-1), .int .i64 (-2)] : Array Value)[k]? = some (.int .i64 (M.V k)) := by
  rcases (show k = 0 ∨ k = 1 ∨ k = 2 ∨ k = 3 ∨ k = 4 ∨ k = 5 ∨ k = 6 by omega) with rfl | rfl | rfl | rfl | rfl | rfl | rfl <;> rfl
theorem v_is (k : Nat) (hk : k < 7) : M.V k = 1 ∨ M.V k = 2 ∨ M.V k = -1 ∨ M.V k = -2 := by
  rcases (show k = 0 ∨ k = 1 ∨ k = 2 ∨ k = 3 ∨ k = 4 ∨ k = 5 ∨ k = 6 by omega) with rfl | rfl | rfl | rfl | rfl | rfl | rfl <;> decide
/-- Where the document's loop is, in the program's words. -/
def M.SS (s : ByteArray) (pos : Nat) (a : Int) (ag : Bool) : Prop := (ag = true → ∃ b, M.sg (M.r1 s) = M.scan (M.r1 s) b pos a ∧ (M.r1 s).size ≤ pos + b) ∧ (ag = false → M.sg (M.r1 s) = (a, (pos : Int), 0))
/-- Where the round through the signs is. -/
def M.RS (s : ByteArray) (AT : Nat) (a : Int) (k AT3 : Nat) (a3 : Int) (ag : Bool) : Prop := (ag = false ∧ AT3 = AT ∧ a3 = a ∧ ∀ j, M.fs s AT = some j → k ≤ j) ∨ (ag = true ∧ ∃ j, M.fs s AT = some j ∧ j < k ∧ AT3 = AT + (M.TB j).size ∧ a3 = a + M.V j ∧ M.bad (a + M.V j) (M.V j) = false)
theorem M.rs_skip {s : ByteArray} {AT : Nat} {a : Int} {k AT3 : Nat} {a3 : Int} (h : M.RS s AT a k AT3 a3 true) : M.RS s AT a (k + 1) AT3 a3 true := by
  rcases h with ⟨h, _⟩ | ⟨_, j, h1, h2, h3⟩
  · cases h
  · exact .inr ⟨rfl, j, h1, by omega, h3⟩
theorem M.rs_no {s : ByteArray} {AT : Nat} {a : Int} {k AT3 : Nat} {a3 : Int} (h : M.RS s AT a k AT3 a3 false) : AT3 = AT ∧ a3 = a ∧ (M.fs s AT ≠ some k → M.RS s AT a (k + 1) AT3 a3 false ∧ (k < 7 → M.sts s AT (M.TB k) = false)) ∧ (M.fs s AT = some k → M.sts s AT (M.TB k) = true ∧ (M.bad (a + M.V k) (M.V k) = false → M.RS s AT a (k + 1) (AT + (M.TB k).size) (a + M.V k) true)) := by
  rcases h with ⟨_, h1, h2, h3⟩ | ⟨h, _⟩
  · refine ⟨h1, h2, fun hne => ⟨.inl ⟨rfl, h1, h2, fun j hj => ?_⟩, fun hk => ?_⟩, fun he => ⟨(M.fs_some s AT k he).1, fun hb => .inr ⟨rfl, k, he, by omega, rfl, rfl, hb⟩⟩⟩
    · have := h3 j hj
      by_cases e : k = j
      · subst e; exact absurd hj hne
      · omega
    · cases hf : M.fs s AT with
      | none => exact M.fs_none s AT hf k hk
      | some j =>
        have := h3 j hf
        have : j ≠ k := fun e => hne (by rw [hf, e])
        exact (M.fs_some s AT j hf).2 k (by omega)
  · cases h

set_option maxRecDepth 100000 in
set_option maxHeartbeats 8000000 in
theorem refRead_signs (s : ByteArray) (w : World) (hs : s.size ≤ 140737488355328) (hx : ¬ M.ix s < 0) (hp : Lib.hasPrefix (M.r1 s).data.toList [226, 153, 174] = false) : Calls Tryd.prog 22 #[.string s] w fun e w' => RdQ (M.rd s) w e w' := by
  have HL : Hid (∀ k : Nat, k < 7 → M.sts s 0 ⟨(M.lt' k).toArray⟩ = decide (M.ix s = k)) := M.lt_sts s
  have hxb := M.ix_bd s
  have Hpos : Hid (0 ≤ M.ix s → 1 ≤ s.size) := M.ix_pos s
  have HX : Hid (M.lk (M.ix s) 0 = -1 ∧ M.lk (M.ix s) 7 = M.ix s) := ⟨by unfold M.lk; rw [if_neg (by omega)], M.lk_end _ hxb.1 hxb.2⟩
  have I0 : RdI w (M.lk (M.ix s) 0) 0 (((w.alloc (Obj.cells #[.int .i64 0, .int .i64 0, .int .i64 0] 23)).alloc (Obj.cells #[.int .i64 0, .int .i64 0] 41)).alloc (Obj.cells #[.int .i64 (-1), .int .i64 0, .int .i64 0] 23)) := by
    rw [HX.out.1]
    exact ⟨by go_grown, by simp [go_sem], by simp [go_sem], by simp [go_sem], by simp [go_sem], by simp [go_sem], by simp [go_sem], by simp [go_sem], by simp [go_sem], by simp [go_sem], by simp [go_sem], by simp [go_sem], by simp [go_sem], by simp [go_sem], by simp [go_sem], by simp [go_sem], by simp [go_sem], by simp⟩
  generalize hlx : M.ix s = lx at *
  go_enter Tryd.func22, Tryd.ntmps22
  go_wp2_with fail
  go_loopw [5] (fun i wr => ∃ k : Nat, i = .int .i64 k ∧ k ≤ 7 ∧ RdI w (M.lk lx k) 0 wr) (fun i _ => 7 - (intOf i).toNat)
  case atStart => exact ⟨0, rfl, by omega, I0⟩
  case round =>
    obtain ⟨k, rfl, hk, hI⟩ := hrel
    have lz := hI.lz
    by_cases hlt : k < 7
    · obtain ⟨LT, hLT, hLz, hLs⟩ : ∃ LT : ByteArray, (∀ X, Calls Tryd.prog 36 #[.int .i64 k] X fun e w' => e = .returned (.string LT) ∧ Below X.heap.size X w') ∧ LT.size ≤ 1 ∧ M.sts s 0 LT = decide (lx = k) := ⟨_, fun X => Letter_any k X (by omega) (by omega), lt_size k, HL.out k hlt⟩
      have hst : ∀ X, Calls Tryd.prog 47 #[.string s, .int .i64 0, .string LT] X fun e w' => e = .returned (.bool (M.sts s 0 LT)) ∧ w' = X := fun X => starts_any s LT 0 X hs (by omega) (by omega)
      rw [hLs] at hst
      by_cases c : lx = k
      · have hm := M.lk_hit lx k c
        rw [decide_eq_true c] at hst
        have HM : Hid (M.lk lx (k + 1) = k) := hm
        clear hm hLs HL
        go_wp2_with fail
        refine (hLT _).mono ?_
        rintro e w2 ⟨rfl, hb2⟩
        have hI2 := hI.below hb2
        have p0 := hI2.p0
        have h0 := hI2.h0
        have l2 := hI2.lz
        go_wp2_with (go_at_call 47; refine (hst _).mono ?_; rintro e w' ⟨rfl, hw⟩; rw [hw])
        go_roundw
        case rel => exact ⟨k + 1, by go_num, by omega, by rw [HM.out]; exact hI2.put0⟩
        case measure => simp [intOf]; omega
      · have hm := M.lk_miss lx k c
        rw [decide_eq_false c] at hst
        have HM : Hid (M.lk lx (k + 1) = M.lk lx k) := hm
        clear hm hLs HL
        go_wp2_with fail
        refine (hLT _).mono ?_
        rintro e w2 ⟨rfl, hb2⟩
        have hI2 := hI.below hb2
        go_wp2_with (go_at_call 47; refine (hst _).mono ?_; rintro e w' ⟨rfl, hw⟩; rw [hw])
        go_roundw
        case rel => exact ⟨k + 1, by go_num, by omega, by rw [HM.out]; exact hI2⟩
        case measure => simp [intOf]; omega
    · obtain rfl : k = 7 := by omega
      rw [HX.out.2] at hI
      have p0 := hI.p0
      have hst : ∀ X, Calls Tryd.prog 47 #[.string s, .int .i64 1, .string ⟨#[226, 153, 174]⟩] X fun e w' => e = .returned (.bool (M.sts s 1 ⟨#[226, 153, 174]⟩)) ∧ w' = X := fun X => starts_any s ⟨#[226, 153, 174]⟩ 1 X hs (by decide) (by omega)
      have hs1 := Hpos.out (by omega)
      rw [M.nat_is s hs1, hp] at hst
      have hsz := M.r1_size s
      have HG0 : Hid (M.SS s 0 0 true) := ⟨fun _ => ⟨(M.r1 s).size, by unfold M.sg; rw [if_neg (by rw [hp]; decide)], by omega⟩, fun h => by cases h⟩
      have hxn : ¬ lx < 0 := by omega
      have Hx : Hid (0 ≤ M.ix s) := by show 0 ≤ _; rw [hlx]; omega
      have Hlx : Hid (M.ix s = lx) := hlx
      clear HL Hpos HX hp hx hlx
      go_wp2_with (go_at_call 47; refine (hst _).mono ?_; rintro e w' ⟨rfl, hw⟩; rw [hw])
      obtain ⟨w1, hw1⟩ : ∃ x, x = wr := ⟨wr, rfl⟩
      subst hw1
      go_loopw [6, 7] (fun x y wr => ∃ (AT pos : Nat) (a : Int) (ag : Bool), x = .int .i64 AT ∧ y = .bool ag ∧ RdI w lx a wr ∧ Hid (AT = 1 + pos) ∧ AT ≤ s.size ∧ -3 ≤ a ∧ a ≤ 3 ∧ Hid (M.SS s pos a ag)) (fun x y _ => match y with | .bool true => s.size + 2 - (intOf x).toNat | _ => 0)
      case atStart => exact ⟨1, 0, 0, true, rfl, rfl, hI, rfl, by omega, by omega, by omega, HG0⟩
      case round =>
        clear hI p0 hst
        obtain ⟨AT, pos, a, ag, rfl, rfl, hI, hAT, hATs, w1, w2, HG⟩ := hrel
        cases ag
        · have hG : Hid (M.sg (M.r1 s) = (a, (pos : Int), 0)) := HG.out.2 rfl
          clear HG HG0
          have hat : Hid (s.extract AT s.size = M.r2 s) := by
            show _ = _
            unfold M.r2 M.at'; rw [hG.out]; (first | (congr 1; done) | (congr 1; have := hAT.out; simp only; omega))
          have hNum := fun X => Number_any (M.r2 s) X (by have := (show (M.r2 s).size ≤ s.size by unfold M.r2; rw [ByteArray.size_extract]; omega); omega)
          have k0 : (0 : Int) ≤ (AT : Nat) := by omega
          have k1 : ((AT : Nat) : Int) ≤ s.size := by omega
          have hatN := hat.out
          cases hn : M.isN (M.r2 s)
          · have HE : Hid (M.rd s = (0, 0, 0, 2, (AT : Int))) := by have hq := M.rd_number s (Int.not_lt.2 Hx.out) a (pos : Int) hG.out hn; rw [show (1 : Int) + (pos : Int) = (AT : Int) by have := hAT.out; omega] at hq; exact hq
            rw [hn] at hNum
            replace hNum : ∀ X, Calls Tryd.prog 48 #[.string (M.r2 s)] X fun e w' => e = .returned (.tuple #[.int .i64 0, .bool false]) ∧ w' = X := hNum
            clear hn hG hat
            generalize M.r2 s = R2 at *
            have r0 := hI.r0
            have r1 := hI.r1
            have r2 := hI.r2
            have q0 := hI.q0
            have q1 := hI.q1
            have f0 := hI.f0
            have f1 := hI.f1
            have f2 := hI.f2
            have g0 := hI.g0
            have g1 := hI.g1
            have p0 := hI.p0
            have p1 := hI.p1
            have p2 := hI.p2
            have h0 := hI.h0
            have h1 := hI.h1
            have h2 := hI.h2
            have lz := hI.lz
            have lz0 := Nat.lt_of_succ_lt (Nat.lt_of_succ_lt lz)
            have lz1 := Nat.lt_of_succ_lt lz
            have lz2 := Nat.lt_of_succ_le (Nat.succ_le_of_lt lz)
            go_wp2_with (go_at_call 48; (try rw [hatN]); refine (hNum _).mono ?_; rintro e w' ⟨rfl, hw⟩; rw [hw])
            refine bodyPost_ret (v := .tuple #[.agg #[.int .i64 0, .int .i64 0, .int .i64 0], .agg #[.int .i64 2, .int .i64 (AT : Int)]]) (by simp [results, Tryd.results22, go_sem, r0, r1, r2, q0, q1]) rfl ?_
            rw [HE.out]
            exact ⟨rfl, ((((hI.b.setCell (by simp) _).setCell (by simp) _).setCell (by simp) _).setCell (by simp) _).setCell (by simp) _⟩
          · cases ho : M.wi (M.valN (M.r2 s)) 12
            · have HE : Hid (M.rd s = (0, 0, 0, 3, (AT : Int))) := by have hq := M.rd_octave s (Int.not_lt.2 Hx.out) a (pos : Int) hG.out hn ho; rw [show (1 : Int) + (pos : Int) = (AT : Int) by have := hAT.out; omega] at hq; exact hq
              have hRt := fun X => refRight_any lx a (M.valN (M.r2 s)) X (by omega) (by omega)
              rw [rt_wi lx a (M.valN (M.r2 s)) (by omega) (by omega) (by omega) (by omega), ho] at hRt
              rw [hn] at hNum
              replace hNum : ∀ X, Calls Tryd.prog 48 #[.string (M.r2 s)] X fun e w' => e = .returned (.tuple #[.int .i64 (M.valN (M.r2 s)), .bool true]) ∧ w' = X := hNum
              clear hn hG ho hat
              generalize M.valN (M.r2 s) = N at *
              generalize M.r2 s = R2 at *
              have r0 := hI.r0
              have r1 := hI.r1
              have r2 := hI.r2
              have q0 := hI.q0
              have q1 := hI.q1
              have f0 := hI.f0
              have f1 := hI.f1
              have f2 := hI.f2
              have g0 := hI.g0
              have g1 := hI.g1
              have p0 := hI.p0
              have p1 := hI.p1
              have p2 := hI.p2
              have h0 := hI.h0
              have h1 := hI.h1
              have h2 := hI.h2
              have lz := hI.lz
              have lz0 := Nat.lt_of_succ_lt (Nat.lt_of_succ_lt lz)
              have lz1 := Nat.lt_of_succ_lt lz
              have lz2 := Nat.lt_of_succ_le (Nat.succ_le_of_lt lz)
              go_wp2_with (go_at_call 48; (try rw [hatN]); refine (hNum _).mono ?_; rintro e w' ⟨rfl, hw⟩; rw [hw])
              refine (hRt _).mono ?_
              rintro e w9 ⟨rfl, hb9⟩
              have z9 := hb9.size
              simp at z9
              have b09 : Below w.heap.size w w9 := (hI.b.setCell (p := ⟨w.heap.size + 2, 2, none⟩) (by show w.heap.size ≤ w.heap.size + 2; omega) _).trans (hb9.mono (by simp; omega))
              replace r0 : w9.cell? ⟨w.heap.size, 0, none⟩ = some (.int .i64 0) := keepC hb9 (by simp; omega) (by simp [go_sem, r0])
              replace r1 : w9.cell? ⟨w.heap.size, 1, none⟩ = some (.int .i64 0) := keepC hb9 (by simp; omega) (by simp [go_sem, r1])
              replace r2 : w9.cell? ⟨w.heap.size, 2, none⟩ = some (.int .i64 0) := keepC hb9 (by simp; omega) (by simp [go_sem, r2])
              replace q0 : w9.cell? ⟨w.heap.size + 1, 0, none⟩ = some (.int .i64 0) := keepC hb9 (by simp; omega) (by simp [go_sem, q0])
              replace q1 : w9.cell? ⟨w.heap.size + 1, 1, none⟩ = some (.int .i64 0) := keepC hb9 (by simp; omega) (by simp [go_sem, q1])
              replace f0 : w9.frozen? ⟨w.heap.size, 0, none⟩ = false := keepF hb9 (by simp; omega) (by simp [go_sem, f0])
              replace f1 : w9.frozen? ⟨w.heap.size, 1, none⟩ = false := keepF hb9 (by simp; omega) (by simp [go_sem, f1])
              replace f2 : w9.frozen? ⟨w.heap.size, 2, none⟩ = false := keepF hb9 (by simp; omega) (by simp [go_sem, f2])
              replace g0 : w9.frozen? ⟨w.heap.size + 1, 0, none⟩ = false := keepF hb9 (by simp; omega) (by simp [go_sem, g0])
              replace g1 : w9.frozen? ⟨w.heap.size + 1, 1, none⟩ = false := keepF hb9 (by simp; omega) (by simp [go_sem, g1])
              have t9 : w.heap.size + 1 < w9.heap.size := by omega
              clear hb9 p0 p1 p2 h0 h1 h2
              go_wp2_with fail
              refine bodyPost_ret (v := .tuple #[.agg #[.int .i64 0, .int .i64 0, .int .i64 0], .agg #[.int .i64 3, .int .i64 (AT : Int)]]) (by simp [results, Tryd.results22, go_sem, r0, r1, r2, q0, q1]) rfl ?_
              rw [HE.out]
              exact ⟨rfl, ((((b09.setCell (by simp) _).setCell (by simp) _).setCell (by simp) _).setCell (by simp) _).setCell (by simp) _⟩
            · have HE : Hid (M.rd s = (lx, a, M.valN (M.r2 s), 0, 0)) := by have hq := M.rd_yes s (Int.not_lt.2 Hx.out) a (pos : Int) hG.out hn ho; rw [Hlx.out] at hq; exact hq
              have hRt := fun X => refRight_any lx a (M.valN (M.r2 s)) X (by omega) (by omega)
              rw [rt_wi lx a (M.valN (M.r2 s)) (by omega) (by omega) (by omega) (by omega), ho] at hRt
              rw [hn] at hNum
              replace hNum : ∀ X, Calls Tryd.prog 48 #[.string (M.r2 s)] X fun e w' => e = .returned (.tuple #[.int .i64 (M.valN (M.r2 s)), .bool true]) ∧ w' = X := hNum
              clear hn hG ho hat
              generalize M.valN (M.r2 s) = N at *
              generalize M.r2 s = R2 at *
              have r0 := hI.r0
              have r1 := hI.r1
              have r2 := hI.r2
              have q0 := hI.q0
              have q1 := hI.q1
              have f0 := hI.f0
              have f1 := hI.f1
              have f2 := hI.f2
              have g0 := hI.g0
              have g1 := hI.g1
              have p0 := hI.p0
              have p1 := hI.p1
              have p2 := hI.p2
              have h0 := hI.h0
              have h1 := hI.h1
              have h2 := hI.h2
              have lz := hI.lz
              have lz0 := Nat.lt_of_succ_lt (Nat.lt_of_succ_lt lz)
              have lz1 := Nat.lt_of_succ_lt lz
              have lz2 := Nat.lt_of_succ_le (Nat.succ_le_of_lt lz)
              go_wp2_with (go_at_call 48; (try rw [hatN]); refine (hNum _).mono ?_; rintro e w' ⟨rfl, hw⟩; rw [hw])
              refine (hRt _).mono ?_
              rintro e w9 ⟨rfl, hb9⟩
              have z9 := hb9.size
              simp at z9
              have b09 : Below w.heap.size w w9 := (hI.b.setCell (p := ⟨w.heap.size + 2, 2, none⟩) (by show w.heap.size ≤ w.heap.size + 2; omega) _).trans (hb9.mono (by simp; omega))
              replace r0 : w9.cell? ⟨w.heap.size, 0, none⟩ = some (.int .i64 0) := keepC hb9 (by simp; omega) (by simp [go_sem, r0])
              replace r1 : w9.cell? ⟨w.heap.size, 1, none⟩ = some (.int .i64 0) := keepC hb9 (by simp; omega) (by simp [go_sem, r1])
              replace r2 : w9.cell? ⟨w.heap.size, 2, none⟩ = some (.int .i64 0) := keepC hb9 (by simp; omega) (by simp [go_sem, r2])
              replace q0 : w9.cell? ⟨w.heap.size + 1, 0, none⟩ = some (.int .i64 0) := keepC hb9 (by simp; omega) (by simp [go_sem, q0])
              replace q1 : w9.cell? ⟨w.heap.size + 1, 1, none⟩ = some (.int .i64 0) := keepC hb9 (by simp; omega) (by simp [go_sem, q1])
              replace f0 : w9.frozen? ⟨w.heap.size, 0, none⟩ = false := keepF hb9 (by simp; omega) (by simp [go_sem, f0])
              replace f1 : w9.frozen? ⟨w.heap.size, 1, none⟩ = false := keepF hb9 (by simp; omega) (by simp [go_sem, f1])
              replace f2 : w9.frozen? ⟨w.heap.size, 2, none⟩ = false := keepF hb9 (by simp; omega) (by simp [go_sem, f2])
              replace g0 : w9.frozen? ⟨w.heap.size + 1, 0, none⟩ = false := keepF hb9 (by simp; omega) (by simp [go_sem, g0])
              replace g1 : w9.frozen? ⟨w.heap.size + 1, 1, none⟩ = false := keepF hb9 (by simp; omega) (by simp [go_sem, g1])
              replace p0 : w9.cell? ⟨w.heap.size + 2, 0, none⟩ = some (.int .i64 lx) := keepC hb9 (by simp; omega) (by simp [go_sem, p0])
              replace p1 : w9.cell? ⟨w.heap.size + 2, 1, none⟩ = some (.int .i64 a) := keepC hb9 (by simp; omega) (by simp [go_sem, p1])
              replace p2 : w9.cell? ⟨w.heap.size + 2, 2, none⟩ = some (.int .i64 N) := keepC hb9 (by simp; omega) (by simp [go_sem, p2])
              have t9 : w.heap.size + 1 < w9.heap.size := by omega
              have t8 : w.heap.size + 2 < w9.heap.size := by omega
              clear hb9 h0 h1 h2
              go_wp2_with fail
              refine bodyPost_ret (v := .tuple #[.agg #[.int .i64 lx, .int .i64 a, .int .i64 N], .agg #[.int .i64 0, .int .i64 0]]) (by simp [results, Tryd.results22, go_sem, r0, r1, r2, q0, q1]) rfl ?_
              rw [HE.out]
              exact ⟨rfl, ((((b09.setCell (by simp) _).setCell (by simp) _).setCell (by simp) _).setCell (by simp) _).setCell (by simp) _⟩

        · have Hst : Hid ((M.fs s AT = none → M.sg (M.r1 s) = (a, (pos : Int), 0)) ∧ ∀ j, M.fs s AT = some j → j ≤ 6 ∧ pos + (M.TB j).size ≤ (M.r1 s).size ∧ (M.bad (a + M.V j) (M.V j) = true → M.sg (M.r1 s) = (0, (pos : Int), 3)) ∧ (M.bad (a + M.V j) (M.V j) = false → ∃ b', M.sg (M.r1 s) = M.scan (M.r1 s) b' (pos + (M.TB j).size) (a + M.V j) ∧ (M.r1 s).size ≤ pos + (M.TB j).size + b')) := by
            obtain ⟨b, hb1, hb2⟩ := HG.out.1 rfl
            have := M.sc_step s _ b pos a hb1 hb2 (by have := hAT.out; omega) hs1
            rw [← hAT.out] at this
            exact this
          clear HG HG0
          have lz := hI.lz
          have C0 : SgC w.heap.size wr.heap.size (wr.alloc (Obj.cells #[.string ⟨#[226, 153, 175]⟩, .string ⟨#[35]⟩, .string ⟨#[240, 157, 132, 170]⟩, .string ⟨#[120]⟩, .string ⟨#[226, 153, 173]⟩, .string ⟨#[98]⟩, .string ⟨#[240, 157, 132, 171]⟩] 9)) := ⟨fun k hk => by rcases (show k = 0 ∨ k = 1 ∨ k = 2 ∨ k = 3 ∨ k = 4 ∨ k = 5 ∨ k = 6 by omega) with rfl | rfl | rfl | rfl | rfl | rfl | rfl <;> (simp [go_sem]; rfl), by simp, lz⟩
          have I0 : RdI w lx a (wr.alloc (Obj.cells #[.string ⟨#[226, 153, 175]⟩, .string ⟨#[35]⟩, .string ⟨#[240, 157, 132, 170]⟩, .string ⟨#[120]⟩, .string ⟨#[226, 153, 173]⟩, .string ⟨#[98]⟩, .string ⟨#[240, 157, 132, 171]⟩] 9)) := hI.below (by go_grown)
          have RS0 : Hid (M.RS s AT a 0 AT a false) := .inl ⟨rfl, rfl, rfl, fun j _ => by omega⟩
          go_wp2_with fail
          obtain ⟨w2', hw2⟩ : ∃ x, x = wr := ⟨wr, rfl⟩
          subst hw2
          clear hI
          go_loopw [6, 7, 37] (fun x y i wr => ∃ (k AT3 : Nat) (a3 : Int) (ag3 : Bool), x = .int .i64 AT3 ∧ y = .bool ag3 ∧ i = .int .i64 k ∧ k ≤ 7 ∧ RdI w lx a3 wr ∧ SgC w.heap.size w2'.heap.size wr ∧ -3 ≤ a3 ∧ a3 ≤ 3 ∧ Hid (M.RS s AT a k AT3 a3 ag3)) (fun _ _ i _ => 7 - (intOf i).toNat)
          case atStart => exact ⟨0, AT, a, false, rfl, rfl, rfl, by omega, I0, C0, w1, w2, RS0⟩
          case round =>
            obtain ⟨k, AT3, a3, ag3, rfl, rfl, rfl, hk, hI, hC, w1, w2, hRS⟩ := hrel
            have lg := hC.lg
            have lz := hI.lz
            by_cases hlt : k < 7
            · skip
              have cc := hC.c k hlt
              have hva := va_is k hlt
              have hvl : ([.int .i64 1, .int .i64 1, .int .i64 2, .int .i64 2, .int .i64 (-1), .int .i64 (-1), .int .i64 (-2)] : List Value)[k]? = some (.int .i64 (M.V k)) := by rw [← List.getElem?_toArray]; exact hva
              have hvg : ([.int .i64 1, .int .i64 1, .int .i64 2, .int .i64 2, .int .i64 (-1), .int .i64 (-1), .int .i64 (-2)] : List Value)[k]'(by simpa using hlt) = .int .i64 (M.V k) := (List.getElem?_eq_some_iff.1 hvl).2
              have kb1 : (0 : Int) ≤ k := by omega
              have kb2 : (k : Int) < 7 := by omega
              cases ag3
              · obtain ⟨rfl, rfl, no1, no2⟩ := M.rs_no hRS.out
                have hst3 := fun X => starts_any s (M.TB k) AT3 X hs (by have := M.TB_size k; omega) (by omega)
                by_cases hF : M.fs s AT3 = some k
                · obtain ⟨yes1, yes2⟩ := no2 hF
                  rw [yes1] at hst3
                  obtain ⟨m1, m2, m3, m4⟩ := (Hst.out).2 k hF
                  have hvv := v_is k hlt
                  have hbi := M.bad_is (a3 + M.V k) (M.V k) hvv (by omega)
                  have hts := M.TB_size k
                  obtain ⟨NA, HNA, hAbs⟩ : ∃ NA : Int, Hid (NA = ((a3 + M.V k).natAbs : Int)) ∧ ∀ X, Calls Tryd.prog 28 #[.int .i64 (a3 + M.V k)] X fun e w' => e = .returned (.int .i64 NA) ∧ w' = X := ⟨_, rfl, fun X => refAbs_any (a3 + M.V k) X (by omega) (by omega)⟩
                  have Hm3 : Hid ((0 < M.V k ∧ a3 + M.V k < 0) ∨ (M.V k < 0 ∧ 0 < a3 + M.V k) ∨ 3 < NA → M.sg (M.r1 s) = (0, (pos : Int), 3)) := fun h => m3 (hbi.2 (by
                    rcases h with h | h | h
                    · exact .inl h
                    · exact .inr (.inl h)
                    · exact .inr (.inr (by have := HNA.out; omega))))
                  have HR2 : Hid (¬ ((0 < M.V k ∧ a3 + M.V k < 0) ∨ (M.V k < 0 ∧ 0 < a3 + M.V k)) → ¬ 3 < NA → M.RS s AT3 a3 (k + 1) (AT3 + (M.TB k).size) (a3 + M.V k) true) := fun h1 h2 => yes2 (by
                    cases hb : M.bad (a3 + M.V k) (M.V k)
                    · rfl
                    · rcases hbi.1 hb with q | q | q
                      · exact absurd (.inl q) h1
                      · exact absurd (.inr q) h1
                      · exact absurd (by have := HNA.out; omega) h2)
                  have hNA : a3 + M.V k ≤ NA ∧ -(a3 + M.V k) ≤ NA := by have := HNA.out; omega
                  clear HNA
                  clear m1 m2 m3 m4 yes1 yes2 no1 no2 hF hbi
                  have hvb : -2 ≤ M.V k ∧ M.V k ≤ 2 := by omega
                  clear hva hvl
                  generalize M.TB k = T at *
                  generalize M.V k = v at *
                  have hsp : (0 < v ∧ ¬ v < 0) ∨ (¬ 0 < v ∧ v < 0) := by omega
                  have Hsp : Hid ((0 < v ∧ ¬ v < 0) ∨ (¬ 0 < v ∧ v < 0)) := hsp
                  clear hvv hsp
                  have r0 := hI.r0
                  have r1 := hI.r1
                  have r2 := hI.r2
                  have q0 := hI.q0
                  have q1 := hI.q1
                  have f0 := hI.f0
                  have f1 := hI.f1
                  have f2 := hI.f2
                  have g0 := hI.g0
                  have g1 := hI.g1
                  have p0 := hI.p0
                  have p1 := hI.p1
                  have p2 := hI.p2
                  have h0 := hI.h0
                  have h1 := hI.h1
                  have h2 := hI.h2
                  have lz := hI.lz
                  have lz0 := Nat.lt_of_succ_lt (Nat.lt_of_succ_lt lz)
                  have lz1 := Nat.lt_of_succ_lt lz
                  have lz2 := Nat.lt_of_succ_le (Nat.succ_le_of_lt lz)
                  go_wp2_with fail
                  refine (hst3 _).mono ?_
                  rintro e w' ⟨rfl, hw⟩
                  rw [hw]
                  have hI1 : RdI w lx a3 (wr.alloc (Obj.cells #[.int .i64 1, .int .i64 1, .int .i64 2, .int .i64 2, .int .i64 (-1), .int .i64 (-1), .int .i64 (-2)] 3)) := hI.below (by go_grown)
                  have hC1 : SgC w.heap.size w2'.heap.size (wr.alloc (Obj.cells #[.int .i64 1, .int .i64 1, .int .i64 2, .int .i64 2, .int .i64 (-1), .int .i64 (-1), .int .i64 (-2)] 3)) := hC.below (by go_grown)
                  clear hvg cc hst3 hC r0 r1 r2 q0 q1 f0 f1 f2 g0 g1 p0 p1 p2 h0 h1 h2 lz lz0 lz1 lz2 hI lg C0 I0
                  obtain ⟨W1, hW1⟩ : ∃ x, x = wr.alloc (Obj.cells #[.int .i64 1, .int .i64 1, .int .i64 2, .int .i64 2, .int .i64 (-1), .int .i64 (-1), .int .i64 (-2)] 3) := ⟨_, rfl⟩
                  rw [← hW1] at hI1 hC1
                  rw [← hW1]
                  clear hW1
                  have r0 := hI1.r0
                  have r1 := hI1.r1
                  have r2 := hI1.r2
                  have q0 := hI1.q0
                  have q1 := hI1.q1
                  have f0 := hI1.f0
                  have f1 := hI1.f1
                  have f2 := hI1.f2
                  have g0 := hI1.g0
                  have g1 := hI1.g1
                  have p0 := hI1.p0
                  have p1 := hI1.p1
                  have p2 := hI1.p2
                  have h0 := hI1.h0
                  have h1 := hI1.h1
                  have h2 := hI1.h2
                  have lz := hI1.lz
                  have lz0 := Nat.lt_of_succ_lt (Nat.lt_of_succ_lt lz)
                  have lz1 := Nat.lt_of_succ_lt lz
                  have lz2 := Nat.lt_of_succ_le (Nat.succ_le_of_lt lz)
                  rcases Hsp.out with ⟨v1, v2⟩ | ⟨v1, v2⟩
                  · by_cases e1 : a3 + v < 0
                    · have HE : Hid (M.rd s = (0, 0, 0, 3, (AT3 : Int))) := by
                        have hq := M.rd_signs s (Int.not_lt.2 Hx.out) 0 pos 3 (Hm3.out (.inl ⟨v1, e1⟩)) (by decide)
                        rw [show (1 : Int) + (pos : Int) = (AT3 : Int) by have := hAT.out; omega] at hq
                        exact hq
                      clear Hm3 HR2 Hst hRS RS0 Hx Hlx
                      go_wp2_with (go_at_call 28; refine (hAbs _).mono ?_; rintro e w' ⟨rfl, hw⟩; rw [hw])
                      refine bodyPost_ret (v := .tuple #[.agg #[.int .i64 0, .int .i64 0, .int .i64 0], .agg #[.int .i64 3, .int .i64 (AT3 : Int)]]) (by simp [results, Tryd.results22, go_sem, r0, r1, r2, q0, q1]) rfl ?_
                      rw [HE.out]
                      exact ⟨rfl, (((((hI1.put1 (a' := a3 + v)).b.setCell (by simp) _).setCell (by simp) _).setCell (by simp) _).setCell (by simp) _).setCell (by simp) _⟩
                    · by_cases e2 : 3 < NA
                      · have HE : Hid (M.rd s = (0, 0, 0, 3, (AT3 : Int))) := by
                          have hq := M.rd_signs s (Int.not_lt.2 Hx.out) 0 pos 3 (Hm3.out (.inr (.inr e2))) (by decide)
                          rw [show (1 : Int) + (pos : Int) = (AT3 : Int) by have := hAT.out; omega] at hq
                          exact hq
                        clear Hm3 HR2 Hst hRS RS0 Hx Hlx
                        go_wp2_with (go_at_call 28; refine (hAbs _).mono ?_; rintro e w' ⟨rfl, hw⟩; rw [hw])
                        refine bodyPost_ret (v := .tuple #[.agg #[.int .i64 0, .int .i64 0, .int .i64 0], .agg #[.int .i64 3, .int .i64 (AT3 : Int)]]) (by simp [results, Tryd.results22, go_sem, r0, r1, r2, q0, q1]) rfl ?_
                        rw [HE.out]
                        exact ⟨rfl, (((((hI1.put1 (a' := a3 + v)).b.setCell (by simp) _).setCell (by simp) _).setCell (by simp) _).setCell (by simp) _).setCell (by simp) _⟩
                      · have hRS2 : Hid (M.RS s AT3 a3 (k + 1) (AT3 + T.size) (a3 + v) true) := HR2.out (by omega) (by omega)
                        have w3 : -3 ≤ a3 + v ∧ a3 + v ≤ 3 := by omega
                        have hI2 : Hid (RdI w lx (a3 + v) (W1.setCell ⟨w.heap.size + 2, 1, none⟩ (.int .i64 (a3 + v)))) := hI1.put1
                        have hC2 : Hid (SgC w.heap.size w2'.heap.size (W1.setCell ⟨w.heap.size + 2, 1, none⟩ (.int .i64 (a3 + v)))) := hC1.put
                        clear Hm3 HR2 hRS RS0 Hx Hlx
                        go_wp2_with (go_at_call 28; refine (hAbs _).mono ?_; rintro e w' ⟨rfl, hw⟩; rw [hw])
                        go_roundw
                        case rel => exact ⟨k + 1, AT3 + T.size, a3 + v, true, by go_num, rfl, by go_num, by omega, hI2.out, hC2.out, w3.1, w3.2, hRS2⟩
                        case measure => simp [intOf]; omega
                  · by_cases e1 : 0 < a3 + v
                    · have HE : Hid (M.rd s = (0, 0, 0, 3, (AT3 : Int))) := by
                        have hq := M.rd_signs s (Int.not_lt.2 Hx.out) 0 pos 3 (Hm3.out (.inr (.inl ⟨v2, e1⟩))) (by decide)
                        rw [show (1 : Int) + (pos : Int) = (AT3 : Int) by have := hAT.out; omega] at hq
                        exact hq
                      clear Hm3 HR2 Hst hRS RS0 Hx Hlx
                      go_wp2_with (go_at_call 28; refine (hAbs _).mono ?_; rintro e w' ⟨rfl, hw⟩; rw [hw])
                      refine bodyPost_ret (v := .tuple #[.agg #[.int .i64 0, .int .i64 0, .int .i64 0], .agg #[.int .i64 3, .int .i64 (AT3 : Int)]]) (by simp [results, Tryd.results22, go_sem, r0, r1, r2, q0, q1]) rfl ?_
                      rw [HE.out]
                      exact ⟨rfl, (((((hI1.put1 (a' := a3 + v)).b.setCell (by simp) _).setCell (by simp) _).setCell (by simp) _).setCell (by simp) _).setCell (by simp) _⟩
                    · by_cases e2 : 3 < NA
                      · have HE : Hid (M.rd s = (0, 0, 0, 3, (AT3 : Int))) := by
                          have hq := M.rd_signs s (Int.not_lt.2 Hx.out) 0 pos 3 (Hm3.out (.inr (.inr e2))) (by decide)
                          rw [show (1 : Int) + (pos : Int) = (AT3 : Int) by have := hAT.out; omega] at hq
                          exact hq
                        clear Hm3 HR2 Hst hRS RS0 Hx Hlx
                        go_wp2_with (go_at_call 28; refine (hAbs _).mono ?_; rintro e w' ⟨rfl, hw⟩; rw [hw])
                        refine bodyPost_ret (v := .tuple #[.agg #[.int .i64 0, .int .i64 0, .int .i64 0], .agg #[.int .i64 3, .int .i64 (AT3 : Int)]]) (by simp [results, Tryd.results22, go_sem, r0, r1, r2, q0, q1]) rfl ?_
                        rw [HE.out]
                        exact ⟨rfl, (((((hI1.put1 (a' := a3 + v)).b.setCell (by simp) _).setCell (by simp) _).setCell (by simp) _).setCell (by simp) _).setCell (by simp) _⟩
                      · have hRS2 : Hid (M.RS s AT3 a3 (k + 1) (AT3 + T.size) (a3 + v) true) := HR2.out (by omega) (by omega)
                        have w3 : -3 ≤ a3 + v ∧ a3 + v ≤ 3 := by omega
                        have hI2 : Hid (RdI w lx (a3 + v) (W1.setCell ⟨w.heap.size + 2, 1, none⟩ (.int .i64 (a3 + v)))) := hI1.put1
                        have hC2 : Hid (SgC w.heap.size w2'.heap.size (W1.setCell ⟨w.heap.size + 2, 1, none⟩ (.int .i64 (a3 + v)))) := hC1.put
                        clear Hm3 HR2 hRS RS0 Hx Hlx
                        go_wp2_with (go_at_call 28; refine (hAbs _).mono ?_; rintro e w' ⟨rfl, hw⟩; rw [hw])
                        go_roundw
                        case rel => exact ⟨k + 1, AT3 + T.size, a3 + v, true, by go_num, rfl, by go_num, by omega, hI2.out, hC2.out, w3.1, w3.2, hRS2⟩
                        case measure => simp [intOf]; omega
                · obtain ⟨no3, no4⟩ := no1 hF
                  rw [no4 hlt] at hst3
                  have hRS2 : Hid (M.RS s AT3 a3 (k + 1) AT3 a3 false) := no3
                  clear no1 no2 no3 no4 hF hRS
                  generalize M.TB k = T at *
                  generalize M.V k = v at *
                  go_wp2_with (go_at_call 47; refine (hst3 _).mono ?_; rintro e w' ⟨rfl, hw⟩; rw [hw])
                  go_roundw
                  case rel => exact ⟨k + 1, AT3, a3, false, rfl, rfl, by go_num, by omega, hI.below (by go_grown), hC.below (by go_grown), w1, w2, hRS2⟩
                  case measure => simp [intOf]; omega
              · have hRS2 : Hid (M.RS s AT a (k + 1) AT3 a3 true) := M.rs_skip hRS.out
                clear hRS
                generalize M.TB k = T at *
                generalize M.V k = v at *
                go_wp2_with fail
                go_roundw
                case rel => exact ⟨k + 1, AT3, a3, true, rfl, rfl, by go_num, by omega, hI.below (by go_grown), hC.below (by go_grown), w1, w2, hRS2⟩
                case measure => simp [intOf]; omega
            · obtain rfl : k = 7 := by omega
              cases ag3
              · have hn : M.sg (M.r1 s) = (a, (pos : Int), 0) ∧ AT3 = AT ∧ a3 = a := by
                  rcases hRS.out with ⟨_, e1, e2, e3⟩ | ⟨e, _⟩
                  · refine ⟨Hst.out.1 ?_, e1, e2⟩
                    cases hf : M.fs s AT with
                    | none => rfl
                    | some j => have := (Hst.out.2 j hf).1; have := e3 j hf; omega
                  · cases e
                obtain ⟨hn, rfl, rfl⟩ := hn
                have HG2 : Hid (M.SS s pos a3 false) := ⟨fun e => (by cases e), fun _ => hn⟩
                clear hn hRS Hst RS0
                go_wp2_with fail
                go_roundw
                case rel => exact ⟨AT3, pos, a3, false, rfl, rfl, hI, hAT, hATs, w1, w2, HG2⟩
                case measure => simp [intOf]; omega
              · have hy : ∃ pos2, AT3 = 1 + pos2 ∧ AT3 ≤ s.size ∧ AT < AT3 ∧ M.SS s pos2 a3 true := by
                  rcases hRS.out with ⟨e, _⟩ | ⟨_, j, e1, e2, e3, e4, e5⟩
                  · cases e
                  · obtain ⟨m1, m2, m3, m4⟩ := Hst.out.2 j e1
                    obtain ⟨b', q1, q2⟩ := m4 e5
                    have := hAT.out
                    have := M.TB_size j
                    refine ⟨pos + (M.TB j).size, by omega, by omega, by omega, fun _ => ⟨b', by rw [e4]; exact q1, q2⟩, fun e => (by cases e)⟩
                obtain ⟨pos2, y1, y2, y3, y4⟩ := hy
                have hAT2 : Hid (AT3 = 1 + pos2) := y1
                have HG2 : Hid (M.SS s pos2 a3 true) := y4
                clear y1 y4 hRS Hst RS0
                go_wp2_with fail
                go_roundw
                case rel => exact ⟨AT3, pos2, a3, true, rfl, rfl, hI, hAT2, y2, w1, w2, HG2⟩
                case measure => simp [intOf]; omega
end Go.Proofs.YtmccbokjigjpnaaDoor
