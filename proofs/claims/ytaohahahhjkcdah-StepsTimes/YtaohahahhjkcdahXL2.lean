/- The law StepsTimes: its walk. -/
import Derived.Test.YtaohahahhjkcdahX12
import Derived.Test.YtaohahahhjkcdahXMath4
import Derived.Lib.QuietBelow
namespace Go.Proofs.Ytaohahahhjkcdah.X
open Go.RowKit Go.Maps Go.Sort
set_option linter.unusedVariables false
set_option linter.unusedSimpArgs false

theorem infoS : (Try.prog.info? 44).map (fun i => (i.zero, i.size, i.bytes)) = some (some (.agg #[.int .i64 0, .int .i64 0, .slice none 0 0, .slice none 0 0]), 4, 64) := by kernel_rfl
/-- append(s, x) where s is one's own row of sections. -/
theorem wpList_append_sec {w : World} {ops : Array Oper} {rest : List Oper} {o : Oper} {a : Act} {Q : Exit → Act → World → Prop} (hgd : o.guard = none) (s y : Operand)
    (ho : o.op = .call { callee := .builtin .append, args := #[s, y], argTypes := #[22, 22] })
    (base : Nat) (v : Value) (n : Nat) (xs : List Value) (hs : a.eval s = v) (hown : w.ownsRow base 44 4 v n xs)
    (g : Nat) (c0 c1 c2 c3 : Value) (hx : a.eval y = .slice (some ⟨g, 0, none⟩) 1 1) (h0 : w.cell? ⟨g, 0, none⟩ = some c0) (h1 : w.cell? ⟨g, 1, none⟩ = some c1) (h2 : w.cell? ⟨g, 2, none⟩ = some c2) (h3 : w.cell? ⟨g, 3, none⟩ = some c3)
    (hone : c0.oneCell' = true ∧ c1.oneCell' = true ∧ c2.oneCell' = true ∧ c3.oneCell' = true) (h63 : n ≤ 1000) (hbase : base ≤ w.heap.size)
    (h : ∀ v' w', w'.ownsRow base 44 4 v' (n + 1) (xs ++ [c0, c1, c2, c3]) → Z.Gw w w' v v' → wpList Try.prog ops Q rest (a.put o.dst v') w') :
    wpList Try.prog ops Q (o :: rest) a w := by
  obtain ⟨i, hi, hz, hz1, hz2⟩ := info_parts infoS
  refine wpList_append_own_at w hgd s y 22 ho base 44 i _ 4 64 Try.underlying22 hi hz hz1 hz2 rfl (by omega) v n xs hs hown ⟨g, 0, none⟩ 1 1 [c0, c1, c2, c3] hx rfl ?_ ?_ (by unfold maxLen; omega) (by omega) hbase (fun v' w' k1 k2 _ k4 => h v' w' k1 ⟨k2, k4.imp id (fun e => ⟨_, e, Nat.le_refl _⟩)⟩)
  · intro j u hj
    match j, hj with
    | 0, hj => simp at hj; subst hj; simpa [Addr.add] using h0
    | 1, hj => simp at hj; subst hj; simpa [Addr.add] using h1
    | 2, hj => simp at hj; subst hj; simpa [Addr.add] using h2
    | 3, hj => simp at hj; subst hj; simpa [Addr.add] using h3
    | j + 4, hj => simp at hj
  · intro u hu
    simp at hu
    rcases hu with rfl | rfl | rfl | rfl
    · exact hone.1
    · exact hone.2.1
    · exact hone.2.2.1
    · exact hone.2.2.2
/-- Such a row lies as sections. -/
theorem row_ll {w : World} {base n : Nat} {v : Value} {s : M.Sc} {ea : Option Addr} {ec : Nat} {ka : Option Addr} {kc : Nat} (h : w.ownsRow base 44 4 v n (rows (fun _ => [.int .i64 s.t, .int .i64 s.l, .slice ea s.ev.length ec, .slice ka s.kids.length kc]) n)) (hS : SV w (· < w.heap.size) s ea ec ka kc) :
    ∃ ao c, v = .slice ao (List.replicate n s).length c ∧ (List.replicate n s).length ≤ c ∧ c ≤ 9223372036854775807 ∧ LL w (· < w.heap.size) ao (List.replicate n s) := by
  rw [List.length_replicate]
  rcases h.2 with ⟨e1, e2⟩ | ⟨g, cap, cur, e1, e2, e3, e4, hm, rest⟩
  · rw [e2, e1]
    exact ⟨none, 0, rfl, by omega, by omega, ⟨fun h => by simp at h⟩⟩
  · refine ⟨some ⟨g, 0, none⟩, cap, e1, e4, by unfold maxLen at hm; omega, ⟨fun hn => ⟨g, 0, rfl, (Array.getElem?_eq_some_iff.1 e3).1, fun j p hj => ?_⟩⟩⟩
    subst e1
    have hjl : j < n := by have := (List.getElem?_eq_some_iff.1 hj).1; simpa using this
    have hp : p = s := by
      rw [List.getElem?_replicate, if_pos hjl] at hj
      simpa using hj.symm
    subst hp
    have hc := fun i (hi : i < 4) => (World.ownsRow.cellAt h (j * 4 + i) (by omega)).trans (rows_get (fun _ => rfl) n j i hjl hi)
    rw [Nat.zero_add]
    exact ⟨ea, ec, ka, kc, ⟨hc 0 (by omega), hc 1 (by omega), hc 2 (by omega), hc 3 (by omega)⟩, hS⟩
/-- One section in a block of its own. -/
theorem LL.one {w : World} {g : Nat} {s : M.Sc} {ea : Option Addr} {ec : Nat} {ka : Option Addr} {kc : Nat} (hc : C4 w g 0 s ea ec ka kc) (hg : g < w.heap.size) (hS : SV w (· < w.heap.size) s ea ec ka kc) : LL w (· < w.heap.size) (some ⟨g, 0, none⟩) [s] := ⟨fun _ => ⟨g, 0, rfl, hg, fun j x hj => by
  match j, hj with
  | 0, hj => simp at hj; subst hj; exact ⟨ea, ec, ka, kc, hc, hS⟩
  | j + 1, hj => simp at hj⟩⟩
theorem SV.to {w w' : World} {B : Nat} {s s' : M.Sc} {ea : Option Addr} {ec : Nat} {ka : Option Addr} {kc : Nat} (h : SV w (· < B) s ea ec ka kc) (hb : Below B w w') (hz : B ≤ w'.heap.size) (he : s'.ev = s.ev) (hk : s'.kids = s.kids) : SV w' (· < w'.heap.size) s' ea ec ka kc := by
  have h' := h.keep (Kp.below hb)
  have hs : ∀ b, b < B → b < w'.heap.size := fun b hb' => Nat.lt_of_lt_of_le hb' hz
  refine ⟨⟨by rw [he]; exact h.n.h1, h.n.h2, by rw [hk]; exact h.n.h3, h.n.h4, by rw [he]; exact h.n.bd⟩, by rw [he]; exact h'.e.mono hs, LL.ls ?_⟩
  rw [hk]
  exact (h'.k.ll).mono hs

set_option maxRecDepth 20000 in
set_option maxHeartbeats 4000000 in
theorem times_walk (s : M.Sc) (ea : Option Addr) (ec : Nat) (ka : Option Addr) (kc : Nat) (n t : Int) (w : World) (hS : SV w (· < w.heap.size) s ea ec ka kc) (ht : t ≤ 9223372036854775807) :
    Calls Try.prog 6 #[sa s ea ec ka kc, .int .i64 n, .int .i64 t] w fun e w' => e = .returned (.bool true) ∧ Below w.heap.size w w' := by
  have HA := alive_any
  by_cases cg : n < 0 ∨ 50 < n
  · rcases (show n < 0 ∨ (¬ n < 0 ∧ 50 < n) by omega) with h | ⟨h, ha⟩
    all_goals
      clear cg hS
      go_enter Try.func6, Try.ntmps6
      go_wp2_with fail
      refine (HA _).mono ?_
      rintro e w1 ⟨rfl, hb1⟩
      have hb2 : Below w.heap.size w w1 := ((Below.refl _ w).alloc (Nat.le_refl _) _).trans (hb1.mono (by simp))
      clear hb1
      go_wp2_with fail
      go_ret
      exact ⟨rfl, hb2⟩
  obtain ⟨N, rfl⟩ : ∃ N : Nat, n = N := ⟨n.toNat, by omega⟩
  have hN : N ≤ 50 := by omega
  have d1 : ¬ (N : Int) < 0 := by omega
  have d2 : ¬ 50 < (N : Int) := by omega
  have HS : Hid (SV w (· < w.heap.size) s ea ec ka kc) := hS
  have HE : Hid (1 ≤ N → (M.cks [⟨N, s.l, s.ev, s.kids⟩] 1 0 0).1 = (M.cks (List.replicate N ⟨1, s.l, s.ev, s.kids⟩) 1 0 0).1 ∨ (M.cks (List.replicate N ⟨1, s.l, s.ev, s.kids⟩) 1 0 0).1 = 5) := fun h => M.times_err s N h hN
  have HPl : Hid (M.pls [⟨N, s.l, s.ev, s.kids⟩] 0 = M.pls (List.replicate N ⟨1, s.l, s.ev, s.kids⟩) 0) := M.times_pls s N
  clear hS cg
  obtain ⟨st, sl, sev, skids⟩ := s
  dsimp only at *
  go_enter Try.func6, Try.ntmps6
  go_wp2_with fail
  refine (HA _).mono ?_
  rintro e w1 ⟨rfl, hb1⟩
  have x0 : w1.cell? ⟨w.heap.size, 0, none⟩ = some (.int .i64 st) := keepC hb1 (by simp) (by simp [go_sem])
  have x1 : w1.cell? ⟨w.heap.size, 1, none⟩ = some (.int .i64 sl) := keepC hb1 (by simp) (by simp [go_sem])
  have x2 : w1.cell? ⟨w.heap.size, 2, none⟩ = some (.slice ea sev.length ec) := keepC hb1 (by simp) (by simp [go_sem])
  have x3 : w1.cell? ⟨w.heap.size, 3, none⟩ = some (.slice ka skids.length kc) := keepC hb1 (by simp) (by simp [go_sem])
  have xf : w1.frozen? ⟨w.heap.size, 0, none⟩ = false := keepF hb1 (by simp) (by simp [go_sem])
  have z1 : w.heap.size < w1.heap.size := by have := hb1.size; simp at this; omega
  have hb01 : Below w.heap.size w w1 := ((Below.refl _ w).alloc (Nat.le_refl _) _).trans (hb1.mono (by simp))
  clear hb1 HA
  go_wp2_with fail
  have hbA : Below w1.heap.size w1 (w1.alloc (Obj.cells #[.int .i64 1, .int .i64 sl, .slice ea sev.length ec, .slice ka skids.length kc] 44)) := (Below.refl _ _).alloc (Nat.le_refl _) _
  have o0 : (w1.alloc (Obj.cells #[.int .i64 1, .int .i64 sl, .slice ea sev.length ec, .slice ka skids.length kc] 44)).cell? ⟨w1.heap.size, 0, none⟩ = some (.int .i64 1) := by simp [go_sem]
  have o1 : (w1.alloc (Obj.cells #[.int .i64 1, .int .i64 sl, .slice ea sev.length ec, .slice ka skids.length kc] 44)).cell? ⟨w1.heap.size, 1, none⟩ = some (.int .i64 sl) := by simp [go_sem]
  have o2 : (w1.alloc (Obj.cells #[.int .i64 1, .int .i64 sl, .slice ea sev.length ec, .slice ka skids.length kc] 44)).cell? ⟨w1.heap.size, 2, none⟩ = some (.slice ea sev.length ec) := by simp [go_sem]
  have o3 : (w1.alloc (Obj.cells #[.int .i64 1, .int .i64 sl, .slice ea sev.length ec, .slice ka skids.length kc] 44)).cell? ⟨w1.heap.size, 3, none⟩ = some (.slice ka skids.length kc) := by simp [go_sem]
  have hzA : (w1.alloc (Obj.cells #[.int .i64 1, .int .i64 sl, .slice ea sev.length ec, .slice ka skids.length kc] 44)).heap.size = w1.heap.size + 1 := by simp
  generalize w1.alloc (Obj.cells #[.int .i64 1, .int .i64 sl, .slice ea sev.length ec, .slice ka skids.length kc] 44) = WA at *
  have y0 := keepC hbA z1 x0
  have y1 := keepC hbA z1 x1
  have y2 := keepC hbA z1 x2
  have y3 := keepC hbA z1 x3
  have yf := keepF hbA z1 xf
  have hb0A : Below w.heap.size w WA := hb01.trans (hbA.mono hb01.size)
  clear x0 x1 x2 x3 xf hb01 hbA
  have H0 : Hid (WA.ownsRow WA.heap.size 44 4 (.slice none 0 0) 0 (rows (fun _ => [.int .i64 1, .int .i64 sl, .slice ea sev.length ec, .slice ka skids.length kc]) 0)) := World.ownsRow_nil _ _ _ _
  go_loopw [9, 8] (fun i v wr => ∃ (k : Nat), k ≤ N ∧ i = .int .i64 k ∧ Hid (wr.ownsRow WA.heap.size 44 4 v k (rows (fun _ => [.int .i64 1, .int .i64 sl, .slice ea sev.length ec, .slice ka skids.length kc]) k)) ∧ Below WA.heap.size WA wr) (fun i _ _ => N - (intOf i).toNat)
  case atStart => exact ⟨0, by omega, rfl, H0, Below.refl _ _⟩
  case round =>
    obtain ⟨k, hkn, rfl, hO, hbr⟩ := hrel
    clear H0
    have zr := hbr.size
    have l1 : w1.heap.size < WA.heap.size := by omega
    have l0 : w.heap.size < WA.heap.size := by omega
    by_cases hlt : k < N
    · have hlt' : (k : Int) < (N : Int) := by omega
      have p0 := keepC hbr l1 o0
      have p1 := keepC hbr l1 o1
      have p2 := keepC hbr l1 o2
      have p3 := keepC hbr l1 o3
      have l2 : w1.heap.size < wr.heap.size := by omega
      have w3 : IntKind.i64.wrap ((k : Int) + 1) = (k : Int) + 1 := wid (by omega) (by omega)
      have hbX : Below wr.heap.size wr (wr.alloc (Obj.cells #[.int .i64 1, .int .i64 sl, .slice ea sev.length ec, .slice ka skids.length kc] 44)) := (Below.refl _ _).alloc (Nat.le_refl _) _
      have hOX : (wr.alloc (Obj.cells #[.int .i64 1, .int .i64 sl, .slice ea sev.length ec, .slice ka skids.length kc] 44)).ownsRow WA.heap.size 44 4 u8 k (rows (fun _ => [.int .i64 1, .int .i64 sl, .slice ea sev.length ec, .slice ka skids.length kc]) k) := Z.own_step hO.out (fun j hj => hbX.block j (Z.own_lt hO.out j hj))
      have n0 : (wr.alloc (Obj.cells #[.int .i64 1, .int .i64 sl, .slice ea sev.length ec, .slice ka skids.length kc] 44)).cell? ⟨wr.heap.size, 0, none⟩ = some (.int .i64 1) := by simp [go_sem]
      have n1 : (wr.alloc (Obj.cells #[.int .i64 1, .int .i64 sl, .slice ea sev.length ec, .slice ka skids.length kc] 44)).cell? ⟨wr.heap.size, 1, none⟩ = some (.int .i64 sl) := by simp [go_sem]
      have n2 : (wr.alloc (Obj.cells #[.int .i64 1, .int .i64 sl, .slice ea sev.length ec, .slice ka skids.length kc] 44)).cell? ⟨wr.heap.size, 2, none⟩ = some (.slice ea sev.length ec) := by simp [go_sem]
      have n3 : (wr.alloc (Obj.cells #[.int .i64 1, .int .i64 sl, .slice ea sev.length ec, .slice ka skids.length kc] 44)).cell? ⟨wr.heap.size, 3, none⟩ = some (.slice ka skids.length kc) := by simp [go_sem]
      have hbb : WA.heap.size ≤ (wr.alloc (Obj.cells #[.int .i64 1, .int .i64 sl, .slice ea sev.length ec, .slice ka skids.length kc] 44)).heap.size := by simp; omega
      have hob := fun j hj => Z.own_block hO.out j hj
      clear hO y0 y1 y2 y3 yf
      go_wp2_with (at_builtin; refine wpList_append_sec rfl _ _ rfl WA.heap.size u8 k _ rfl hOX wr.heap.size _ _ _ _ rfl n0 n1 n2 n3 ⟨rfl, rfl, rfl, rfl⟩ (by omega) hbb ?_; intro v7 w7 hr7 hg7; have hb7 : Below WA.heap.size WA w7 := (hbr.trans (hbX.mono zr)).trans (hg7.bel (B := WA.heap.size) hbb hob); have HR7 : Hid (w7.ownsRow WA.heap.size 44 4 v7 (k + 1) (rows (fun _ => [.int .i64 1, .int .i64 sl, .slice ea sev.length ec, .slice ka skids.length kc]) (k + 1))) := hr7)
      exact ⟨⟨k + 1, by omega, by go_num, HR7, hb7⟩, by simp [intOf]; omega⟩
    · obtain rfl : k = N := by omega
      have hlt' : ¬ (k : Int) < (k : Int) := by omega
      have p0 := keepC hbr l0 y0
      have p1 := keepC hbr l0 y1
      have p2 := keepC hbr l0 y2
      have p3 := keepC hbr l0 y3
      have pf := keepF hbr l0 yf
      have l2 : w.heap.size < wr.heap.size := by omega
      have hb0r : Below w.heap.size w wr := hb0A.trans (hbr.mono (by omega))
      have hob := fun j hj => Z.own_block hO.out j hj
      have hlo := fun j hj => Z.own_lt hO.out j hj
      have hO3 : (wr.setCell ⟨w.heap.size, 0, none⟩ (.int .i64 (k : Int))).ownsRow WA.heap.size 44 4 u8 k (rows (fun _ => [.int .i64 1, .int .i64 sl, .slice ea sev.length ec, .slice ka skids.length kc]) k) := Z.own_step hO.out (fun j hj => Below.heap_setCell _ _ _ _ (by show j ≠ w.heap.size; have := hob j hj; omega))
      have hb03 : Below w.heap.size w (wr.setCell ⟨w.heap.size, 0, none⟩ (.int .i64 (k : Int))) := hb0r.setCell (p := ⟨w.heap.size, 0, none⟩) (Nat.le_refl _) _
      have q0 : (wr.setCell ⟨w.heap.size, 0, none⟩ (.int .i64 (k : Int))).cell? ⟨w.heap.size, 0, none⟩ = some (.int .i64 (k : Int)) := World.cell?_setCell_same _ _ _ p0
      have q1 : (wr.setCell ⟨w.heap.size, 0, none⟩ (.int .i64 (k : Int))).cell? ⟨w.heap.size, 1, none⟩ = some (.int .i64 sl) := (World.cell?_setCell_other _ _ _ _ (fun e => absurd (show (0 : Nat) = 1 from congrArg Addr.off e) (by decide))).trans p1
      have q2 : (wr.setCell ⟨w.heap.size, 0, none⟩ (.int .i64 (k : Int))).cell? ⟨w.heap.size, 2, none⟩ = some (.slice ea sev.length ec) := (World.cell?_setCell_other _ _ _ _ (fun e => absurd (show (0 : Nat) = 2 from congrArg Addr.off e) (by decide))).trans p2
      have q3 : (wr.setCell ⟨w.heap.size, 0, none⟩ (.int .i64 (k : Int))).cell? ⟨w.heap.size, 3, none⟩ = some (.slice ka skids.length kc) := (World.cell?_setCell_other _ _ _ _ (fun e => absurd (show (0 : Nat) = 3 from congrArg Addr.off e) (by decide))).trans p3
      have l3 : w.heap.size < (wr.setCell ⟨w.heap.size, 0, none⟩ (.int .i64 (k : Int))).heap.size := by simpa [World.setCell] using l2
      clear y0 y1 y2 y3 yf o0 o1 o2 o3 p1 p2 p3 hO
      go_wp2_with fail
      obtain ⟨W5, hW5⟩ : ∃ x, x = ((wr.setCell ⟨w.heap.size, 0, none⟩ (.int .i64 (k : Int))).alloc (Obj.cells #[.int .i64 (k : Int), .int .i64 sl, .slice ea sev.length ec, .slice ka skids.length kc] 44)).alloc (Obj.cells #[.int .i64 (-1), .int .i64 t] 31) := ⟨_, rfl⟩
      rw [← hW5]
      have hb35 : Below wr.heap.size (wr.setCell ⟨w.heap.size, 0, none⟩ (.int .i64 (k : Int))) W5 := by rw [hW5]; exact ((Below.refl _ _).alloc (by simp [World.setCell]) _).alloc (by simp [World.setCell]) _
      have hb05 : Below w.heap.size w W5 := hb03.trans (hb35.mono (by omega))
      have hz5 : W5.heap.size = wr.heap.size + 2 := by rw [hW5]; simp
      have s0 : W5.cell? ⟨wr.heap.size, 0, none⟩ = some (.int .i64 (k : Int)) := by rw [hW5]; simp [go_sem]
      have s1 : W5.cell? ⟨wr.heap.size, 0 + 1, none⟩ = some (.int .i64 sl) := by rw [hW5]; simp [go_sem]
      have s2 : W5.cell? ⟨wr.heap.size, 0 + 2, none⟩ = some (.slice ea sev.length ec) := by rw [hW5]; simp [go_sem]
      have s3 : W5.cell? ⟨wr.heap.size, 0 + 3, none⟩ = some (.slice ka skids.length kc) := by rw [hW5]; simp [go_sem]
      have t0 : W5.cell? ⟨wr.heap.size + 1, 0, none⟩ = some (.int .i64 (-1)) := by rw [hW5]; simp [go_sem]
      have t1 : W5.cell? ⟨wr.heap.size + 1, 1, none⟩ = some (.int .i64 t) := by rw [hW5]; simp [go_sem]
      have hO5 : W5.ownsRow WA.heap.size 44 4 u8 k (rows (fun _ => [.int .i64 1, .int .i64 sl, .slice ea sev.length ec, .slice ka skids.length kc]) k) := Z.own_step hO3 (fun j hj => hb35.block j (hlo j hj))
      have hSV := fun (W : World) (hb : Below w.heap.size w W) (x : Int) => HS.out.to (s' := ⟨x, sl, sev, skids⟩) hb hb.size rfl rfl
      have HP1 := Play_at [⟨(k : Int), sl, sev, skids⟩] [(-1, t)] W5 (some ⟨wr.heap.size, 0, none⟩) 1 (some ⟨wr.heap.size + 1, 0, none⟩) 1 (LL.one ⟨s0, s1, s2, s3⟩ (by omega) (hSV W5 hb05 k)) (by simp) (by omega) (TL.one t0 t1 (by omega) ht) (by simp) (by omega) (by simp)
      clear s0 s1 s2 s3 t0 t1 hb35 hb03 hO3 q0 q1 q2 q3 l3 p0 pf hW5 hb0r
      refine HP1.mono ?_
      rintro e w6 ⟨hb6, a6, n6, c6, rfl, j1, j2, j3, j4⟩
      have hb06 := hb05.trans (hb6.mono hb05.size)
      have hO6 : w6.ownsRow WA.heap.size 44 4 u8 k (rows (fun _ => [.int .i64 1, .int .i64 sl, .slice ea sev.length ec, .slice ka skids.length kc]) k) := Z.own_step hO5 (fun j hj => hb6.block j (Z.own_lt hO5 j hj))
      obtain ⟨la, lc, rfl, i1, i2, i3⟩ := row_ll (s := ⟨1, sl, sev, skids⟩) hO6 (hSV w6 hb06 1)
      clear hO5 hO6 HP1 hb6 hSV
      obtain ⟨VE, hVE⟩ : ∃ V, V = (M.cks [⟨(k : Int), sl, sev, skids⟩] 1 0 0).1 := ⟨_, rfl⟩
      obtain ⟨VL, hVL⟩ : ∃ V, V = (M.cks (List.replicate k ⟨1, sl, sev, skids⟩) 1 0 0).1 := ⟨_, rfl⟩
      have HE' := HE.out
      have hPl := HPl.out
      rw [← hVE] at j3 j4 HE' ⊢
      rw [← hVL] at HE'
      have HVL : Hid (VL = (M.cks (List.replicate k ⟨1, sl, sev, skids⟩) 1 0 0).1) := hVL
      rw [hPl] at j4
      generalize hE : M.pls (List.replicate k ⟨1, sl, sev, skids⟩) 0 = E at *
      have hb67 : Below w6.heap.size w6 (w6.alloc (Obj.cells #[.int .i64 (-1), .int .i64 t] 31)) := (Below.refl _ _).alloc (Nat.le_refl _) _
      have HP2 := Play_at (List.replicate k ⟨1, sl, sev, skids⟩) [(-1, t)] (w6.alloc (Obj.cells #[.int .i64 (-1), .int .i64 t] 31)) la lc (some ⟨w6.heap.size, 0, none⟩) 1 (i3.to hb67 hb67.size) i1 i2 (TL.one (by simp [go_sem]) (by simp [go_sem]) (by simp) ht) (by simp) (by omega) (by simp)
      have J4 : Hid (VE = 0 → n6 = 1 ∧ DL w6 (· < w6.heap.size) a6 [M.pd1 E 0 (-1, t)]) := j4
      have HE2 : Hid (1 ≤ k → VE = VL ∨ VL = 5) := HE'
      have HPl2 : Hid (M.pls (List.replicate k ⟨1, sl, sev, skids⟩) 0 = E) := hE
      clear i3 j3 j4 HE' hPl HE HPl hE hVE hVL HS
      generalize List.replicate k (⟨1, sl, sev, skids⟩ : M.Sc) = RL at *
      go_wp2_with fail
      refine HP2.mono ?_
      rintro e w8 ⟨hb8, a8, n8, c8, rfl, k1, k2, k3, k4⟩
      have hb68 := hb67.trans (hb8.mono hb67.size)
      have hb08 := hb06.trans (hb68.mono hb06.size)
      rw [← HVL.out] at k3 k4 ⊢
      rw [HPl2.out] at k4
      have K4 : Hid (VL = 0 → n8 = 1 ∧ DL w8 (· < w8.heap.size) a8 [M.pd1 E 0 (-1, t)]) := k4
      clear k3 k4 HP2 hb8 hb67 HVL HPl2
      by_cases hz : VE = 0
      · by_cases hz2 : VL = 0
        · obtain ⟨q1, q2⟩ := J4.out hz
          obtain ⟨q3, q4⟩ := K4.out hz2
          subst hz hz2 q1 q3
          generalize M.pd1 E 0 (-1, t) = PD at *
          have q2' := q2.keep (w' := w8) (S' := (· < w8.heap.size)) (Kp.below hb68) (fun b hb => Nat.lt_of_lt_of_le hb hb68.size)
          obtain ⟨b1, o1, rfl, l1', f1⟩ := q2'.at' (by simp)
          obtain ⟨b2, o2, rfl, l2', f2⟩ := q4.at' (by simp)
          obtain ⟨ev1, x0, x1, x2, x3, x4⟩ := f1 0 PD rfl
          obtain ⟨ev2, y0, y1, y2, y3, y4⟩ := f2 0 PD rfl
          rw [Nat.zero_mul, Nat.add_zero] at x0 x1 x2 x3 y0 y1 y2 y3
          obtain ⟨ae, ce, rfl, u1, u2, u3⟩ := x4
          obtain ⟨af, cf, rfl, v1, v2, v3⟩ := y4
          have cS : ∀ d os, Calls Try.prog 11 #[.slice ae PD.ev.length ce, .slice af PD.ev.length cf] (grow (redrawn w8 d) os) fun e w'' => e = .returned (.bool true) ∧ ∃ p : Regrown, w'' = grow (redrawn w8 p.d) p.os := fun d os => by
            have hbg := below_regrown w8 d os
            exact Calls.regrown_of (Z.Same_yes PD.ev ae af ce cf _ ((u3.keep (Kp.below hbg)).le (fun b hb => Nat.lt_of_lt_of_le hb hbg.size)) u1 u2 ((v3.keep (Kp.below hbg)).le (fun b hb => Nat.lt_of_lt_of_le hb hbg.size)) v1 v2)
          have hq1 : (PD.er == PD.er) = true := by simp
          clear u3 v3 q2 q2' q4 f1 f2 J4 K4 HE2
          generalize PD.er = ce1 at *
          generalize PD.ev.length = cn at *
          go_wp2_with fail
          have gx1 := cell_regrown x1
          have gx2 := cell_regrown x2
          have gy1 := cell_regrown y1
          have gy2 := cell_regrown y2
          refine wp_region_quiet_below (by kernel_rfl) (by kernel_rfl) ?_
          repeat (go_big_quiet_step (exact cS _ _))
          refine wpQuiet_nil ?_
          rintro w9 ⟨⟨dq, osq⟩, hw9⟩
          have hb9 : Below w8.heap.size w8 w9 := by rw [hw9]; exact below_regrown w8 dq osq
          clear hw9 cS
          go_wp2_with fail
          go_ret
          exact ⟨rfl, hb08.trans (hb9.mono hb08.size)⟩
        · have hy : (VL != 0) = true := by simp [hz2]
          subst hz
          by_cases hk0 : k = 0
          · subst hk0
            clear J4 K4 HE2 hz2
            go_wp2_with fail
            go_ret
            exact ⟨rfl, hb08⟩
          · have h5 : VL = 5 := by
              rcases HE2.out (by omega) with h | h
              · exact absurd h.symm hz2
              · exact h
            subst h5
            have hk1 : ((k : Int) == 0) = false := by simp; omega
            clear J4 K4 HE2 hz2 hy hk0
            go_wp2_with fail
            go_ret
            exact ⟨rfl, hb08⟩
      · have hy : (VE != 0) = true := by simp [hz]
        by_cases hk0 : k = 0
        · subst hk0
          clear J4 K4 HE2 hz
          go_wp2_with fail
          go_ret
          exact ⟨rfl, hb08⟩
        · have hk1 : ((k : Int) == 0) = false := by simp; omega
          rcases HE2.out (by omega) with h | h
          · subst h
            have hs : (VE == VE) = true := by simp
            clear J4 K4 HE2 hz hk0
            go_wp2_with fail
            go_ret
            exact ⟨rfl, hb08⟩
          · subst h
            by_cases h5 : VE = 5
            · subst h5
              clear J4 K4 HE2 hz hk0 hy
              go_wp2_with fail
              go_ret
              exact ⟨rfl, hb08⟩
            · have hs : (VE == 5) = false := by simp [h5]
              clear J4 K4 HE2 hz hk0 h5
              go_wp2_with fail
              go_ret
              exact ⟨rfl, hb08⟩
end Go.Proofs.Ytaohahahhjkcdah.X
