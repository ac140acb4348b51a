/- What the program's copied comes to: events copied into a block of their own. -/
import Derived.Test.YtaohahahhjkcdahX1
import Derived.Laws.MakeOwn
import Derived.Laws.CopyOwn
namespace Go.Proofs.Ytaohahahhjkcdah.X
open Go.RowKit Go.Maps
set_option linter.unusedVariables false
set_option linter.unusedSimpArgs false

theorem infoEs : (Try.prog.info? 61).map (·.size) = some 5 := by kernel_rfl
/-- copy of elements of five cells. -/
theorem run_copy5 (w : World) (dT sT ty elem : TypeId) (g o dLen dCap : Nat) (a : Addr) (sLen sCap : Nat) (cur : Array Value) (t : TypeId) (cs : List Value)
    (hu : Try.prog.underlying dT = some (.slice elem)) (hs : (Try.prog.info? elem).map (·.size) = some 5)
    (hg : w.heap[g]? = some (.cells cur t (0, 0))) (hn : cs.length = Nat.min sLen dLen * 5)
    (hsrc : ∀ j v, cs[j]? = some v → w.cell? (a.add j) = some v) (hfit : o + cs.length ≤ cur.size) (h1 : ∀ v ∈ cs, v.oneCell' = true) :
    (Builtin.copy_ #[dT, sT] ty #[.slice (some ⟨g, o, none⟩) dLen dCap, .slice (some a) sLen sCap]).run Try.prog w =
      .ok (goInt (Nat.min sLen dLen)) (w.setRow g (cur.toList.take o ++ cs ++ cur.toList.drop (o + cs.length)).toArray) := by
  have hl := run_loadCells_list (P := Try.prog) w a cs hsrc
  have hst := run_storeCells_at Try.prog g o t cs 0 cur w hg (by simpa using hfit) h1
  cases hq : Try.prog.info? elem with
  | none => simp [hq] at hs
  | some i =>
    have hi : i.size = 5 := by simpa [hq] using hs
    simp [Builtin.copy_, run_underlying hu, Builtin.lenOf, Builtin.firstCells, sizeOf, typeInfo, hq, hi, ← hn, hl, hst]
theorem run_copy5_none (w : World) (dT sT ty elem : TypeId) (dp sp : Option Addr) (dCap sCap : Nat)
    (hu : Try.prog.underlying dT = some (.slice elem)) (hs : (Try.prog.info? elem).map (·.size) = some 5) :
    (Builtin.copy_ #[dT, sT] ty #[.slice dp 0 dCap, .slice sp 0 sCap]).run Try.prog w = .ok (goInt 0) w := by
  cases hq : Try.prog.info? elem with
  | none => simp [hq] at hs
  | some i =>
    have hl := fun a : Addr => run_loadCells_list (P := Try.prog) w a [] (fun j v h => by simp at h)
    simp only [List.length_nil] at hl
    cases dp <;> cases sp <;> simp [Builtin.copy_, run_underlying hu, Builtin.lenOf, Builtin.firstCells, sizeOf, typeInfo, hq, storeCells, hl]
theorem wpList_make_run (w : World) {ops : Array Oper} {rest : List Oper} {o : Oper} {a : Act} {Q : Exit → Act → World → Prop}
    (hg : o.guard = none) (l c : Operand) (t : TypeId) (hop : o.op = Op.makeSlice t l c) (v : Value) (w' : World)
    (hrun : (Instr.makeSlice t (a.eval l) (a.eval c)).run Try.prog w = .ok v w')
    (hK : wpList Try.prog ops Q rest (a.put o.dst v) w') : wpList Try.prog ops Q (o :: rest) a w := by
  refine wpList_plain hg fun K hK' => ?_
  unfold Oper.wp
  simp [execOp, hop, hrun, Result.andThen]
  exact hK' _ _ hK
theorem wpList_copy_run {w : World} {ops : Array Oper} {rest : List Oper} {o : Oper} {a : Act} {Q : Exit → Act → World → Prop} (hgd : o.guard = none) (d s : Operand) (dT sT : TypeId)
    (ho : o.op = .call { callee := .builtin .copy, args := #[d, s], argTypes := #[dT, sT] }) (vd vs : Value) (hd : a.eval d = vd) (hs : a.eval s = vs) (v : Value) (w' : World)
    (hrun : (Builtin.copy_ #[dT, sT] o.type #[vd, vs]).run Try.prog w = .ok v w')
    (h : wpList Try.prog ops Q rest (a.put o.dst v) w') : wpList Try.prog ops Q (o :: rest) a w := by
  refine wpList_plain hgd fun K hK => ?_
  unfold Oper.wp
  simp [execOp, ho, resolve, invoke, builtin, hd, hs, hrun, Result.andThen]
  exact hK _ _ h
/-- Events in a block of their own. -/
abbrev evo (l : List Z.M.Ev) : Obj := .cells (l.flatMap Z.ec).toArray 61
theorem setRow_alloc (w : World) (X Y : Array Value) (t : TypeId) : (w.alloc (.cells X t)).setRow w.heap.size Y = w.alloc (.cells Y t) := by
  show ({ w with heap := (w.heap.push (.cells X t)).modify w.heap.size _ } : World) = { w with heap := w.heap.push (.cells Y t) }
  congr 1
  apply Array.ext
  · simp
  · intro k h1 h2
    rw [Array.getElem_modify]
    by_cases hk : w.heap.size = k
    · subst hk; simp
    · have : k < w.heap.size := by simp at h1; omega
      rw [if_neg hk, Array.getElem_push_lt this, Array.getElem_push_lt this]
theorem evo_EL (w : World) (l : List Z.M.Ev) : EL (w.alloc (evo l)) (· = w.heap.size) (some ⟨w.heap.size, 0, none⟩) l := ⟨fun hn => by
  refine ⟨w.heap.size, 0, rfl, rfl, fun j e hj => ?_⟩
  have hc : ∀ i, i < 5 → (w.alloc (evo l)).cell? ⟨w.heap.size, j * 5 + i, none⟩ = (Z.ec e)[i]? := fun i hi => by
    rw [← Z.ec_get hj i hi]
    simp [go_sem]
  rw [Nat.zero_add]
  exact ⟨hc 0 (by omega), hc 1 (by omega), hc 2 (by omega), hc 3 (by omega), hc 4 (by omega)⟩⟩
set_option maxHeartbeats 2000000 in
theorem copied_any (l : List Z.M.Ev) (ao : Option Addr) (c : Nat) (w : World) (hp : Z.LE w ao l) (hc : l.length ≤ c) (hn : l.length ≤ 4096) :
    Calls Try.prog 28 #[.slice ao l.length c] w fun e w' => e = .returned (.slice (some ⟨w.heap.size, 0, none⟩) l.length l.length) ∧ w' = w.alloc (evo l) := by
  obtain ⟨i, hi, hz, hz1, hz2⟩ := info_parts Z.infoE
  have hmk : (Instr.makeSlice 32 (.int .i64 (l.length : Int)) (.int .i64 (l.length : Int))).run Try.prog w = .ok (.slice (some ⟨w.heap.size, 0, none⟩) l.length l.length) (w.alloc (.cells (madeCells (Z.ea Z.M.z0).cells (l.length * 5)) 61)) := by
    have := run_make (P := Try.prog) w 32 61 i (Z.ea Z.M.z0) Try.underlying32 hi hz .i64 .i64 l.length l.length (by omega) (by omega) (by rw [hz2]; omega) (by omega)
    rw [hz1] at this
    simpa using this
  have Hmk : Hid ((Instr.makeSlice 32 (.int .i64 (l.length : Int)) (.int .i64 (l.length : Int))).run Try.prog w = .ok (.slice (some ⟨w.heap.size, 0, none⟩) l.length l.length) (w.alloc (.cells (madeCells (Z.ea Z.M.z0).cells (l.length * 5)) 61))) := hmk
  have hcp : ∀ ty, (Builtin.copy_ #[32, 32] ty #[.slice (some ⟨w.heap.size, 0, none⟩) l.length l.length, .slice ao l.length c]).run Try.prog (w.alloc (.cells (madeCells (Z.ea Z.M.z0).cells (l.length * 5)) 61)) = .ok (goInt l.length) (w.alloc (evo l)) := fun ty => by
    have hmin : Nat.min l.length l.length = l.length := Nat.min_self _
    by_cases h0 : 0 < l.length
    · obtain ⟨b, off, rfl, hb, hc5⟩ := hp.at' h0
      have hb2 : Below w.heap.size w (w.alloc (.cells (madeCells (Z.ea Z.M.z0).cells (l.length * 5)) 61)) := (Below.refl _ _).alloc (Nat.le_refl _) _
      have hl5 := Z.ec_len l
      have := run_copy5 (w.alloc (.cells (madeCells (Z.ea Z.M.z0).cells (l.length * 5)) 61)) 32 32 ty 61 w.heap.size 0 l.length l.length ⟨b, off, none⟩ l.length c (madeCells (Z.ea Z.M.z0).cells (l.length * 5)) 61 (l.flatMap Z.ec) Try.underlying32 infoEs (by rw [show ∀ o, (w.alloc o).heap = w.heap.push o from fun _ => rfl]; simp) (by rw [hmin]; exact hl5) (fun j v hj => ?_) (by rw [size_madeCells]; omega) (fun v hv => ?_)
      · rw [this, setRow_alloc, hmin]
        congr 3
        rw [hl5]
        have : (madeCells (Z.ea Z.M.z0).cells (l.length * 5)).toList.drop (0 + l.length * 5) = [] := by
          apply List.drop_eq_nil_of_le
          rw [Array.length_toList, size_madeCells]; omega
        rw [this]; simp
      · have hjl : j < l.length * 5 := by rw [← hl5]; exact (List.getElem?_eq_some_iff.1 hj).1
        have hq : j = j / 5 * 5 + j % 5 := by omega
        obtain ⟨e, he⟩ : ∃ e, l[j / 5]? = some e := ⟨_, List.getElem?_eq_getElem (by omega)⟩
        rw [hq, Z.ec_get he (j % 5) (by omega)] at hj
        have g := hc5 (j / 5) e he
        have hadd : (⟨b, off, none⟩ : Addr).add j = ⟨b, off + j, none⟩ := by
          unfold Addr.add
          by_cases hj0 : j = 0 <;> simp [hj0]
        rw [hadd]
        have hm : j % 5 = 0 ∨ j % 5 = 1 ∨ j % 5 = 2 ∨ j % 5 = 3 ∨ j % 5 = 4 := by omega
        rcases hm with e5 | e5 | e5 | e5 | e5
        all_goals rw [e5] at hj
        · rw [show off + j = off + j / 5 * 5 by omega]; exact (keepC hb2 hb g.c0).trans hj
        · rw [show off + j = off + j / 5 * 5 + 1 by omega]; exact (keepC hb2 hb g.c1).trans hj
        · rw [show off + j = off + j / 5 * 5 + 2 by omega]; exact (keepC hb2 hb g.c2).trans hj
        · rw [show off + j = off + j / 5 * 5 + 3 by omega]; exact (keepC hb2 hb g.c3).trans hj
        · rw [show off + j = off + j / 5 * 5 + 4 by omega]; exact (keepC hb2 hb g.c4).trans hj
      · obtain ⟨e, _, hv⟩ := List.mem_flatMap.1 hv
        simp [Z.ec] at hv
        rcases hv with rfl | rfl | rfl | rfl | rfl <;> rfl
    · obtain rfl : l = [] := List.length_eq_zero_iff.1 (by omega)
      rw [show (([] : List Z.M.Ev).length) = 0 from rfl, run_copy5_none _ _ _ _ 61 _ _ _ _ Try.underlying32 infoEs, show madeCells (Z.ea Z.M.z0).cells (0 * 5) = #[] by simp [madeCells]]
      rfl
  have hcp3 : (Builtin.copy_ #[32, 32] 3 #[.slice (some ⟨w.heap.size, 0, none⟩) l.length l.length, .slice ao l.length c]).run Try.prog (w.alloc (.cells (madeCells #[.int .i64 0, .int .i64 0, .int .i64 0, .int .i64 0, .int .i64 0] (l.length * 5)) 61)) = .ok (goInt l.length) (w.alloc (evo l)) := hcp 3
  generalize hW2 : w.alloc (evo l) = W2 at *
  clear hcp hmk hi hz hz1 hz2 hp
  go_enter Try.func28, Try.ntmps28
  go_wp2_with (at_make; refine wpList_make_run _ rfl _ _ 32 rfl _ _ Hmk.out ?_)
  go_ret
  exact ⟨rfl, rfl⟩
end Go.Proofs.Ytaohahahhjkcdah.X
