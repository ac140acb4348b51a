/- How a beat lies in memory; what the document's wrong comes to. -/
import Derived.Test.YtaohahahhjkcdaeGreatDoorSG2
import Derived.Test.YtaohahahhjkcdaeGreatDoorSG6
import Derived.LoopTactic
namespace Go.Proofs.YtaohahahhjkcdaeGreatDoor.F
open Go.RowKit
set_option linter.unusedVariables false
set_option linter.unusedSimpArgs false

/-- A beat as it is read: its kids lie in blocks below B. -/
def Lies (w : World) (B : Nat) : M.Bt → Value → Prop
  | ⟨true, _, _, _, _⟩, _ => False
  | ⟨false, k, s, n, kid⟩, v => ∃ ao cap, v = .agg #[.int .i64 k, .int .i64 s, .slice ao n cap] ∧ n ≤ 9223372036854775807 ∧ (0 < n → ∃ b off, ao = some ⟨b, off, none⟩ ∧ b < B ∧ ∀ j, j < n → ∃ ao' cap', w.cell? ⟨b, off + j * 3, none⟩ = some (.int .i64 (kid j).k) ∧ w.cell? ⟨b, off + j * 3 + 1, none⟩ = some (.int .i64 (kid j).s) ∧ w.cell? ⟨b, off + j * 3 + 2, none⟩ = some (.slice ao' (kid j).n cap') ∧ Lies w B (kid j) (.agg #[.int .i64 (kid j).k, .int .i64 (kid j).s, .slice ao' (kid j).n cap']))
theorem Lies.step {w w' : World} {B : Nat} (b : M.Bt) : ∀ v, Lies w B b v → Below B w w' → Lies w' B b v := by
  induction b using M.Bt.ind with
  | nil => intro v h hb; exact False.elim h
  | mk k s n kid ih =>
    intro v h hb
    obtain ⟨ao, cap, h1, h2, h3⟩ := h
    refine ⟨ao, cap, h1, h2, fun hn => ?_⟩
    obtain ⟨b, off, e1, e2, e3⟩ := h3 hn
    refine ⟨b, off, e1, e2, fun j hj => ?_⟩
    obtain ⟨ao', cap', c0, c1, c2, c3⟩ := e3 j hj
    exact ⟨ao', cap', keepC hb e2 c0, keepC hb e2 c1, keepC hb e2 c2, ih j _ c3 hb⟩

end Go.Proofs.YtaohahahhjkcdaeGreatDoor.F

/- What the program's wrongAlone and look come to. -/
namespace Go.Proofs.YtaohahahhjkcdaeGreatDoor.F
open Go.RowKit
set_option linter.unusedVariables false
set_option linter.unusedSimpArgs false

theorem wrongAlone_any (k s : Int) (ao : Option Addr) (n cap : Nat) (w : World) (hn : n ≤ 9223372036854775807) :
    Calls Tryz.prog 49 #[.agg #[.int .i64 k, .int .i64 s, .slice ao n cap]] w fun e w' => e = .returned (.int .i64 (M.al k s n)) ∧ Below w.heap.size w w' := by
  by_cases c1 : s < 1 ∨ 65536 < s
  · rw [M.al_share k s n c1]
    rcases (show s < 1 ∨ (¬ s < 1 ∧ 65536 < s) by omega) with c | ⟨c, c'⟩
    all_goals
      clear c1
      go_enter Tryz.func49, Tryz.ntmps49
      go_wp2_with fail
      go_ret
      exact ⟨rfl, by go_grown⟩
  have d1 : ¬ s < 1 := by omega
  have d2 : ¬ 65536 < s := by omega
  by_cases c2 : k < 1 ∨ 4 < k
  · rw [M.al_kind k s n c1 c2]
    have f1 : (k == 1) = false := by simp; omega
    have f2 : (k == 2) = false := by simp; omega
    have f3 : (k == 3) = false := by simp; omega
    have f4 : (k == 4) = false := by simp; omega
    clear c1 c2
    go_enter Tryz.func49, Tryz.ntmps49
    go_wp2_with fail
    go_ret
    exact ⟨rfl, by go_grown⟩
  by_cases c3 : (k = 4 ∧ n = 0) ∨ (k ≠ 4 ∧ 0 < n)
  · rw [M.al_many k s n c1 c2 c3]
    rcases (show (k = 4 ∧ n = 0) ∨ (k = 1 ∧ 0 < n) ∨ (k = 2 ∧ 0 < n) ∨ (k = 3 ∧ 0 < n) by omega) with ⟨rfl, rfl⟩ | ⟨rfl, e⟩ | ⟨rfl, e⟩ | ⟨rfl, e⟩
    all_goals
      clear c1 c2 c3
      try (have e' : (0 : Int) < n := by omega)
      go_enter Tryz.func49, Tryz.ntmps49
      go_wp2_with fail
      go_ret
      exact ⟨rfl, by go_grown⟩
  · rw [M.al_ok k s n c1 c2 c3]
    rcases (show (k = 4 ∧ 0 < n) ∨ (k = 1 ∧ n = 0) ∨ (k = 2 ∧ n = 0) ∨ (k = 3 ∧ n = 0) by omega) with ⟨rfl, e⟩ | ⟨rfl, rfl⟩ | ⟨rfl, rfl⟩ | ⟨rfl, rfl⟩
    all_goals
      clear c1 c2 c3
      try (have e' : (0 : Int) < n := by omega)
      go_enter Tryz.func49, Tryz.ntmps49
      go_wp2_with fail
      go_ret
      exact ⟨rfl, by go_grown⟩
end Go.Proofs.YtaohahahhjkcdaeGreatDoor.F

/- What the program's look comes to: a closure that counts the beats that it meets. -/
namespace Go.Proofs.YtaohahahhjkcdaeGreatDoor.F
open Go.RowKit
set_option linter.unusedVariables false
set_option linter.unusedSimpArgs false

/-- What look leaves: the count at pm, itself at pl, all below B as it was. -/
structure LookS (w : World) (B pm pl : Nat) (m : Int) (w' : World) : Prop where
  b : Below B w w'
  z : w.heap.size ≤ w'.heap.size
  c : w'.cell? ⟨pm, 0, none⟩ = some (.int .i64 m)
  f : w'.frozen? ⟨pm, 0, none⟩ = false
  l : w'.cell? ⟨pl, 0, none⟩ = some (.func (.func 48) #[] #[.pointer (some ⟨pm, 0, none⟩), .pointer (some ⟨pl, 0, none⟩)])
def LookC (b : M.Bt) : Prop := ∀ (lev m : Int) (w : World) (B pm pl : Nat) (v : Value), Lies w B b v → B ≤ pm → B ≤ pl → pm ≠ pl → pm < w.heap.size → pl < w.heap.size → w.cell? ⟨pm, 0, none⟩ = some (.int .i64 m) → w.frozen? ⟨pm, 0, none⟩ = false → w.cell? ⟨pl, 0, none⟩ = some (.func (.func 48) #[] #[.pointer (some ⟨pm, 0, none⟩), .pointer (some ⟨pl, 0, none⟩)]) → 1 ≤ lev → lev ≤ 33 → 0 ≤ m → m ≤ 4096 →
  Calls Tryz.prog 48 #[v, .int .i64 lev, .pointer (some ⟨pm, 0, none⟩), .pointer (some ⟨pl, 0, none⟩)] w fun e w' => ∃ m', e = .returned (.int .i64 (M.wr b lev (4096 - m)).1) ∧ LookS w B pm pl m' w' ∧ ((M.wr b lev (4096 - m)).1 = 0 → m' = 4096 - (M.wr b lev (4096 - m)).2)

theorem look_much (lev m k s : Int) (ao : Option Addr) (n cap B pm pl : Nat) (w : World) (hp : B ≤ pm) (hl : B ≤ pl) (hne : pm ≠ pl) (sp : pm < w.heap.size) (sl : pl < w.heap.size) (cm : w.cell? ⟨pm, 0, none⟩ = some (.int .i64 m)) (fm : w.frozen? ⟨pm, 0, none⟩ = false) (cl : w.cell? ⟨pl, 0, none⟩ = some (.func (.func 48) #[] #[.pointer (some ⟨pm, 0, none⟩), .pointer (some ⟨pl, 0, none⟩)])) (h1 : 1 ≤ lev) (h2 : lev ≤ 33) (h3 : 0 ≤ m) (h4 : m ≤ 4096) (h : 32 < lev ∨ 4096 - m < 1) :
    Calls Tryz.prog 48 #[.agg #[.int .i64 k, .int .i64 s, .slice ao n cap], .int .i64 lev, .pointer (some ⟨pm, 0, none⟩), .pointer (some ⟨pl, 0, none⟩)] w fun e w' => ∃ m', e = .returned (.int .i64 4) ∧ LookS w B pm pl m' w' := by
  have sp' : pm ≠ w.heap.size := by omega
  have sl' : pl ≠ w.heap.size := by omega
  have fin : ∀ u : Value, LookS w B pm pl (m + 1) ((w.setCell ⟨pm, 0, none⟩ (.int .i64 (m + 1))).alloc (Obj.cells #[.int .i64 k, .int .i64 s, .slice ao n cap] 76)) := fun _ =>
    ⟨(Below.alloc (Below.setCell (p := ⟨pm, 0, none⟩) (Below.refl B w) hp _) (by simp; omega) _), by simp, by simp [go_sem, cm, sp], by simp [go_sem, fm, sp], by simp [go_sem, cl, sl, hne, Ne.symm hne]⟩
  rcases (show 32 < lev ∨ (¬ 32 < lev ∧ 4096 < m + 1) by omega) with c | ⟨c, c'⟩
  all_goals
    clear h
    go_enter Tryz.func48, Tryz.ntmps48
    go_wp2_with fail
    go_ret
    first | exact ⟨m + 1, rfl, fin undef⟩ | exact ⟨rfl, m + 1, fin undef⟩

theorem look_alone (lev m k s : Int) (ao : Option Addr) (n cap B pm pl : Nat) (w : World) (hp : B ≤ pm) (hl : B ≤ pl) (hne : pm ≠ pl) (sp : pm < w.heap.size) (sl : pl < w.heap.size) (cm : w.cell? ⟨pm, 0, none⟩ = some (.int .i64 m)) (fm : w.frozen? ⟨pm, 0, none⟩ = false) (cl : w.cell? ⟨pl, 0, none⟩ = some (.func (.func 48) #[] #[.pointer (some ⟨pm, 0, none⟩), .pointer (some ⟨pl, 0, none⟩)])) (h1 : 1 ≤ lev) (h2 : lev ≤ 33) (h3 : 0 ≤ m) (h4 : m ≤ 4096) (h : ¬ (32 < lev ∨ 4096 - m < 1)) (hn : n ≤ 9223372036854775807) (ha : M.al k s n ≠ 0) :
    Calls Tryz.prog 48 #[.agg #[.int .i64 k, .int .i64 s, .slice ao n cap], .int .i64 lev, .pointer (some ⟨pm, 0, none⟩), .pointer (some ⟨pl, 0, none⟩)] w fun e w' => ∃ m', e = .returned (.int .i64 (M.al k s n)) ∧ LookS w B pm pl m' w' := by
  have sp' : pm ≠ w.heap.size := by omega
  have sl' : pl ≠ w.heap.size := by omega
  have c : ¬ 32 < lev := by omega
  have c' : ¬ 4096 < m + 1 := by omega
  have fin : ∀ W, Below ((w.setCell ⟨pm, 0, none⟩ (.int .i64 (m + 1))).alloc (Obj.cells #[.int .i64 k, .int .i64 s, .slice ao n cap] 76)).heap.size ((w.setCell ⟨pm, 0, none⟩ (.int .i64 (m + 1))).alloc (Obj.cells #[.int .i64 k, .int .i64 s, .slice ao n cap] 76)) W → LookS w B pm pl (m + 1) W := fun W hW =>
    ⟨(Below.alloc (Below.setCell (p := ⟨pm, 0, none⟩) (Below.refl B w) hp _) (by simp; omega) _).trans (hW.mono (by simp; omega)), by have := hW.size; simp at this; omega, keepC hW (by simp; omega) (by simp [go_sem, cm, sp]), keepF hW (by simp; omega) (by simp [go_sem, fm, sp]), keepC hW (by simp; omega) (by simp [go_sem, cl, sl, hne, Ne.symm hne])⟩
  have hA := fun w => wrongAlone_any k s ao n cap w hn
  have hab : (M.al k s n != 0) = true := by simpa using ha
  generalize M.al k s n = A at *
  go_enter Tryz.func48, Tryz.ntmps48
  go_wp2_with fail
  refine (hA _).mono ?_
  rintro e w2 ⟨rfl, hb2⟩
  have hf := fin _ hb2
  go_wp2_with fail
  go_ret
  first | exact ⟨m + 1, rfl, hf⟩ | exact ⟨rfl, m + 1, hf⟩
end Go.Proofs.YtaohahahhjkcdaeGreatDoor.F

/- What the program's look comes to, where it has kids to look at; what its Wrong comes to. -/
namespace Go.Proofs.YtaohahahhjkcdaeGreatDoor.F
open Go.RowKit
set_option linter.unusedVariables false
set_option linter.unusedSimpArgs false

theorem Lies.wide {w : World} {B B' : Nat} (hB : B ≤ B') {b : M.Bt} : ∀ {v}, Lies w B b v → Lies w B' b v := by
  induction b using M.Bt.ind with
  | nil => intro v h; exact False.elim h
  | mk k s n kid ih =>
    intro v h
    obtain ⟨ao, cap, h1, h2, h3⟩ := h
    refine ⟨ao, cap, h1, h2, fun hn => ?_⟩
    obtain ⟨b, off, e1, e2, e3⟩ := h3 hn
    refine ⟨b, off, e1, by omega, fun j hj => ?_⟩
    obtain ⟨ao', cap', c0, c1, c2, c3⟩ := e3 j hj
    exact ⟨ao', cap', c0, c1, c2, ih j c3⟩
theorem LookS.alloc {w W : World} {B pm pl : Nat} {m : Int} (h : LookS w B pm pl m W) (sp : pm < w.heap.size) (sl : pl < w.heap.size) (hB : B ≤ w.heap.size) (o : Obj) : LookS w B pm pl m (W.alloc o) := by
  have z := h.z
  have hb : Below W.heap.size W (W.alloc o) := (Below.refl _ _).alloc (Nat.le_refl _) _
  exact ⟨h.b.alloc (by omega) _, by simp; omega, keepC hb (by omega) h.c, keepF hb (by omega) h.f, keepC hb (by omega) h.l⟩
theorem LookS.trans {w W W' : World} {B pm pl : Nat} {m m' : Int} (h : LookS w B pm pl m W) (h' : LookS W B pm pl m' W') : LookS w B pm pl m' W' :=
  ⟨h.b.trans h'.b, Nat.le_trans h.z h'.z, h'.c, h'.f, h'.l⟩

set_option maxHeartbeats 2000000 in
theorem look_kids (k s : Int) (n : Nat) (kid : Nat → M.Bt) (ih : ∀ j, LookC (kid j)) (lev m : Int) (ao : Option Addr) (cap B pm pl : Nat) (w : World) (hL : Lies w B (.mk k s n kid) (.agg #[.int .i64 k, .int .i64 s, .slice ao n cap])) (hp : B ≤ pm) (hl : B ≤ pl) (hne : pm ≠ pl) (sp : pm < w.heap.size) (sl : pl < w.heap.size) (cm : w.cell? ⟨pm, 0, none⟩ = some (.int .i64 m)) (fm : w.frozen? ⟨pm, 0, none⟩ = false) (cl : w.cell? ⟨pl, 0, none⟩ = some (.func (.func 48) #[] #[.pointer (some ⟨pm, 0, none⟩), .pointer (some ⟨pl, 0, none⟩)])) (h1 : 1 ≤ lev) (h2 : lev ≤ 33) (h3 : 0 ≤ m) (h4 : m ≤ 4096) (h : ¬ (32 < lev ∨ 4096 - m < 1)) (ha : M.al k s n = 0) :
    Calls Tryz.prog 48 #[.agg #[.int .i64 k, .int .i64 s, .slice ao n cap], .int .i64 lev, .pointer (some ⟨pm, 0, none⟩), .pointer (some ⟨pl, 0, none⟩)] w fun e w' => ∃ m', e = .returned (.int .i64 (M.wr (.mk k s n kid) lev (4096 - m)).1) ∧ LookS w B pm pl m' w' ∧ ((M.wr (.mk k s n kid) lev (4096 - m)).1 = 0 → m' = 4096 - (M.wr (.mk k s n kid) lev (4096 - m)).2) := by
  rw [M.wr_kids k s n kid lev (4096 - m) h ha]
  obtain ⟨ao1, cap1, e1, hn, hkids⟩ := hL
  simp only [Value.agg.injEq, Array.mk.injEq, List.cons.injEq, Value.slice.injEq, true_and, and_true] at e1
  obtain ⟨rfl, rfl⟩ : ao1 = ao ∧ cap1 = cap := by simpa [eq_comm] using e1
  clear e1
  have sp' : pm ≠ w.heap.size := by omega
  have sl' : pl ≠ w.heap.size := by omega
  have c : ¬ 32 < lev := by omega
  have c' : ¬ 4096 < m + 1 := by omega
  have hBw : B ≤ w.heap.size := by omega
  have fin : ∀ W, Below ((w.setCell ⟨pm, 0, none⟩ (.int .i64 (m + 1))).alloc (Obj.cells #[.int .i64 k, .int .i64 s, .slice ao1 n cap1] 76)).heap.size ((w.setCell ⟨pm, 0, none⟩ (.int .i64 (m + 1))).alloc (Obj.cells #[.int .i64 k, .int .i64 s, .slice ao1 n cap1] 76)) W → LookS w B pm pl (m + 1) W := fun W hW =>
    ⟨(Below.alloc (Below.setCell (p := ⟨pm, 0, none⟩) (Below.refl B w) hp _) (by simp; omega) _).trans (hW.mono (by simp; omega)), by have := hW.size; simp at this; omega, keepC hW (by simp; omega) (by simp [go_sem, cm, sp]), keepF hW (by simp; omega) (by simp [go_sem, fm, sp]), keepC hW (by simp; omega) (by simp [go_sem, cl, sl, hne, Ne.symm hne])⟩
  have hA := fun w => wrongAlone_any k s ao1 n cap1 w hn
  rw [ha] at hA
  have HK : Hid (∀ (i : Nat) (l' : Int), M.WK kid lev n i (4096 - m - 1) l' → i < n → ((M.wr (kid i) (lev + 1) l').1 ≠ 0 → M.wkids (fun j l => M.wr (kid j) (lev + 1) l) n 0 (4096 - m - 1) = M.wr (kid i) (lev + 1) l') ∧ ((M.wr (kid i) (lev + 1) l').1 = 0 → M.WK kid lev n (i + 1) (4096 - m - 1) (M.wr (kid i) (lev + 1) l').2)) := fun i l' hw hi => M.wk_step kid lev n i _ _ hw hi
  have HZ : Hid (∀ l' : Int, M.WK kid lev n n (4096 - m - 1) l' → M.wkids (fun j l => M.wr (kid j) (lev + 1) l) n 0 (4096 - m - 1) = (0, l')) := fun l' hw => M.wk_end kid lev n _ _ hw
  have HS : Hid (M.WK kid lev n 0 (4096 - m - 1) (4096 - (m + 1))) := by
    have := M.wk_start kid lev n (4096 - m - 1)
    have e : (4096 - (m + 1) : Int) = 4096 - m - 1 := by omega
    rw [e]; exact this
  generalize M.wkids (fun j l => M.wr (kid j) (lev + 1) l) n 0 (4096 - m - 1) = RR at *
  obtain ⟨RE, RL⟩ := RR
  dsimp only
  have HKd : Hid (0 < n → ∃ b off, ao1 = some ⟨b, off, none⟩ ∧ b < B ∧ ∀ j, j < n → ∃ ao' cap', w.cell? ⟨b, off + j * 3, none⟩ = some (.int .i64 (kid j).k) ∧ w.cell? ⟨b, off + j * 3 + 1, none⟩ = some (.int .i64 (kid j).s) ∧ w.cell? ⟨b, off + j * 3 + 2, none⟩ = some (.slice ao' (kid j).n cap') ∧ Lies w B (kid j) (.agg #[.int .i64 (kid j).k, .int .i64 (kid j).s, .slice ao' (kid j).n cap'])) := hkids
  clear hkids ha h
  go_enter Tryz.func48, Tryz.ntmps48
  go_wp2_with fail
  refine (hA _).mono ?_
  rintro e w2 ⟨rfl, hb2⟩
  have hf := fin _ hb2
  have K2 : w2.cell? ⟨w.heap.size, 2, none⟩ = some (.slice ao1 n cap1) := keepC hb2 (by simp) (by simp [go_sem])
  have z2 := hb2.size
  simp at z2
  have s2 : w.heap.size < w2.heap.size := by omega
  clear fin hA hb2 cm fm cl
  go_wp2_with fail
  go_loopw [27] (fun i wr => ∃ (j : Nat) (mm : Int), i = .int .i64 j ∧ j ≤ n ∧ 0 ≤ mm ∧ mm ≤ 4096 ∧ Hid (M.WK kid lev n j (4096 - m - 1) (4096 - mm)) ∧ LookS w B pm pl mm wr)
    (fun i _ => n - (intOf i).toNat)
  case atStart => exact ⟨0, m + 1, rfl, by omega, by omega, by omega, HS, hf⟩
  case round =>
    obtain ⟨j, mm, rfl, hj, l1, l2, hW, hS⟩ := hrel
    have zr := hS.z
    by_cases hlt : j < n
    · obtain ⟨b, off, rfl, hbB, hk⟩ := HKd.out (by omega)
      obtain ⟨ao', cap', q0, q1, q2, hLj⟩ := hk j hlt
      replace q0 := keepC hS.b hbB q0
      replace q1 := keepC hS.b hbB q1
      replace q2 := keepC hS.b hbB q2
      have ql := hS.l
      have hC := fun (W : World) (hX : LookS w B pm pl mm W) => ih j (lev + 1) mm W B pm pl _ (Lies.step (kid j) _ hLj hX.b) hp hl hne (by have := hX.z; omega) (by have := hX.z; omega) hX.c hX.f hX.l (by omega) (by omega) l1 l2
      obtain ⟨g1, g2⟩ := HK.out j (4096 - mm) hW.out hlt
      have g3 := M.wr_bd (kid j) (lev + 1) (4096 - mm) (by omega)
      have bz : b < wr.heap.size := by omega
      have pz : pl < wr.heap.size := by omega
      have hAl := fun o => hS.alloc sp sl hBw o
      by_cases hE : (M.wr (kid j) (lev + 1) (4096 - mm)).1 = 0
      · have g4 := g2 hE
        rw [hE] at hC
        have G4 : Hid (∀ x : Int, x = 4096 - (M.wr (kid j) (lev + 1) (4096 - mm)).2 → M.WK kid lev n (j + 1) (4096 - m - 1) (4096 - x) ∧ 0 ≤ x ∧ x ≤ 4096) := fun x hx => by
          have e : 4096 - x = (M.wr (kid j) (lev + 1) (4096 - mm)).2 := by omega
          rw [e]; exact ⟨g4, by omega, by omega⟩
        clear g1 g2 g4 hE HK HZ hLj hk HKd
        generalize (M.wr (kid j) (lev + 1) (4096 - mm)).2 = L2 at *
        generalize (kid j).k = kk at *
        generalize (kid j).s = ss at *
        generalize (kid j).n = nn at *
        go_wp2_with fail
        refine (hC _ (hAl _)).mono ?_
        rintro e w4 ⟨m2, rfl, hS4, hm2⟩
        obtain ⟨i1, i2, i3⟩ := G4.out m2 (hm2 (by first | trivial | rfl))
        have hS5 := (hAl (Obj.cells #[.int .i64 kk, .int .i64 ss, .slice ao' nn cap'] 76)).trans hS4
        have I1 : Hid (M.WK kid lev n (j + 1) (4096 - m - 1) (4096 - m2)) := i1
        clear q0 q1 q2 ql hm2 i1
        go_wp2_with fail
        go_roundw
        case rel => exact ⟨j + 1, m2, by go_num, by omega, i2, i3, I1, hS5⟩
        case measure => simp [intOf]; omega
      · have g4 := g1 hE
        have hEb : ((M.wr (kid j) (lev + 1) (4096 - mm)).1 != 0) = true := by simpa using hE
        rw [← g4] at hC hEb
        dsimp only at hC hEb
        have hEn0 : RE ≠ 0 := by simpa using hEb
        have hEn : Hid (RE ≠ 0) := hEn0
        clear hEn0
        clear g1 g2 hE HK HZ hLj g4 g3 hk HKd
        generalize (kid j).k = kk at *
        generalize (kid j).s = ss at *
        generalize (kid j).n = nn at *
        go_wp2_with fail
        refine (hC _ (hAl _)).mono ?_
        rintro e w4 ⟨m2, rfl, hS4, hm2⟩
        have hS5 := (hAl (Obj.cells #[.int .i64 kk, .int .i64 ss, .slice ao' nn cap'] 76)).trans hS4
        clear q0 q1 q2 ql hm2
        go_wp2_with fail
        go_ret
        have X := hEn.out
        first | exact ⟨m2, rfl, hS5, fun e => absurd e X⟩ | exact ⟨rfl, m2, hS5, fun e => absurd e X⟩
    · obtain rfl : j = n := by omega
      have hz := HZ.out _ hW.out
      have hz0 : RE = 0 ∧ RL = 4096 - mm := by simpa using hz
      have hz1 : Hid (RE = 0 ∧ RL = 4096 - mm) := hz0
      clear hz0 HK HZ hz
      go_wp2_with fail
      go_ret
      obtain ⟨rfl, rfl⟩ := hz1.out
      first | exact ⟨mm, rfl, hS, fun _ => by omega⟩ | exact ⟨rfl, mm, hS, fun _ => by omega⟩

theorem look_any (b : M.Bt) : LookC b := by
  induction b using M.Bt.ind with
  | nil => intro lev m w B pm pl v hL; exact False.elim hL
  | mk k s n kid ih =>
    intro lev m w B pm pl v hL hp hl hne sp sl cm fm cl h1 h2 h3 h4
    obtain ⟨ao, cap, rfl, hn, hk⟩ := hL
    by_cases c : 32 < lev ∨ 4096 - m < 1
    · rw [M.wr_much _ lev _ c]
      exact (look_much lev m k s ao n cap B pm pl w hp hl hne sp sl cm fm cl h1 h2 h3 h4 c).mono fun e w' ⟨m', a, b⟩ => ⟨m', a, b, fun e => absurd e (show ¬ (4 : Int) = 0 by decide)⟩
    · by_cases c2 : M.al k s n = 0
      · exact look_kids k s n kid ih lev m ao cap B pm pl w ⟨ao, cap, rfl, hn, hk⟩ hp hl hne sp sl cm fm cl h1 h2 h3 h4 c c2
      · rw [M.wr_al k s n kid lev _ c c2]
        exact (look_alone lev m k s ao n cap B pm pl w hp hl hne sp sl cm fm cl h1 h2 h3 h4 c hn c2).mono fun e w' ⟨m', a, b⟩ => ⟨m', a, b, fun e => absurd e c2⟩

theorem Wrong_any (b : M.Bt) (w : World) (B : Nat) (v : Value) (hL : Lies w B b v) (hB : B ≤ w.heap.size) :
    Calls Tryz.prog 32 #[v] w fun e w' => e = .returned (.int .i64 (M.wr b 1 4096).1) ∧ Below w.heap.size w w' := by
  obtain ⟨_, _, _, _, rfl⟩ | ⟨k, s, n, kid, rfl⟩ := M.Bt.two b
  · exact False.elim hL
  obtain ⟨ao, cap, rfl, hn, hk⟩ := hL
  have hmf : ∀ (fn : Fn) (first cap : Array Value) (w : World), (Instr.makeFunc fn first cap).run Tryz.prog w = .ok (.func fn first cap) w := fun _ _ _ _ => rfl
  have hC := fun (W : World) (hb : Below w.heap.size w W) (z : w.heap.size + 1 + 1 < W.heap.size) (cm : W.cell? ⟨w.heap.size + 1, 0, none⟩ = some (.int .i64 0)) (fm : W.frozen? ⟨w.heap.size + 1, 0, none⟩ = false) (cl) => look_any (.mk k s n kid) 1 0 W w.heap.size (w.heap.size + 1) (w.heap.size + 1 + 1) _ (Lies.step (.mk k s n kid) _ (⟨ao, cap, rfl, hn, fun h => by obtain ⟨b, off, e1, e2, e3⟩ := hk h; exact ⟨b, off, e1, e2, e3⟩⟩ : Lies w B (.mk k s n kid) _) (hb.mono hB) |> Lies.wide hB) (by omega) (by omega) (by omega) (by omega) z cm fm cl (by omega) (by omega) (by omega) (by omega)
  have hsf := fun (a : Addr) (c : Array Value) (w : World) => run_store Tryz.prog w a (.func (.func 48) #[] c) .plain rfl
  have e0 : (4096 : Int) - 0 = 4096 := rfl
  simp only [e0] at hC
  generalize M.wr (.mk k s n kid) 1 4096 = RR at *
  obtain ⟨RE, RL⟩ := RR
  dsimp only at *
  go_enter Tryz.func32, Tryz.ntmps32
  go_wp2_with fail
  refine (hC _ ?_ ?_ ?_ ?_ ?_).mono ?_
  · go_grown
  · simp
  · simp [go_sem]
  · simp [go_sem]
  · simp [go_sem]
  rintro e w4 ⟨m2, rfl, hS4, hm2⟩
  go_wp2_with fail
  go_ret
  exact ⟨rfl, Below.trans (by go_grown) hS4.b⟩
end Go.Proofs.YtaohahahhjkcdaeGreatDoor.F
