/- Push and Pop of a ring. -/
import Derived.Test.YtggbbekgmjkplaaRg2
namespace Go.Proofs.Ytggbbekgmjkplaa.Rg
open Go.RowKit Go.Maps Go.Sort
set_option linter.unusedVariables false
set_option linter.unusedSimpArgs false

theorem mod_ne {f n c i : Nat} (hf : f < n) (hc : c < n) (hi : i < c) : (f + c) % n ≠ (f + i) % n := by
  intro h
  by_cases h1 : f + c < n
  · rw [Nat.mod_eq_of_lt h1, Nat.mod_eq_of_lt (by omega)] at h; omega
  · rw [Nat.mod_eq_sub_mod (by omega), Nat.mod_eq_of_lt (by omega)] at h
    by_cases h2 : f + i < n
    · rw [Nat.mod_eq_of_lt h2] at h; omega
    · rw [Nat.mod_eq_sub_mod (by omega), Nat.mod_eq_of_lt (by omega)] at h; omega
theorem mod_next {f n c : Nat} : ((f + c) % n + 1) % n = (f + (c + 1)) % n := by
  rw [Nat.mod_add_mod, Nat.add_assoc]
/-- What is kept besides a ring's two blocks. -/
structure Kt (w : World) (b sb : Nat) (w' : World) : Prop where
  k : ∀ j, j < w.heap.size → j ≠ b → j ≠ sb → w'.heap[j]? = w.heap[j]?
  z : w.heap.size ≤ w'.heap.size
  b : ∀ B, B ≤ b → B ≤ sb → Below B w w'
theorem Kt.refl (w : World) (b sb : Nat) : Kt w b sb w := ⟨fun _ _ _ _ => rfl, Nat.le_refl _, fun B _ _ => Below.refl B w⟩
theorem Kt.drew (w : World) (b sb m : Nat) : Kt w b sb (w.drewN m) := ⟨fun _ _ _ _ => rfl, Nat.le_refl _, fun B _ _ => ⟨rfl, rfl, rfl, Nat.le_refl _, fun _ _ => rfl⟩⟩
theorem Kt.trans {w w1 w2 : World} {b sb : Nat} (h : Kt w b sb w1) (h2 : Kt w1 b sb w2) : Kt w b sb w2 :=
  ⟨fun j hj n1 n2 => (h2.k j (Nat.lt_of_lt_of_le hj h.z) n1 n2).trans (h.k j hj n1 n2), Nat.le_trans h.z h2.z, fun B h3 h4 => (h.b B h3 h4).trans (h2.b B h3 h4)⟩
theorem Kt.put {w : World} {b sb c i : Nat} {v : Value} (hc : c = b ∨ c = sb) : Kt w b sb (w.setCell ⟨c, i, none⟩ v) :=
  ⟨fun j hj n1 n2 => Below.heap_setCell _ _ _ _ (by show j ≠ c; omega), by simp [World.setCell], fun B h1 h2 => (Below.refl _ _).setCell (p := ⟨c, i, none⟩) (by show B ≤ c; omega) _⟩
theorem RL.push {w : World} {b sb n nx fs : Nat} {q : List Int} {g : Nat → Int} (h : RL w b sb n q nx fs g) (hq : q.length < n) (x : Int) :
    RL (((w.setCell ⟨sb, nx, none⟩ (.int .i64 x)).setCell ⟨b, 1, none⟩ (.int .i64 ((nx + 1) % n : Nat))).setCell ⟨b, 3, none⟩ (.int .i64 (q.length + 1 : Nat))) b sb n (q ++ [x]) ((nx + 1) % n) fs (fun i => if i = nx then x else g i) := by
  have hne := h.ne
  have hl : (q ++ [x]).length = q.length + 1 := by simp
  refine ⟨?_, ?_, hne, h.n0, h.n1, by rw [hl]; omega, h.f, ?_, ?_⟩
  · refine World.rowIs.congr (World.rowIs.set (World.rowIs.set (World.rowIs.setOther h.r hne _) 1 _) 3 _) (fun i hi => ?_)
    match i, hi with
    | 0, _ => rfl
    | 1, _ => rfl
    | 2, _ => rfl
    | 3, _ => simp [rc]
  · refine World.rowIs.congr (World.rowIs.setOther (World.rowIs.setOther (World.rowIs.set h.s nx (.int .i64 x)) hne.symm _) hne.symm _) (fun i hi => ?_)
    by_cases e : i = nx
    · rw [if_pos e, if_pos e]
    · rw [if_neg e, if_neg e]
  · rw [hl, h.x, mod_next]
  · intro i y hy
    by_cases e : i < q.length
    · rw [List.getElem?_append_left e] at hy
      rw [if_neg, h.v i y hy]
      rw [h.x]
      exact fun k => mod_ne h.f hq e k.symm
    · have hi : i < (q ++ [x]).length := (List.getElem?_eq_some_iff.1 hy).1
      rw [hl] at hi
      obtain rfl : i = q.length := by omega
      rw [List.getElem?_append_right (Nat.le_refl _)] at hy
      simp at hy
      rw [if_pos h.x.symm, hy]
theorem RL.pop {w : World} {b sb n nx fs : Nat} {y : Int} {q : List Int} {g : Nat → Int} (h : RL w b sb n (y :: q) nx fs g) :
    g fs = y ∧ RL ((w.setCell ⟨b, 2, none⟩ (.int .i64 ((fs + 1) % n : Nat))).setCell ⟨b, 3, none⟩ (.int .i64 q.length)) b sb n q nx ((fs + 1) % n) g := by
  have hne := h.ne
  have hl : (y :: q).length = q.length + 1 := by simp
  have hql := h.ql
  rw [hl] at hql
  have hn := h.n0
  refine ⟨?_, ?_, ?_, hne, hn, h.n1, by omega, Nat.mod_lt _ hn, ?_, ?_⟩
  · have := h.v 0 y rfl
    rw [Nat.add_zero, Nat.mod_eq_of_lt h.f] at this
    exact this
  · refine World.rowIs.congr (World.rowIs.set (World.rowIs.set h.r 2 _) 3 _) (fun i hi => ?_)
    match i, hi with
    | 0, _ => rfl
    | 1, _ => rfl
    | 2, _ => rfl
    | 3, _ => rfl
  · exact World.rowIs.setOther (World.rowIs.setOther h.s hne.symm _) hne.symm _
  · rw [h.x, hl, Nat.mod_add_mod]; congr 1; omega
  · intro i z hz
    rw [Nat.mod_add_mod, show fs + 1 + i = fs + (i + 1) by omega]
    exact h.v (i + 1) z hz
/-- What Push leaves. -/
structure PuQ (w : World) (b sb n : Nat) (q : List Int) (x : Int) (e : Ending) (w' : World) : Prop where
  e : e = .returned (.bool (decide (q.length < n)))
  r : ∃ nx fs g, RL w' b sb n (if q.length < n then q ++ [x] else q) nx fs g
  k : Kt w b sb w'
set_option maxHeartbeats 4000000 in
theorem Push_any (b sb n nx fs : Nat) (q : List Int) (g : Nat → Int) (x : Int) (w : World) (h : RL w b sb n q nx fs g) :
    Calls Try.prog 12 #[.pointer (some ⟨b, 0, none⟩), .int .i64 x] w fun e w' => PuQ w b sb n q x e w' := by
  obtain ⟨c, hc⟩ : ∃ c, c = q.length := ⟨_, rfl⟩
  have c0 := h.c0
  have c1 := h.c1
  have c3 := h.c3
  rw [← hc] at c3
  have hl : ∀ m, Calls Try.prog 14 #[.pointer (some ⟨b, 0, none⟩)] (w.drewN m) fun e w' => e = .returned (.int .i64 (c : Int)) ∧ ∃ p, w' = w.drewN p := fun m =>
    (Len_any b (c : Int) (w.drewN m) c3).mono (fun e w' k => ⟨k.1, m, k.2⟩)
  by_cases hq : c < n
  · have hd : ((c : Int) == (n : Int)) = false := by simp; omega
    have HQ : Hid (∀ p, PuQ w b sb n q x (.returned (.bool true)) ((((w.drewN p).setCell ⟨sb, nx, none⟩ (.int .i64 x)).setCell ⟨b, 1, none⟩ (.int .i64 ((nx + 1) % n : Nat))).setCell ⟨b, 3, none⟩ (.int .i64 (c + 1 : Nat)))) := fun p => by
      have hr := (h.drew p).push (by omega) x
      rw [← hc] at hr
      refine ⟨by rw [← hc]; simp [hq], ⟨_, _, _, by rw [if_pos (by omega)]; exact hr⟩, ?_⟩
      exact (((Kt.drew w b sb p).trans (Kt.put (.inr rfl))).trans (Kt.put (.inl rfl))).trans (Kt.put (.inl rfl))
    have hnx : nx < n := by rw [h.x]; exact Nat.mod_lt _ h.n0
    have sc : w.cell? ⟨sb, nx, none⟩ = some (.int .i64 (g nx)) := World.rowIs.cell h.s hnx
    have fb := h.fz
    have fs' := h.sz nx
    have hne := h.ne
    have hn := h.n1
    have lb := h.lb
    have hni : (nx : Int) < (n : Int) := by omega
    have ls := h.ls
    have hbh : ∀ m, Calls Try.prog 22 #[.pointer (some ⟨b, 0, none⟩), .int .i64 nx] ((w.drewN m).setCell ⟨sb, nx, none⟩ (.int .i64 x)) fun e w' => e = .returned (.int .i64 ((nx + 1) % n : Nat)) ∧ w' = (w.drewN m).setCell ⟨sb, nx, none⟩ (.int .i64 x) := fun m =>
      behind_any b sb n nx _ ((World.rowIs.cell (World.rowIs.setOther (h.drew m).r hne (.int .i64 x)) (i := 0) (by decide)).trans rfl) hnx hn
    have hadd : ∀ m, Calls Try.prog 23 #[.pointer (some ⟨b, 3, none⟩), .int .i64 1] (((w.drewN m).setCell ⟨sb, nx, none⟩ (.int .i64 x)).setCell ⟨b, 1, none⟩ (.int .i64 ((nx + 1) % n : Nat))) fun e w' => e = .returned (.int .i64 (c + 1 : Nat)) ∧ w' = ((((w.drewN m).setCell ⟨sb, nx, none⟩ (.int .i64 x)).setCell ⟨b, 1, none⟩ (.int .i64 ((nx + 1) % n : Nat))).setCell ⟨b, 3, none⟩ (.int .i64 (c + 1 : Nat))) := fun m =>
      Add_any b 3 c 1 (c + 1 : Nat) _ ((World.rowIs.cell (World.rowIs.set (World.rowIs.setOther (h.drew m).r hne _) 1 _) (i := 3) (by decide)).trans (by simp [rc, ← hc])) (World.rowIs.frozen (World.rowIs.set (World.rowIs.setOther (h.drew m).r hne _) 1 _) 3) (by rw [wid (by omega) (by omega)]; push_cast; rfl)
    generalize g nx = G at *
    generalize (nx + 1) % n = R at *
    clear h hc
    go_enter Try.func12, Try.ntmps12
    go_wp2_with fail
    go_quiet (exact hl _)
    go_wp2_with fail
    go_region
    go_wp2_with fail
    refine (hbh _).mono ?_
    rintro e w1 ⟨rfl, hw⟩
    rw [hw]
    clear hw
    go_wp2_with fail
    refine (hadd _).mono ?_
    rintro e w1 ⟨rfl, hw⟩
    rw [hw]
    clear hw
    go_wp2_with fail
    go_ret
    exact HQ.out _
  · have hd : ((c : Int) == (n : Int)) = true := by have := h.ql; simp; omega
    have HQ : Hid (∀ p, PuQ w b sb n q x (.returned (.bool false)) (w.drewN p)) := fun p => ⟨by rw [← hc]; simp [hq], ⟨nx, fs, g, by rw [if_neg (by omega)]; exact h.drew p⟩, Kt.drew _ _ _ _⟩
    clear h hc
    go_enter Try.func12, Try.ntmps12
    go_wp2_with fail
    go_quiet (exact hl _)
    go_wp2_with fail
    go_ret
    exact HQ.out _
/-- What Pop leaves. -/
structure PoQ (w : World) (b sb n : Nat) (q : List Int) (e : Ending) (w' : World) : Prop where
  e : e = .returned (.tuple #[.int .i64 (q.headD 0), .bool (decide (0 < q.length))])
  r : ∃ nx fs g, RL w' b sb n q.tail nx fs g
  k : Kt w b sb w'
set_option maxHeartbeats 4000000 in
theorem Pop_any (b sb n nx fs : Nat) (q : List Int) (g : Nat → Int) (w : World) (h : RL w b sb n q nx fs g) :
    Calls Try.prog 13 #[.pointer (some ⟨b, 0, none⟩)] w fun e w' => PoQ w b sb n q e w' := by
  have c0 := h.c0
  have c2 := h.c2
  have hl := Len_any b (q.length : Int) w h.c3
  cases q with
  | nil =>
    have HQ : Hid (PoQ w b sb n [] (.returned (.tuple #[.int .i64 0, .bool false])) w) := ⟨rfl, ⟨nx, fs, g, h⟩, Kt.refl _ _ _⟩
    have hl : Calls Try.prog 14 #[.pointer (some ⟨b, 0, none⟩)] w fun e w' => e = .returned (.int .i64 0) ∧ w' = w := hl
    clear h
    go_enter Try.func13, Try.ntmps13
    go_wp2_with fail
    refine hl.mono ?_
    rintro e w1 ⟨rfl, hw⟩
    rw [hw]
    clear hw hl
    go_wp2_with fail
    go_returns
    exact HQ.out
  | cons y q =>
    obtain ⟨c, hc⟩ : ∃ c, c = q.length := ⟨_, rfl⟩
    have hl : Calls Try.prog 14 #[.pointer (some ⟨b, 0, none⟩)] w fun e w' => e = .returned (.int .i64 (c + 1 : Nat)) ∧ w' = w := by rw [hc]; exact hl
    have hd : (((c + 1 : Nat) : Int) == 0) = false := by simp; omega
    have HQ : Hid (∀ p, PoQ w b sb n (y :: q) (.returned (.tuple #[.int .i64 y, .bool true])) (((w.drewN p).setCell ⟨b, 2, none⟩ (.int .i64 ((fs + 1) % n : Nat))).setCell ⟨b, 3, none⟩ (.int .i64 c))) := fun p => by
      have hr := (h.drew p).pop.2
      rw [← hc] at hr
      exact ⟨by simp, ⟨_, _, _, hr⟩, ((Kt.drew w b sb p).trans (Kt.put (.inl rfl))).trans (Kt.put (.inl rfl))⟩
    have hfn := h.f
    have sc : w.cell? ⟨sb, fs, none⟩ = some (.int .i64 y) := (World.rowIs.cell h.s hfn).trans (by rw [h.pop.1])
    have fb := h.fz
    have hne := h.ne
    have hn := h.n1
    have lb := h.lb
    have ls := h.ls
    have hni : (fs : Int) < (n : Int) := by omega
    have hbh : ∀ m, Calls Try.prog 22 #[.pointer (some ⟨b, 0, none⟩), .int .i64 fs] (w.drewN m) fun e w' => e = .returned (.int .i64 ((fs + 1) % n : Nat)) ∧ w' = w.drewN m := fun m =>
      behind_any b sb n fs _ c0 hfn hn
    have hadd : ∀ m, Calls Try.prog 23 #[.pointer (some ⟨b, 3, none⟩), .int .i64 (-1)] ((w.drewN m).setCell ⟨b, 2, none⟩ (.int .i64 ((fs + 1) % n : Nat))) fun e w' => e = .returned (.int .i64 (c : Nat)) ∧ w' = (((w.drewN m).setCell ⟨b, 2, none⟩ (.int .i64 ((fs + 1) % n : Nat))).setCell ⟨b, 3, none⟩ (.int .i64 (c : Nat))) := fun m =>
      Add_any b 3 (c + 1 : Nat) (-1) (c : Nat) _ ((World.rowIs.cell (World.rowIs.set (h.drew m).r 2 _) (i := 3) (by decide)).trans (by simp [rc, ← hc])) (World.rowIs.frozen (World.rowIs.set (h.drew m).r 2 _) 3) (by have := h.ql; rw [List.length_cons] at this; rw [wid (by omega) (by omega)]; omega)
    generalize (fs + 1) % n = R at *
    clear h hc
    go_enter Try.func13, Try.ntmps13
    go_wp2_with fail
    refine hl.mono ?_
    rintro e w1 ⟨rfl, hw⟩
    rw [hw]
    clear hw hl
    go_wp2_with fail
    go_quiet (fail)
    go_wp2_with fail
    refine (hbh _).mono ?_
    rintro e w1 ⟨rfl, hw⟩
    rw [hw]
    clear hw
    go_wp2_with fail
    refine (hadd _).mono ?_
    rintro e w1 ⟨rfl, hw⟩
    rw [hw]
    clear hw
    go_wp2_with fail
    go_returns
    exact HQ.out _
end Go.Proofs.Ytggbbekgmjkplaa.Rg
