/- How sections lie in memory; what the program's wrongAlone, tooLong, all and during come to. -/
import Derived.Test.YtaohahahhjkcdahXMath2
import Derived.Test.YtaohahahhjkcdahXE
import Derived.Test.YtaohahahhjkcdahZ2
namespace Go.Proofs.Ytaohahahhjkcdah.X
open Go.RowKit Go.Maps
set_option linter.unusedVariables false
set_option linter.unusedSimpArgs false

theorem keepC {B : Nat} {W w1 : World} (hb : Below B W w1) {b o : Nat} {v : Value} (hlt : b < B) (h : W.cell? ⟨b, o, none⟩ = some v) : w1.cell? ⟨b, o, none⟩ = some v :=
  (hb.cell (p := ⟨b, o, none⟩) hlt).trans h
theorem keepF {B : Nat} {W w1 : World} (hb : Below B W w1) {b o : Nat} {v : Bool} (hlt : b < B) (h : W.frozen? ⟨b, o, none⟩ = v) : w1.frozen? ⟨b, o, none⟩ = v :=
  (hb.frozen (p := ⟨b, o, none⟩) hlt).trans h
theorem wid {x : Int} (h1 : -9223372036854775808 ≤ x) (h2 : x ≤ 9223372036854775807) : IntKind.i64.wrap x = x := by
  rw [IntKind.wrap_i64]; omega
theorem drewB (B : Nat) (w : World) (n : Nat) : Below B w (w.drewN n) := ⟨rfl, rfl, rfl, Nat.le_refl _, fun _ _ => rfl⟩
/-- The blocks of S are as they were. -/
def Kp (S : Nat → Prop) (w w' : World) : Prop := ∀ b, S b → w'.heap[b]? = w.heap[b]?
theorem Kp.cell {S : Nat → Prop} {w w' : World} (h : Kp S w w') {b o : Nat} (hb : S b) {v : Value} (hc : w.cell? ⟨b, o, none⟩ = some v) : w'.cell? ⟨b, o, none⟩ = some v :=
  (World.cell?_of_block (w := w) (w' := w') (a := ⟨b, o, none⟩) (h b hb)).trans hc
theorem Kp.below {B : Nat} {w w' : World} (hb : Below B w w') : Kp (· < B) w w' := fun b h => hb.block b h
theorem Kp.e5 {S : Nat → Prop} {w w' : World} (h : Kp S w w') {b o : Nat} (hb : S b) {e : Z.M.Ev} (hc : Z.E5 w b o e) : Z.E5 w' b o e :=
  ⟨h.cell hb hc.c0, h.cell hb hc.c1, h.cell hb hc.c2, h.cell hb hc.c3, h.cell hb hc.c4⟩
/-- Events as they lie, in a block of S. -/
structure EL (w : World) (S : Nat → Prop) (ao : Option Addr) (l : List Z.M.Ev) : Prop where
  at' : 0 < l.length → ∃ b off, ao = some ⟨b, off, none⟩ ∧ S b ∧ ∀ j e, l[j]? = some e → Z.E5 w b (off + j * 5) e
theorem EL.keep {w w' : World} {S : Nat → Prop} {ao : Option Addr} {l : List Z.M.Ev} (h : EL w S ao l) (hk : Kp S w w') : EL w' S ao l := ⟨fun hn => by
  obtain ⟨b, off, h1, h2, h3⟩ := h.at' hn
  exact ⟨b, off, h1, h2, fun j e hj => hk.e5 h2 (h3 j e hj)⟩⟩
theorem EL.mono {w : World} {S S' : Nat → Prop} {ao : Option Addr} {l : List Z.M.Ev} (h : EL w S ao l) (hs : ∀ b, S b → S' b) : EL w S' ao l := ⟨fun hn => by
  obtain ⟨b, off, h1, h2, h3⟩ := h.at' hn
  exact ⟨b, off, h1, hs b h2, h3⟩⟩
theorem EL.le {w : World} {S : Nat → Prop} {ao : Option Addr} {l : List Z.M.Ev} (h : EL w S ao l) (hs : ∀ b, S b → b < w.heap.size) : Z.LE w ao l := ⟨fun hn => by
  obtain ⟨b, off, h1, h2, h3⟩ := h.at' hn
  exact ⟨b, off, h1, hs b h2, h3⟩⟩
/-- A section's cells. -/
structure C4 (w : World) (b o : Nat) (s : M.Sc) (ea : Option Addr) (ec : Nat) (ka : Option Addr) (kc : Nat) : Prop where
  c0 : w.cell? ⟨b, o, none⟩ = some (.int .i64 s.t)
  c1 : w.cell? ⟨b, o + 1, none⟩ = some (.int .i64 s.l)
  c2 : w.cell? ⟨b, o + 2, none⟩ = some (.slice ea s.ev.length ec)
  c3 : w.cell? ⟨b, o + 3, none⟩ = some (.slice ka s.kids.length kc)
/-- What holds of its numbers. -/
structure N4 (s : M.Sc) (ec kc : Nat) : Prop where
  h1 : s.ev.length ≤ ec
  h2 : ec ≤ 9223372036854775807
  h3 : s.kids.length ≤ kc
  h4 : kc ≤ 9223372036854775807
  bd : ∀ e ∈ s.ev, e.t ≤ 9223372036854775807
/-- Kids as they lie, in blocks of S. -/
def LS (w : World) (S : Nat → Prop) : M.Sc → Option Addr → Prop
  | ⟨_, _, _, kids⟩, ka => 0 < kids.length → ∃ b off, ka = some ⟨b, off, none⟩ ∧ S b ∧ ∀ j k, (_ : k ∈ kids) → kids[j]? = some k → ∃ ea ec ka' kc, C4 w b (off + j * 4) k ea ec ka' kc ∧ N4 k ec kc ∧ EL w S ea k.ev ∧ LS w S k ka'
/-- A section by value. -/
structure SV (w : World) (S : Nat → Prop) (s : M.Sc) (ea : Option Addr) (ec : Nat) (ka : Option Addr) (kc : Nat) : Prop where
  n : N4 s ec kc
  e : EL w S ea s.ev
  k : LS w S s ka
/-- Sections as they lie. -/
structure LL (w : World) (S : Nat → Prop) (ao : Option Addr) (l : List M.Sc) : Prop where
  at' : 0 < l.length → ∃ b off, ao = some ⟨b, off, none⟩ ∧ S b ∧ ∀ j s, l[j]? = some s → ∃ ea ec ka kc, C4 w b (off + j * 4) s ea ec ka kc ∧ SV w S s ea ec ka kc
theorem LS.ll {w : World} {S : Nat → Prop} {s : M.Sc} {ka : Option Addr} (h : LS w S s ka) : LL w S ka s.kids := ⟨fun hn => by
  obtain ⟨t, l, ev, kids⟩ := s
  rw [LS] at h
  obtain ⟨b, off, h1, h2, h3⟩ := h hn
  refine ⟨b, off, h1, h2, fun j k hj => ?_⟩
  obtain ⟨ea, ec, ka', kc, g1, g2, g3, g4⟩ := h3 j k (List.mem_of_getElem? hj) hj
  exact ⟨ea, ec, ka', kc, g1, g2, g3, g4⟩⟩
theorem LL.ls {w : World} {S : Nat → Prop} {s : M.Sc} {ka : Option Addr} (h : LL w S ka s.kids) : LS w S s ka := by
  obtain ⟨t, l, ev, kids⟩ := s
  rw [LS]
  intro hn
  obtain ⟨b, off, h1, h2, h3⟩ := h.at' hn
  refine ⟨b, off, h1, h2, fun j k _ hj => ?_⟩
  obtain ⟨ea, ec, ka', kc, g1, ⟨g2, g3, g4⟩⟩ := h3 j k hj
  exact ⟨ea, ec, ka', kc, g1, g2, g3, g4⟩
theorem LS.keep {w w' : World} {S : Nat → Prop} (hk : Kp S w w') (s : M.Sc) : ∀ ka, LS w S s ka → LS w' S s ka := by
  induction s using M.Sc.ind with
  | h t l ev kids ih =>
    intro ka h
    refine LL.ls ⟨fun hn => ?_⟩
    obtain ⟨b, off, h1, h2, h3⟩ := h.ll.at' hn
    refine ⟨b, off, h1, h2, fun j k hj => ?_⟩
    obtain ⟨ea, ec, ka', kc, g1, ⟨g2, g3, g4⟩⟩ := h3 j k hj
    exact ⟨ea, ec, ka', kc, ⟨hk.cell h2 g1.c0, hk.cell h2 g1.c1, hk.cell h2 g1.c2, hk.cell h2 g1.c3⟩, g2, g3.keep hk, ih k (List.mem_of_getElem? hj) ka' g4⟩
theorem SV.keep {w w' : World} {S : Nat → Prop} {s : M.Sc} {ea : Option Addr} {ec : Nat} {ka : Option Addr} {kc : Nat} (h : SV w S s ea ec ka kc) (hk : Kp S w w') : SV w' S s ea ec ka kc :=
  ⟨h.n, h.e.keep hk, LS.keep hk s ka h.k⟩
theorem LL.keep {w w' : World} {S : Nat → Prop} {ao : Option Addr} {l : List M.Sc} (h : LL w S ao l) (hk : Kp S w w') : LL w' S ao l := ⟨fun hn => by
  obtain ⟨b, off, h1, h2, h3⟩ := h.at' hn
  refine ⟨b, off, h1, h2, fun j s hj => ?_⟩
  obtain ⟨ea, ec, ka', kc, g1, g2⟩ := h3 j s hj
  exact ⟨ea, ec, ka', kc, ⟨hk.cell h2 g1.c0, hk.cell h2 g1.c1, hk.cell h2 g1.c2, hk.cell h2 g1.c3⟩, g2.keep hk⟩⟩
/-- A section as a value. -/
abbrev sa (s : M.Sc) (ea : Option Addr) (ec : Nat) (ka : Option Addr) (kc : Nat) : Value := .agg #[.int .i64 s.t, .int .i64 s.l, .slice ea s.ev.length ec, .slice ka s.kids.length kc]

theorem M.inc_last {a : Int} {l : List Z.M.Ev} (h : M.Inc a l) : ∀ {j : Nat} {x : Z.M.Ev}, l[j]? = some x → j + 1 = l.length → ∀ e ∈ l, e.t ≤ x.t := by
  induction l generalizing a with
  | nil => intro j x hx; simp at hx
  | cons y r ih =>
    intro j x hx hj e he
    cases j with
    | zero =>
      simp at hx
      subst hx
      have : r = [] := by
        cases r with
        | nil => rfl
        | cons z q => simp at hj
      subst this
      simp at he; subst he; exact Int.le_refl _
    | succ j =>
      have hx' : r[j]? = some x := by simpa using hx
      have := ih h.2 hx' (by simpa using hj)
      rcases List.mem_cons.1 he with rfl | he
      · have g := M.inc_ge h.2 x (List.mem_of_getElem? hx'); exact g
      · exact this e he
theorem M.wr_inc {l : List Z.M.Ev} (h : Z.M.wr l = 0) : M.Inc 0 l := M.inc_wl (Z.M.wr_ok.1 h).2

theorem tooLong_any (t o : Int) (w : World) (h0 : 0 ≤ t) :
    Calls Try.prog 25 #[.agg #[.int .i64 t, .int .i64 o]] w fun e w' => e = .returned (.bool (decide (1125899906842624 < t * o))) ∧ Below w.heap.size w w' := by
  obtain ⟨D, hD⟩ : ∃ D, D = decide (1125899906842624 < t * o) := ⟨_, rfl⟩
  rw [← hD]
  by_cases c : 0 < t
  · have c' : decide (0 < t) = true := by simpa using c
    have hne : (t == 0) = false := by simp; omega
    have ht0 : t ≠ 0 := by omega
    have hq : Int.tdiv 1125899906842624 t = 1125899906842624 / t := Int.tdiv_eq_ediv_of_nonneg (by omega)
    have hb : 0 ≤ (1125899906842624 : Int) / t ∧ (1125899906842624 : Int) / t ≤ 1125899906842624 := by
      refine ⟨Int.ediv_nonneg (by omega) h0, Int.ediv_le_self _ (by omega)⟩
    have e : decide ((1125899906842624 : Int) / t < o) = D := by
      rw [hD]
      have h2 : (1125899906842624 : Int) / t < o ↔ 1125899906842624 < o * t := Int.ediv_lt_iff_lt_mul c
      rw [Int.mul_comm] at h2
      by_cases c3 : (1125899906842624 : Int) / t < o
      · rw [decide_eq_true c3, decide_eq_true (h2.1 c3)]
      · rw [decide_eq_false c3, decide_eq_false (fun q => c3 (h2.2 q))]
    have hwr : IntKind.i64.wrap ((1125899906842624 : Int) / t) = 1125899906842624 / t := wid (by omega) (by omega)
    clear hD
    generalize (1125899906842624 : Int) / t = Qt at *
    go_enter Try.func25, Try.ntmps25
    go_wp2_with fail
    go_quiet (fail)
    go_wp2_with fail
    go_ret
    exact ⟨by rw [← e]; try simp [go_sem, hq, hwr], ((Below.refl _ w).alloc (Nat.le_refl _) _).trans (drewB _ _ _)⟩
  · have c' : decide (0 < t) = false := by simpa using c
    have hz : t = 0 := by omega
    have : D = false := by rw [hD, hz]; simp
    subst this
    clear hD hz
    go_enter Try.func25, Try.ntmps25
    go_wp2_with fail
    go_quiet (fail)
    go_wp2_with fail
    go_ret
    exact ⟨rfl, ((Below.refl _ w).alloc (Nat.le_refl _) _).trans (drewB _ _ _)⟩
theorem all_any (t o : Int) (w : World) (h0 : 0 ≤ t * o) (h1 : t * o ≤ 9223372036854775807) :
    Calls Try.prog 26 #[.agg #[.int .i64 t, .int .i64 o]] w fun e w' => e = .returned (.int .i64 (t * o)) ∧ Below w.heap.size w w' := by
  have hw : IntKind.i64.wrap (t * o) = t * o := wid (by omega) h1
  generalize hP : t * o = P at *
  go_enter Try.func26, Try.ntmps26
  go_wp2_with fail
  go_ret
  exact ⟨by simp [go_sem, hP, hw], by go_grown⟩

set_option maxHeartbeats 2000000 in
theorem wrongAlone_any (s : M.Sc) (ea : Option Addr) (ec : Nat) (ka : Option Addr) (kc : Nat) (w : World) (hE : Z.LE w ea s.ev) (hN : N4 s ec kc) :
    Calls Try.prog 24 #[sa s ea ec ka kc] w fun e w' => e = .returned (.int .i64 (M.al s.t s.l s.ev)) ∧ Below w.heap.size w w' := by
  have HW := fun (W : World) (hp : Z.LE W ea s.ev) => Z.Wrong_any s.ev ea ec W hp hN.h1 hN.h2 hN.bd
  have H1 : Hid (s.t < 0 ∨ 65536 < s.t ∨ s.l < 0 ∨ 65536 < s.l → M.al s.t s.l s.ev = 3) := M.al_range
  have H2 : Hid (¬ (s.t < 0 ∨ 65536 < s.t ∨ s.l < 0 ∨ 65536 < s.l) → Z.M.wr s.ev ≠ 0 → M.al s.t s.l s.ev = Z.M.wr s.ev) := M.al_wr
  have H3 : Hid (¬ (s.t < 0 ∨ 65536 < s.t ∨ s.l < 0 ∨ 65536 < s.l) → Z.M.wr s.ev = 0 → (∃ e ∈ s.ev, s.l ≤ e.t) → M.al s.t s.l s.ev = 8) := M.al_fit
  have H4 : Hid (¬ (s.t < 0 ∨ 65536 < s.t ∨ s.l < 0 ∨ 65536 < s.l) → Z.M.wr s.ev = 0 → (∀ e ∈ s.ev, e.t < s.l) → M.al s.t s.l s.ev = 0) := M.al_ok
  have HI : Hid (Z.M.wr s.ev = 0 → M.Inc 0 s.ev) := M.wr_inc
  have n1 := hN.h1
  have n2 := hN.h2
  clear hN
  generalize M.al s.t s.l s.ev = V at *
  generalize Z.M.wr s.ev = Y at *
  obtain ⟨t, l, ev, kids⟩ := s
  simp only at *
  by_cases c1 : t < 0 ∨ 65536 < t ∨ l < 0 ∨ 65536 < l
  · have hV : V = 3 := H1.out c1
    subst hV
    clear H1 H2 H3 H4 HI HW
    rcases (show t < 0 ∨ (¬ t < 0 ∧ 65536 < t) ∨ (¬ t < 0 ∧ ¬ 65536 < t ∧ l < 0) ∨ (¬ t < 0 ∧ ¬ 65536 < t ∧ ¬ l < 0 ∧ 65536 < l) by omega) with c | ⟨c, ca⟩ | ⟨c, ca, cb⟩ | ⟨c, ca, cb, cc⟩
    all_goals
      clear c1
      go_enter Try.func24, Try.ntmps24
      go_wp2_with fail
      go_ret
      exact ⟨rfl, by go_grown⟩
  have d1 : ¬ t < 0 := by omega
  have d2 : ¬ 65536 < t := by omega
  have d3 : ¬ l < 0 := by omega
  have d4 : ¬ 65536 < l := by omega
  by_cases c2 : Y = 0
  · have hI := HI.out c2
    by_cases c3 : ev = []
    · have hV : V = 0 := H4.out c1 c2 (fun e he => by rw [c3] at he; simp at he)
      subst hV c2 c3
      have hd : decide ((0 : Int) < ((0 : Nat) : Int)) = false := rfl
      clear H1 H2 H3 H4 HI hI c1
      simp only [List.length_nil] at *
      go_enter Try.func24, Try.ntmps24
      go_wp2_with fail
      refine (HW _ (hE.step (by go_grown))).mono ?_
      rintro x w1 ⟨rfl, hb1⟩
      have q0 : w1.cell? ⟨w.heap.size, 2, none⟩ = some (.slice ea 0 ec) := keepC hb1 (by simp) (by simp [go_sem])
      have z1 : w.heap.size < w1.heap.size := by have := hb1.size; simp at this; omega
      have hb2 : Below w.heap.size w w1 := Below.trans ((Below.refl _ w).alloc (Nat.le_refl _) _) (hb1.mono (by simp))
      clear hb1
      go_wp2_with fail
      go_quiet (fail)
      go_wp2_with fail
      go_ret
      exact ⟨rfl, hb2.trans (drewB _ _ _)⟩
    · have hl : 0 < ev.length := List.length_pos_iff.2 c3
      obtain ⟨j, hj⟩ : ∃ j, ev.length = j + 1 := ⟨ev.length - 1, by omega⟩
      obtain ⟨x, hx⟩ : ∃ x, ev[j]? = some x := ⟨_, List.getElem?_eq_getElem (by omega)⟩
      have hlast := M.inc_last hI hx (by omega)
      have hE' := hE
      obtain ⟨b, off, rfl, hbl, hcell⟩ := hE'.at' hl
      have r0 := (hcell j x hx).c0
      have hV : V = if l ≤ x.t then 8 else 0 := by
        by_cases c4 : l ≤ x.t
        · rw [if_pos c4]; exact H3.out c1 c2 ⟨x, List.mem_of_getElem? hx, c4⟩
        · rw [if_neg c4]; exact H4.out c1 c2 (fun e he => by have := hlast e he; omega)
      subst c2
      have HV : Hid (V = if l ≤ x.t then 8 else 0) := hV
      have hd : decide ((0 : Int) < ((j + 1 : Nat) : Int)) = true := decide_eq_true (by omega)
      have wj : IntKind.i64.wrap (((j + 1 : Nat) : Int) - 1) = (j : Int) := by rw [wid (by omega) (by omega)]; omega
      have HS : ∀ W, Below w.heap.size w W → Z.LE W (some ⟨b, off, none⟩) ev := fun W hb => hE.step hb
      clear H1 H2 H3 H4 HI hI c1 c3 hlast hV hcell hx hE' hE
      show Calls Try.prog 24 #[.agg #[.int .i64 t, .int .i64 l, .slice (some ⟨b, off, none⟩) ev.length ec, .slice ka kids.length kc]] w _
      rw [hj] at HW n1 ⊢
      generalize x.t = xt at *
      by_cases c4 : l ≤ xt
      · have hV := HV.out
        rw [if_pos c4] at hV
        subst hV
        clear HV
        go_enter Try.func24, Try.ntmps24
        go_wp2_with fail
        refine (HW _ (HS _ (by go_grown))).mono ?_
        rintro x w1 ⟨rfl, hb1⟩
        have q0 : w1.cell? ⟨w.heap.size, 2, none⟩ = some (.slice (some ⟨b, off, none⟩) (j + 1) ec) := keepC hb1 (by simp) (by simp [go_sem])
        have q1 : w1.cell? ⟨w.heap.size, 1, none⟩ = some (.int .i64 l) := keepC hb1 (by simp) (by simp [go_sem])
        have z1 : w.heap.size < w1.heap.size := by have := hb1.size; simp at this; omega
        have hb2 : Below w.heap.size w w1 := Below.trans ((Below.refl _ w).alloc (Nat.le_refl _) _) (hb1.mono (by simp))
        have r1 := keepC hb2 hbl r0
        have z2 : b < w1.heap.size := by omega
        clear hb1 r0
        go_wp2_with fail
        go_quiet (fail)
        go_wp2_with fail
        go_ret
        exact ⟨rfl, hb2.trans (drewB _ _ _)⟩
      · have hV := HV.out
        rw [if_neg c4] at hV
        subst hV
        clear HV
        go_enter Try.func24, Try.ntmps24
        go_wp2_with fail
        refine (HW _ (HS _ (by go_grown))).mono ?_
        rintro x w1 ⟨rfl, hb1⟩
        have q0 : w1.cell? ⟨w.heap.size, 2, none⟩ = some (.slice (some ⟨b, off, none⟩) (j + 1) ec) := keepC hb1 (by simp) (by simp [go_sem])
        have q1 : w1.cell? ⟨w.heap.size, 1, none⟩ = some (.int .i64 l) := keepC hb1 (by simp) (by simp [go_sem])
        have z1 : w.heap.size < w1.heap.size := by have := hb1.size; simp at this; omega
        have hb2 : Below w.heap.size w w1 := Below.trans ((Below.refl _ w).alloc (Nat.le_refl _) _) (hb1.mono (by simp))
        have r1 := keepC hb2 hbl r0
        have z2 : b < w1.heap.size := by omega
        clear hb1 r0
        go_wp2_with fail
        go_quiet (fail)
        go_wp2_with fail
        go_ret
        exact ⟨rfl, hb2.trans (drewB _ _ _)⟩
  · have hV : V = Y := H2.out c1 c2
    subst hV
    have hy : (V != 0) = true := by simp [c2]
    clear H1 H2 H3 H4 HI c1 c2
    go_enter Try.func24, Try.ntmps24
    go_wp2_with fail
    refine (HW _ (hE.step (by go_grown))).mono ?_
    rintro x w1 ⟨rfl, hb1⟩
    have hb2 : Below w.heap.size w w1 := Below.trans ((Below.refl _ w).alloc (Nat.le_refl _) _) (hb1.mono (by simp))
    clear hb1
    go_wp2_with fail
    go_ret
    exact ⟨rfl, hb2⟩
end Go.Proofs.Ytaohahahhjkcdah.X
