/- What was played as it lies; the laws' alive; Play in whatever world. -/
import Derived.Test.YtaohahahhjkcdahX11
namespace Go.Proofs.Ytaohahahhjkcdah.X
open Go.RowKit Go.Maps Go.Sort
set_option linter.unusedVariables false
set_option linter.unusedSimpArgs false

theorem LS.mono {w : World} {S S' : Nat → Prop} (hs : ∀ b, S b → S' b) (s : M.Sc) : ∀ ka, LS w S s ka → LS w S' s ka := by
  induction s using M.Sc.ind with
  | h t l ev kids ih =>
    intro ka h
    refine LL.ls ⟨fun hn => ?_⟩
    obtain ⟨b, off, h1, h2, h3⟩ := h.ll.at' hn
    refine ⟨b, off, h1, hs b h2, fun j k hj => ?_⟩
    obtain ⟨ea, ec, ka', kc, g1, ⟨g2, g3, g4⟩⟩ := h3 j k hj
    exact ⟨ea, ec, ka', kc, g1, g2, g3.mono hs, ih k (List.mem_of_getElem? hj) ka' g4⟩
theorem LL.mono {w : World} {S S' : Nat → Prop} {ao : Option Addr} {l : List M.Sc} (h : LL w S ao l) (hs : ∀ b, S b → S' b) : LL w S' ao l := ⟨fun hn => by
  obtain ⟨b, off, h1, h2, h3⟩ := h.at' hn
  refine ⟨b, off, h1, hs b h2, fun j s hj => ?_⟩
  obtain ⟨ea, ec, ka', kc, g1, g2⟩ := h3 j s hj
  exact ⟨ea, ec, ka', kc, g1, g2.n, g2.e.mono hs, LS.mono hs s ka' g2.k⟩⟩
theorem LL.to {w w' : World} {B : Nat} {ao : Option Addr} {l : List M.Sc} (h : LL w (· < B) ao l) (hb : Below B w w') (hz : B ≤ w'.heap.size) : LL w' (· < w'.heap.size) ao l :=
  (h.keep (Kp.below hb)).mono (fun b hb' => Nat.lt_of_lt_of_le hb' hz)
/-- What was played, as it lies. -/
structure DL (w : World) (S : Nat → Prop) (ao : Option Addr) (P : List M.Pd) : Prop where
  at' : 0 < P.length → ∃ b off, ao = some ⟨b, off, none⟩ ∧ S b ∧ ∀ j p, P[j]? = some p → ∃ ev, w.cell? ⟨b, off + j * 4, none⟩ = some (.int .i64 p.se) ∧ w.cell? ⟨b, off + j * 4 + 1, none⟩ = some (.int .i64 p.er) ∧ w.cell? ⟨b, off + j * 4 + 2, none⟩ = some ev ∧ w.cell? ⟨b, off + j * 4 + 3, none⟩ = some (.int .i64 p.p) ∧ EVs w S ev p.ev
theorem DL.keep {w w' : World} {S S' : Nat → Prop} {ao : Option Addr} {P : List M.Pd} (h : DL w S ao P) (hk : Kp S w w') (hs : ∀ b, S b → S' b) : DL w' S' ao P := ⟨fun hn => by
  obtain ⟨b, off, h1, h2, h3⟩ := h.at' hn
  refine ⟨b, off, h1, hs b h2, fun j p hj => ?_⟩
  obtain ⟨ev, g0, g1, g2, g3, g4⟩ := h3 j p hj
  exact ⟨ev, hk.cell h2 g0, hk.cell h2 g1, hk.cell h2 g2, hk.cell h2 g3, g4.keep hk hs⟩⟩
theorem OD.dl {w : World} {base : Nat} {v : Value} {P : List M.Pd} (h : OD w base v P) : ∃ ao c, v = .slice ao P.length c ∧ P.length ≤ c ∧ c ≤ 9223372036854775807 ∧ DL w (· < w.heap.size) ao P := by
  obtain ⟨C, h1, h2, h3⟩ := h.ex
  rcases h1.2 with ⟨e1, e2⟩ | ⟨g, cap, cur, e1, e2, e3, e4, hm, rest⟩
  · rw [e2, e1]
    exact ⟨none, 0, rfl, by omega, by omega, ⟨fun h => by omega⟩⟩
  · refine ⟨some ⟨g, 0, none⟩, cap, e1, e4, by unfold maxLen at hm; omega, ⟨fun hn => ⟨g, 0, rfl, (Array.getElem?_eq_some_iff.1 e3).1, fun j p hj => ?_⟩⟩⟩
    subst e1
    have hjl : j < P.length := (List.getElem?_eq_some_iff.1 hj).1
    obtain ⟨ev, g1, g2⟩ := h3 j p hj
    have hc := fun i (hi : i < 4) => (World.ownsRow.cellAt h1 (j * 4 + i) (by omega)).trans (rows_get h2 P.length j i hjl hi)
    rw [g1] at hc
    rw [Nat.zero_add]
    exact ⟨ev, hc 0 (by omega), hc 1 (by omega), hc 2 (by omega), hc 3 (by omega), g2.keep (fun _ _ => rfl) (fun b hb => hb.2.1)⟩
/-- What Play answers, as it lies. -/
structure PyR (w : World) (l : List M.Sc) (T : List (Int × Int)) (e : Ending) (w' : World) : Prop where
  b : Below w.heap.size w w'
  ex : ∃ ao n c, e = .returned (.tuple #[.slice ao n c, .int .i64 (M.cks l 1 0 0).1]) ∧ n ≤ c ∧ c ≤ 9223372036854775807 ∧ ((M.cks l 1 0 0).1 ≠ 0 → n = 0) ∧ ((M.cks l 1 0 0).1 = 0 → n = T.length ∧ DL w' (· < w'.heap.size) ao (M.py (M.pls l 0) 0 T))
theorem Play_at (l : List M.Sc) (T : List (Int × Int)) (w : World) (ao : Option Addr) (c : Nat) (tao : Option Addr) (tc : Nat) (hL : LL w (· < w.heap.size) ao l) (hc : l.length ≤ c) (hcm : c ≤ 9223372036854775807) (hT : TL w (· < w.heap.size) tao T) (htc : T.length ≤ tc) (htm : tc ≤ 9223372036854775807) (hTn : T.length ≤ 1048576) :
    Calls Try.prog 9 #[.slice ao l.length c, .slice tao T.length tc] w fun e w' => PyR w l T e w' :=
  (Play_any l T w ao c tao tc hL hc hcm hT htc htm hTn).mono fun e w' h => by
    refine ⟨h.b, ?_⟩
    by_cases hz : (M.cks l 1 0 0).1 = 0
    · obtain ⟨v, base, rfl, _, hO⟩ := h.ok hz
      obtain ⟨ao', c', rfl, h1, h2, h3⟩ := hO.dl
      refine ⟨ao', _, c', by rw [hz], h1, h2, fun q => absurd hz q, fun _ => ⟨M.py_len _ _ _, h3⟩⟩
    · exact ⟨none, 0, 0, h.bad hz, by omega, by omega, fun _ => rfl, fun q => absurd q hz⟩
theorem M.alive : M.cks [⟨2, 3, [], []⟩] 1 0 0 = (0, 1, 6) := by
  have e : M.ck ⟨2, 3, [], []⟩ 1 0 = (0, 1, 6) := by
    rw [M.ck_kids _ (by decide) (by decide) (by decide)]
    simp only [M.cks_nil]
    decide
  rw [M.cks_cons, e, M.cks_nil]
  decide
theorem alive_any (w : World) : Calls Try.prog 12 #[] w fun e w' => e = .returned (.bool true) ∧ Below w.heap.size w w' := by
  have hb : Below w.heap.size w (w.alloc (Obj.cells #[.int .i64 2, .int .i64 3, .slice none 0 0, .slice none 0 0] 44)) := (Below.refl _ _).alloc (Nat.le_refl _) _
  have hL : LL (w.alloc (Obj.cells #[.int .i64 2, .int .i64 3, .slice none 0 0, .slice none 0 0] 44)) (· < (w.alloc (Obj.cells #[.int .i64 2, .int .i64 3, .slice none 0 0, .slice none 0 0] 44)).heap.size) (some ⟨w.heap.size, 0, none⟩) [⟨2, 3, [], []⟩] := ⟨fun _ => ⟨w.heap.size, 0, rfl, by simp, fun j s hj => by
    match j, hj with
    | 0, hj =>
      simp at hj
      subst hj
      exact ⟨none, 0, none, 0, ⟨by simp [go_sem], by simp [go_sem], by simp [go_sem], by simp [go_sem]⟩, ⟨by simp, by omega, by simp, by omega, fun e he => by simp at he⟩, ⟨fun h => by simp at h⟩, LL.ls ⟨fun h => by simp at h⟩⟩
    | j + 1, hj => simp at hj⟩⟩
  have HL := Long_any [⟨2, 3, [], []⟩] _ (some ⟨w.heap.size, 0, none⟩) 1 hL (by simp) (by omega)
  rw [M.alive] at HL
  clear hL
  go_enter Try.func12, Try.ntmps12
  go_wp2_with fail
  refine HL.mono ?_
  rintro e w1 ⟨rfl, hb1⟩
  have hb2 := hb.trans (hb1.mono hb.size)
  clear hb hb1 HL
  go_wp2_with fail
  go_ret
  exact ⟨rfl, hb2⟩
/-- One turn, in a block of its own. -/
theorem TL.one {w : World} {g : Nat} {s t : Int} (h0 : w.cell? ⟨g, 0, none⟩ = some (.int .i64 s)) (h1 : w.cell? ⟨g, 1, none⟩ = some (.int .i64 t)) (hg : g < w.heap.size) (ht : t ≤ 9223372036854775807) : TL w (· < w.heap.size) (some ⟨g, 0, none⟩) [(s, t)] := ⟨fun _ => ⟨g, 0, rfl, hg, fun j x hj => by
  match j, hj with
  | 0, hj => simp at hj; subst hj; exact ⟨h0, h1, ht⟩
  | j + 1, hj => simp at hj⟩⟩
theorem TL.two {w : World} {g : Nat} {s t s' t' : Int} (h0 : w.cell? ⟨g, 0, none⟩ = some (.int .i64 s)) (h1 : w.cell? ⟨g, 1, none⟩ = some (.int .i64 t)) (h2 : w.cell? ⟨g, 2, none⟩ = some (.int .i64 s')) (h3 : w.cell? ⟨g, 3, none⟩ = some (.int .i64 t')) (hg : g < w.heap.size) (ht : t ≤ 9223372036854775807) (ht' : t' ≤ 9223372036854775807) : TL w (· < w.heap.size) (some ⟨g, 0, none⟩) [(s, t), (s', t')] := ⟨fun _ => ⟨g, 0, rfl, hg, fun j x hj => by
  match j, hj with
  | 0, hj => simp at hj; subst hj; exact ⟨h0, h1, ht⟩
  | 1, hj => simp at hj; subst hj; exact ⟨h2, h3, ht'⟩
  | j + 2, hj => simp at hj⟩⟩
/-- The document's Same at slices that lie as the same events. -/
theorem Same_evs {w : World} {v1 v2 : Value} {L : List Z.M.Ev} (h1 : EVs w (· < w.heap.size) v1 L) (h2 : EVs w (· < w.heap.size) v2 L) :
    Calls Try.prog 11 #[v1, v2] w fun e w' => e = .returned (.bool true) ∧ Below w.heap.size w w' := by
  obtain ⟨a1, c1, rfl, g1, g2, g3⟩ := h1
  obtain ⟨a2, c2, rfl, k1, k2, k3⟩ := h2
  exact Z.Same_yes L a1 a2 c1 c2 w (g3.le (fun _ h => h)) g1 g2 (k3.le (fun _ h => h)) k1 k2
end Go.Proofs.Ytaohahahhjkcdah.X
