/- unpoked. -/
import Derived.Test.YtpacfppnmenndaaTkUn
import Derived.Deep.DeepCutAuto
import Derived.BigQuiet
namespace Go.Proofs.Ytpacfppnmenndaa.Tk
open Go.RowKit Go.Maps Go.Sort Go.Proofs.Ytpacfppnmenndaa.Rg
open Go.Proofs.Ytpacfppnmenndaa.Y (Tn lt okT wr fst cod bfr OkL TL tab tc rows)
set_option linter.unusedVariables false
set_option linter.unusedSimpArgs false

/-- A step that puts no word from outside. -/
def un (x : Sp) : Sp := ⟨x.op, x.e, x.pw, 0, x.wd⟩
structure UnQ (w : World) (l : List Sp) (e : Ending) (w' : World) : Prop where
  b : Below w.heap.size w w'
  o : ∃ v, e = .returned v ∧ OS w' w.heap.size v (l.map un)
set_option maxRecDepth 20000 in
set_option maxHeartbeats 4000000 in
theorem unpoked_any (la : Option Addr) (m mc : Nat) (l : List Sp) (w : World) (hL : SCL w la l) (hm : l.length = m) (hmc : m ≤ mc) (hmm : mc ≤ 9223372036854775807) (hm20 : m ≤ 1048576) :
    Calls Try.prog 11 #[.slice la m mc] w fun e w' => UnQ w l e w' := by
  have HL : Hid (∀ W, Below w.heap.size w W → SCL W la l) := fun W hW => hL.bel hW
  have Hm : Hid (l.length = m) := hm
  obtain ⟨Q, hQ⟩ : ∃ Q, Q = UnQ w l := ⟨_, rfl⟩
  rw [← hQ]
  have HQ : Hid (Q = UnQ w l) := hQ
  clear hQ hL hm
  go_enter Try.func11, Try.ntmps11
  go_wp2_with fail
  go_loopw [8, 3] (fun i v ww => ∃ (k : Nat) (va : Option Addr) (vn vc : Nat), k ≤ m ∧ i = .int .i64 k ∧ v = .slice va vn vc ∧ Hid (OS ww w.heap.size (.slice va vn vc) ((l.take k).map un) ∧ Below w.heap.size w ww)) (fun i _ _ => m - (intOf i).toNat)
  case atStart => exact ⟨0, none, 0, 0, by omega, rfl, rfl, ⟨OS.nil _ _, Below.refl _ _⟩⟩
  case round =>
    obtain ⟨k, va, vn, vc, hk, rfl, rfl, hR⟩ := hrel
    by_cases hlt : k < m
    · obtain ⟨x, hx⟩ : ∃ x, l[k]? = some x := ⟨_, List.getElem?_eq_getElem (by rw [Hm.out]; exact hlt)⟩
      have hlt' : (k : Int) < (m : Int) := by omega
      have wk : IntKind.i64.wrap ((k : Int) + 1) = (k : Int) + 1 := wid (by omega) (by omega)
      obtain ⟨lb, off, rfl, q, c0, c1, c2, c3, c4, c5, c6, c7, c8, c9, c10⟩ := (HL.out wr hR.out.2).at' k x hx
      have HX : Hid (l[k]? = some x) := hx
      obtain ⟨W7, hW7⟩ : ∃ X, X = (wr.alloc (.cells #[.bool x.op, .int .i64 x.e.k, .int .i64 x.e.n, .int .i64 x.e.t.t, .int .i64 x.e.t.g, .int .i64 x.e.t.l, .int .i64 x.e.t.a, .int .i64 x.e.t.o, .int .i64 x.pw, .int .i64 0, .int .i64 x.wd] 44)).alloc (.cells #[.bool x.op, .int .i64 x.e.k, .int .i64 x.e.n, .int .i64 x.e.t.t, .int .i64 x.e.t.g, .int .i64 x.e.t.l, .int .i64 x.e.t.a, .int .i64 x.e.t.o, .int .i64 x.pw, .int .i64 0, .int .i64 x.wd] 44) := ⟨_, rfl⟩
      have hb7 : Below wr.heap.size wr W7 := by rw [hW7]; exact ((Below.refl _ _).alloc (Nat.le_refl _) _).alloc (by simp) _
      have G : Hid (∀ i, i < 11 → W7.cell? ⟨wr.heap.size + 1, i, none⟩ = some (sc (un x) i)) := fun i hi => by
        match i, hi with
        | 0, _ | 1, _ | 2, _ | 3, _ | 4, _ | 5, _ | 6, _ | 7, _ | 8, _ | 9, _ | 10, _ => rw [hW7]; simp [go_sem, sc, un]
      obtain ⟨P, hP⟩ : ∃ P, P = (l.take k).map un := ⟨_, rfl⟩
      have HP : Hid (P = (l.take k).map un) := hP
      have HO7 : Hid (OS W7 w.heap.size (.slice va vn vc) P) := by show OS W7 w.heap.size (.slice va vn vc) P; rw [hP]; exact hR.out.1.bel hb7
      have HB7 : Hid (Below w.heap.size w W7) := hR.out.2.trans (hb7.mono hR.out.2.size)
      have Hlen : Hid (P.length ≤ 1048577) := by show P.length ≤ 1048577; rw [hP, List.length_map, List.length_take]; omega
      clear hb7 hR hx hP
      go_wp2_with (at_builtin; rw [← hW7]; refine wpList_append_st rfl (.tmp 13) (.tmp 15) rfl w.heap.size (.slice va vn vc) _ rfl HO7.out (wr.heap.size + 1) (un x) rfl G.out Hlen.out HB7.out.size ?_)
      intro v' w8 ho hg
      rw [← hW7] at hg
      have hS : P ++ [un x] = (l.take (k + 1)).map un := by rw [HP.out, take_one HX.out, List.map_append]; rfl
      rw [hS] at ho
      obtain ⟨vo, vcap, e, _⟩ := ho.form
      generalize ((l.take (k + 1)).map un).length = rn at e
      subst e
      have HO8 : Hid (OS w8 w.heap.size (.slice vo rn vcap) ((l.take (k + 1)).map un)) := ho
      have HB8 : Hid (Below w.heap.size w w8) := HB7.out.trans (hg.bel HB7.out.size (fun j hj => (HO7.out.lt j hj).1))
      clear ho hg hS G hW7
      go_wp2_with fail
      go_roundw
      case rel => exact ⟨k + 1, vo, rn, vcap, by omega, rfl, rfl, HO8.out, HB8.out⟩
      case measure => simp [intOf]; omega
    · obtain rfl : k = m := by omega
      have htk : l.take k = l := List.take_of_length_le (by rw [Hm.out]; exact Nat.le_refl _)
      rw [htk] at hR
      have hst : Q (.returned (.slice va vn vc)) wr := by
        rw [HQ.out]
        exact ⟨hR.out.2, _, rfl, hR.out.1⟩
      clear htk
      go_wp2_with fail
      exact hst
end Go.Proofs.Ytpacfppnmenndaa.Tk
