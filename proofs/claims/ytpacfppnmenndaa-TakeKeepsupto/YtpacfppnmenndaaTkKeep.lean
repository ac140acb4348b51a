/- What lies on a disk behind a record that was put, or half put (TakeKeeps). -/
import Derived.Test.YtpacfppnmenndaaTkMath
namespace Go.Proofs.Ytpacfppnmenndaa.Tk
set_option linter.unusedVariables false
set_option linter.unusedSimpArgs false

theorem wd_set (ws : List Int) (i j : Nat) (v : Int) : wd (ws.set i v) j = if i = j ∧ i < ws.length then v else wd ws j := by
  unfold wd
  rw [List.getD_eq_getElem?_getD, List.getD_eq_getElem?_getD, List.getElem?_set]
  by_cases h : i = j
  · subst h
    by_cases h2 : i < ws.length
    · rw [if_pos rfl, if_pos h2, if_pos ⟨rfl, h2⟩]; rfl
    · rw [if_pos rfl, if_neg h2, if_neg (fun h => h2 h.2), List.getElem?_eq_none (by omega)]
  · rw [if_neg h, if_neg (fun h2 => h h2.1)]
/-- Words put in turn, all of them. -/
def ap (p : List (Nat × Int)) (ws : List Int) : List Int := p.foldl (fun w x => w.set x.1 x.2) ws
theorem pts_ap (p : List (Nat × Int)) : ∀ (ws : List Int) (lf : Int), ∃ n, n ≤ p.length ∧ (pts p ws lf).1.1 = ap (p.take n) ws ∧ ((pts p ws lf).2 = true → n = p.length) ∧ ((pts p ws lf).2 = false → n < p.length) := by
  induction p with
  | nil => intro ws lf; exact ⟨0, Nat.le_refl _, rfl, (fun _ => rfl), (fun h => absurd h (by unfold pts; simp))⟩
  | cons x p ih =>
    intro ws lf
    unfold pts
    by_cases h0 : lf = 0
    · rw [if_pos h0]
      exact ⟨0, Nat.zero_le _, rfl, (fun h => absurd h (by simp)), (fun _ => Nat.zero_lt_succ _)⟩
    · rw [if_neg h0]
      obtain ⟨n, h1, h2, h3, h4⟩ := ih (ws.set x.1 x.2) (if 0 < lf then lf - 1 else lf)
      exact ⟨n + 1, Nat.succ_le_succ h1, h2, fun h => by rw [h3 h]; rfl, fun h => Nat.succ_lt_succ (h4 h)⟩
theorem ap_keep (p : List (Nat × Int)) : ∀ (ws : List Int) (j : Nat) (v : Int), (∀ x ∈ p, x.1 = j → x.2 = v) → wd ws j = v → wd (ap p ws) j = v := by
  induction p with
  | nil => intro ws j v _ h; exact h
  | cons x p ih =>
    intro ws j v h1 h2
    refine ih (ws.set x.1 x.2) j v (fun y hy => h1 y (List.mem_cons_of_mem _ hy)) ?_
    rw [wd_set]
    split
    · rename_i h; exact h1 x List.mem_cons_self h.1
    · exact h2
theorem pl_is (a : Nat) (r : List Int) : pl a r = [(a, 0), (a + 1, r.getD 1 0), (a + 2, r.getD 2 0), (a + 3, r.getD 3 0), (a + 4, r.getD 4 0), (a + 5, r.getD 5 0), (a + 6, r.getD 6 0), (a + 7, r.getD 7 0), (a, r.getD 0 0)] := rfl
theorem pl_len (a : Nat) (r : List Int) : (pl a r).length = 9 := rfl
theorem pl_mem {a : Nat} {r : List Int} {x : Nat × Int} (h : x ∈ pl a r) : a ≤ x.1 ∧ x.1 < a + 8 := by
  rw [pl_is] at h
  simp only [List.mem_cons, List.not_mem_nil, or_false] at h
  rcases h with rfl | rfl | rfl | rfl | rfl | rfl | rfl | rfl | rfl <;> exact ⟨by simp, by simp⟩
/-- Words elsewhere are as they were. -/
theorem pts_far (a : Nat) (r ws : List Int) (lf : Int) (j : Nat) (hj : j < a ∨ a + 8 ≤ j) : wd (pts (pl a r) ws lf).1.1 j = wd ws j := by
  obtain ⟨n, _, h2, _⟩ := pts_ap (pl a r) ws lf
  rw [h2]
  refine ap_keep _ _ _ _ (fun x hx e => ?_) rfl
  have := pl_mem (List.mem_of_mem_take hx)
  omega
/-- Half put: no record begins there. -/
theorem pts_half (a : Nat) (r ws : List Int) (lf : Int) (h0 : wd ws a = 0) (hB : (pts (pl a r) ws lf).2 = false) : wd (pts (pl a r) ws lf).1.1 a = 0 := by
  obtain ⟨n, _, h2, _, h4⟩ := pts_ap (pl a r) ws lf
  have hn := h4 hB
  rw [pl_len] at hn
  rw [h2]
  refine ap_keep _ _ _ _ (fun x hx e => ?_) h0
  have h8 : x ∈ (pl a r).take 8 := by
    have : (pl a r).take n = ((pl a r).take 8).take n := by rw [List.take_take, Nat.min_eq_left (by omega)]
    rw [this] at hx
    exact List.mem_of_mem_take hx
  rw [pl_is] at h8
  simp only [List.take_succ_cons, List.take_zero, List.mem_cons, List.not_mem_nil, or_false] at h8
  rcases h8 with rfl | rfl | rfl | rfl | rfl | rfl | rfl | rfl
  · rfl
  all_goals (exfalso; simp at e)
/-- Put whole. -/
theorem pts_whole (a : Nat) (r ws : List Int) (lf : Int) (ha : a + 8 ≤ ws.length) (hB : (pts (pl a r) ws lf).2 = true) (i : Nat) (hi : i < 8) : wd (pts (pl a r) ws lf).1.1 (a + i) = r.getD i 0 := by
  obtain ⟨n, _, h2, h3, _⟩ := pts_ap (pl a r) ws lf
  rw [h2, h3 hB, List.take_length, pl_is]
  unfold ap
  simp only [List.foldl_cons, List.foldl_nil, wd_set, List.length_set]
  match i, hi with
  | 0, _ => simp; omega
  | 1, _ => simp; omega
  | 2, _ => simp; omega
  | 3, _ => simp; omega
  | 4, _ => simp; omega
  | 5, _ => simp; omega
  | 6, _ => simp; omega
  | 7, _ => simp; omega
theorem lies_ge (ws : List Int) : ∀ (f : Nat) (h : Hs) (d : Nat), d ≤ (lies ws f h d).2 := by
  intro f
  induction f with
  | zero => intro h d; exact Nat.le_refl _
  | succ f ih =>
    intro h d
    unfold lies
    split
    · exact Nat.le_trans (Nat.le_succ _) (ih _ _)
    · exact Nat.le_refl _
theorem lies_off {ws : List Int} {h : Hs} {d : Nat} (hc : ¬ cnt ws h d) (f : Nat) : lies ws f h d = (h, d) := by
  cases f with
  | zero => rfl
  | succ f => unfold lies; rw [if_neg hc]
theorem lies_on {ws : List Int} {h : Hs} {d : Nat} (hc : cnt ws h d) (f : Nat) : lies ws (f + 1) h d = lies ws f (nx h (de ws (d * 8))) (d + 1) := by
  show (if cnt ws h d then _ else _) = _
  rw [if_pos hc]
/-- A disk that is the same so far. -/
theorem lies_far {ws ws' : List Int} {h' : Hs} {D : Nat} (hw : ∀ i, i < D * 8 → wd ws' i = wd ws i) (hl : ws'.length = ws.length) : ∀ (f : Nat) (h : Hs) (d : Nat), lies ws f h d = (h', D) → lies ws' f h d = lies ws' (f - (D - d)) h' D := by
  intro f
  induction f with
  | zero => intro h d e; cases e; rw [Nat.zero_sub]
  | succ f ih =>
    intro h d e
    by_cases hc : cnt ws h d
    · rw [lies_on hc] at e
      have hD : d + 1 ≤ D := by
        have := lies_ge ws f (nx h (de ws (d * 8))) (d + 1)
        rw [e] at this; exact this
      have e1 : de ws' (d * 8) = de ws (d * 8) := by
        unfold de
        rw [hw _ (by omega), hw _ (by omega), hw _ (by omega), hw _ (by omega), hw _ (by omega), hw _ (by omega), hw _ (by omega)]
      have e2 : sl ws' (d * 8) = sl ws (d * 8) := by
        unfold sl
        rw [hw _ (by omega), hw _ (by omega), hw _ (by omega), hw _ (by omega), hw _ (by omega), hw _ (by omega), hw _ (by omega), hw _ (by omega)]
      have hc' : cnt ws' h d := by
        unfold cnt
        rw [hl, e1, e2]; exact hc
      rw [lies_on hc', e1, ih _ _ e, show f + 1 - (D - d) = f - (D - (d + 1)) by omega]
    · rw [lies_off hc] at e
      cases e
      rw [Nat.sub_self]; rfl
theorem cnt_no {ws : List Int} {h : Hs} {d : Nat} (h0 : wd ws (d * 8) = 0) : ¬ cnt ws h d := fun hc => by
  have h1 := hc.2.1
  unfold sl rc re at h1
  rw [List.cons.injEq, h0] at h1
  exact absurd h1.1 (by decide)
/-- What lies on a disk; nothing behind it. -/
structure KI (ws : List Int) (h : Hs) (d : Nat) : Prop where
  o : opn ws = (h, d)
  z : ∀ j, d ≤ j → wd ws (j * 8) = 0
theorem KI.none (n : Nat) : KI (List.replicate n 0) ⟨[], 0⟩ 0 := by
  have hz : ∀ i, wd (List.replicate n 0) i = 0 := fun i => by
    unfold wd
    rw [List.getD_eq_getElem?_getD, List.getElem?_replicate]
    split <;> rfl
  exact ⟨lies_off (cnt_no (hz _)) _, fun j _ => hz _⟩
theorem KI.ok {ws : List Int} {h : Hs} {d : Nat} (hk : KI ws h d) : HOk h ∧ d ≤ 1024 := by
  have h1 := lies_ok ws 1024 ⟨[], 0⟩ 0 HOk.zero
  have h2 := lies_le ws 1024 ⟨[], 0⟩ 0
  have e : lies ws 1024 ⟨[], 0⟩ 0 = (h, d) := hk.o
  rw [e] at h1 h2
  exact ⟨h1, by simpa using h2⟩
theorem KI.half {ws : List Int} {h : Hs} {d : Nat} (hk : KI ws h d) (r : List Int) (lf : Int) (hB : (pts (pl (d * 8) r) ws lf).2 = false) : KI (pts (pl (d * 8) r) ws lf).1.1 h d := by
  refine ⟨?_, fun j hj => ?_⟩
  · show lies _ 1024 ⟨[], 0⟩ 0 = _
    rw [lies_far (fun i hi => pts_far (d * 8) r ws lf i (.inl hi)) (pts_len _ _ _) 1024 ⟨[], 0⟩ 0 hk.o]
    exact lies_off (cnt_no (pts_half _ _ _ _ (hk.z d (Nat.le_refl _)) hB)) _
  · by_cases e : j = d
    · rw [e]; exact pts_half _ _ _ _ (hk.z d (Nat.le_refl _)) hB
    · rw [pts_far _ _ _ _ _ (.inr (by omega))]; exact hk.z j hj
theorem pe_pe (e : Ed) : pe (pe e) = pe e := by
  by_cases h1 : e.k = 1
  · rw [pe_put h1]; exact pe_put h1
  by_cases h2 : e.k = 2
  · rw [pe_cut h2]; exact pe_cut h2
  rw [pe_else h1 h2]; exact pe_else h1 h2
theorem KI.whole {ws : List Int} {h : Hs} {d : Nat} (hk : KI ws h d) (e : Ed) (lf : Int) (hd : d < 1024) (hr : d * 8 + 8 ≤ ws.length) (he : er h e = 0) (hB : (pts (pl (d * 8) (rc e)) ws lf).2 = true) : KI (pts (pl (d * 8) (rc e)) ws lf).1.1 (nx h e) (d + 1) := by
  have hw := pts_whole (d * 8) (rc e) ws lf hr hB
  have hz : ∀ j, d + 1 ≤ j → wd (pts (pl (d * 8) (rc e)) ws lf).1.1 (j * 8) = 0 := fun j hj => by
    rw [pts_far _ _ _ _ _ (.inr (by omega))]; exact hk.z j (by omega)
  refine ⟨?_, hz⟩
  have hf := lies_far (fun i hi => pts_far (d * 8) (rc e) ws lf i (.inl hi)) (pts_len _ _ _) 1024 ⟨[], 0⟩ 0 hk.o
  generalize hW : (pts (pl (d * 8) (rc e)) ws lf).1.1 = W at *
  have hl : W.length = ws.length := by rw [← hW]; exact pts_len _ _ _
  have e0 : wd W (d * 8) = 1 := hw 0 (by omega)
  have e1 : wd W (d * 8 + 1) = (pe e).k := hw 1 (by omega)
  have e2 : wd W (d * 8 + 2) = (pe e).n := hw 2 (by omega)
  have e3 : wd W (d * 8 + 3) = (pe e).t.t := hw 3 (by omega)
  have e4 : wd W (d * 8 + 4) = (pe e).t.g := hw 4 (by omega)
  have e5 : wd W (d * 8 + 5) = (pe e).t.l := hw 5 (by omega)
  have e6 : wd W (d * 8 + 6) = (pe e).t.a := hw 6 (by omega)
  have e7 : wd W (d * 8 + 7) = (pe e).t.o := hw 7 (by omega)
  have ed : de W (d * 8) = pe e := by
    unfold de; rw [e1, e2, e3, e4, e5, e6, e7]
  have hc : cnt W h d := by
    refine ⟨by omega, ?_, by rw [ed, er_pe]; exact he⟩
    rw [ed]
    unfold sl rc
    rw [pe_pe, e0, e1, e2, e3, e4, e5, e6, e7]; rfl
  show lies W 1024 ⟨[], 0⟩ 0 = _
  rw [hf, show 1024 - (d - 0) = (1023 - d) + 1 by omega, lies_on hc, ed, nx_pe]
  exact lies_off (cnt_no (hz _ (Nat.le_refl _))) _
end Go.Proofs.Ytpacfppnmenndaa.Tk
