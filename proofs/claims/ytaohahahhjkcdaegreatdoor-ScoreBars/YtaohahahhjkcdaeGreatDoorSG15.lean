/- What the program's add comes to: a tie makes the last span longer. -/
import Derived.Test.YtaohahahhjkcdaeGreatDoorSG14
import Derived.Test.YtaohahahhjkcdaeGreatDoorSG7
import Derived.Deep.RegionWith
namespace Go.Proofs.YtaohahahhjkcdaeGreatDoor.F
open Go.RowKit
set_option linter.unusedVariables false
set_option linter.unusedSimpArgs false

theorem spL_len (l : List M.Sp) : (spL l).length = l.length * 5 := by
  induction l with
  | nil => rfl
  | cons x l ih => simp [spL, ih, spC, Nat.succ_mul]
theorem spL_last (o : List M.Sp) (x : M.Sp) (i : Nat) : (spL (o ++ [x]))[o.length * 5 + i]? = (spC x)[i]? := by
  rw [spL_app, List.getElem?_append_right (by rw [spL_len]; omega), spL_len, show o.length * 5 + i - o.length * 5 = i by omega]
  simp [spL]
theorem spL_set (o : List M.Sp) (x : M.Sp) (f : M.Fr) : ((spL (o ++ [x])).set (o.length * 5 + 2) (.int .i64 f.1)).set (o.length * 5 + 2 + 1) (.int .i64 f.2) = spL (o ++ [(x.1, f, x.2.2)]) := by
  rw [spL_app, spL_app, List.set_append_right _ _ (by rw [spL_len]; omega), List.set_append_right _ _ (by rw [spL_len]; omega), spL_len, show o.length * 5 + 2 - o.length * 5 = 2 by omega, show o.length * 5 + 2 + 1 - o.length * 5 = 3 by omega]
  simp [spL, spC]

set_option maxRecDepth 20000 in
set_option maxHeartbeats 2000000 in
theorem add_tie (st lg : M.Fr) (sb : Bool) (o : List M.Sp) (x : M.Sp) (w : World) (po B : Nat) (hB : B ≤ po) (hO : OutAt w po (o ++ [x])) (hlen : o.length ≤ 4096) (hl : M.Ok lg) (hx : M.Ok x.2.1) :
    Calls Tryz.prog 34 #[.int .i64 3, .agg #[.int .i64 st.1, .int .i64 st.2, .int .i64 lg.1, .int .i64 lg.2, .bool sb], .pointer (some ⟨po, 0, none⟩)] w fun e w' => e = .returned (.int .i64 (M.tE (M.pl x.2.1 lg))) ∧ (∀ f, M.pl x.2.1 lg = some f → OutAt w' po (o ++ [(x.1, f, x.2.2)]) ∧ Keeps w po w') ∧ Below B w w' := by
  obtain ⟨v, cv0, hown⟩ := hO.v
  have fz := hO.fz
  have lt := hO.lt
  rw [show (o ++ [x]).length = o.length + 1 by simp] at hown
  obtain ⟨g, cap, rfl, c1, c2, c3, c4⟩ := own_cells hown (by omega)
  have q2 : w.cell? ⟨g, o.length * 5 + 2, none⟩ = some (.int .i64 x.2.1.1) := (c4 _ (by omega)).trans (spL_last o x 2)
  have q3 : w.cell? ⟨g, o.length * 5 + 3, none⟩ = some (.int .i64 x.2.1.2) := (c4 _ (by omega)).trans (spL_last o x 3)
  have f2 := hown.frozenAt (o.length * 5 + 2)
  have f3 := hown.frozenAt (o.length * 5 + 3)
  have hP := fun w => Plus_o x.2.1 lg w hx hl
  have HF : Hid (∀ f : M.Fr, M.pl x.2.1 lg = some f → M.tU (M.pl x.2.1 lg) = f.1 ∧ M.tD (M.pl x.2.1 lg) = f.2 ∧ ((spL (o ++ [x])).set (o.length * 5 + 2) (.int .i64 f.1)).set (o.length * 5 + 2 + 1) (.int .i64 f.2) = spL (o ++ [(x.1, f, x.2.2)])) := fun f hf => by rw [hf]; exact ⟨rfl, rfl, spL_set o x f⟩
  have Hown : Hid (w.ownsRow (po + 1) 89 5 (.slice (some ⟨g, 0, none⟩) (o.length + 1) cap) (o.length + 1) (spL (o ++ [x]))) := hown
  have HLn : Hid ((o ++ [x]).length = o.length + 1) := by show _ = _; simp
  clear c4 hown hO hl hx
  generalize hpl : M.pl x.2.1 lg = PL at *
  generalize M.tU PL = U at *
  generalize M.tD PL = D at *
  generalize M.tE PL = E at *
  generalize x.2.1.1 = xu at *
  generalize x.2.1.2 = xd at *
  generalize st.1 = su at *
  generalize st.2 = sd at *
  generalize lg.1 = lu at *
  generalize lg.2 = ld at *
  have gne : g ≠ w.heap.size := by omega
  have pne : po ≠ w.heap.size := by omega
  go_enter Tryz.func34, Tryz.ntmps34
  go_wp2_with fail
  have gpo : po ≠ g := by omega
  go_region_with (go_at_call 24; refine (hP _).mono ?_; rintro e wa ⟨rfl, hba⟩; have hw : Below w.heap.size w wa := Below.trans (by go_grown) (hba.mono (by simp)); have q2 := keepC hw c2 q2; have q3 := keepC hw c2 q3; have f2 := keepF hw c2 f2; have f3 := keepF hw c2 f3; have cp := keepC hw lt cv0; have fp := keepF hw lt fz; have za := hw.size; have gz : g < wa.heap.size := (by omega); have pz : po < wa.heap.size := (by omega))
  all_goals
    go_wp2_with fail
    go_ret
    refine ⟨rfl, fun f hf => ?_, ?_⟩
    · obtain ⟨h1, h2, h3⟩ := HF.out f (hpl.symm ▸ hf)
      have o1 := ((own_step Hown.out hw).stored (o.length * 5 + 2) (.int .i64 U)).1
      have o2 := (o1.stored (o.length * 5 + 2 + 1) (.int .i64 D)).1
      rw [h1, h2, h3] at o2
      rw [h1, h2]
      refine ⟨⟨by simp; omega, by simp [go_sem, fp], .slice (some ⟨g, 0, none⟩) (o.length + 1) cap, by simp [go_sem, cp, gpo, Ne.symm gpo], ?_⟩, ?_⟩
      · rw [show (o ++ [(x.1, f, x.2.2)]).length = o.length + 1 by simp]
        exact o2
      · refine ⟨by simp; omega, fun v b hc hb hne2 ho => ?_, fun v v' k hc hc' hk => ?_⟩
        · rw [cv0] at hc; simp only [Option.some.injEq] at hc; subst hc
          have hbg : b ≠ g := fun e => ho (by rw [e]; rfl)
          rw [heap_setCell_other _ _ _ _ (by show b ≠ g; exact hbg), heap_setCell_other _ _ _ _ (by show b ≠ g; exact hbg)]
          exact hw.block b hb
        · rw [cv0] at hc; simp only [Option.some.injEq] at hc; subst hc
          simp [go_sem, cp, gpo, Ne.symm gpo] at hc'; subst hc'
          exact .inl hk
    · exact ((hw.mono (by omega)).setCell (p := ⟨g, o.length * 5 + 2, none⟩) (show B ≤ g by omega) _).setCell (p := ⟨g, o.length * 5 + 2 + 1, none⟩) (show B ≤ g by omega) _
end Go.Proofs.YtaohahahhjkcdaeGreatDoor.F

/- What the program's add comes to, in one. -/
namespace Go.Proofs.YtaohahahhjkcdaeGreatDoor.F
open Go.RowKit
set_option linter.unusedVariables false
set_option linter.unusedSimpArgs false

theorem M.ad_new (out : List M.Sp) (k : Int) (st lg : M.Fr) (h : k ≠ 3 ∨ out = []) : M.ad out k st lg = some (out ++ [(st, lg, k == 1)]) := by
  unfold M.ad
  rcases h with h | h
  · have e : (k == 3) = false := by simpa using h
    rw [e]
  · subst h
    cases k == 3 <;> rfl
theorem M.ad_tie (o : List M.Sp) (x : M.Sp) (st lg : M.Fr) : M.ad (o ++ [x]) 3 st lg = (M.pl x.2.1 lg).map fun f => o ++ [(x.1, f, x.2.2)] := by
  unfold M.ad
  have e : ((3 : Int) == 3) = true := rfl
  rw [e, List.reverse_append]
  simp
/-- What a call answers that tells spans, or that a time can't be told. -/
def M.aE (o : Option (List M.Sp)) : Int := match o with | some _ => 0 | none => 4
/-- All lengths are written as they must be. -/
def M.OutOk (out : List M.Sp) : Prop := ∀ s ∈ out, M.Ok s.2.1
theorem M.ad_ok {out o : List M.Sp} {k : Int} {st lg : M.Fr} (h : M.OutOk out) (hl : M.Ok lg) (ha : M.ad out k st lg = some o) : M.OutOk o ∧ o.length ≤ out.length + 1 := by
  by_cases hk : k ≠ 3 ∨ out = []
  · rw [M.ad_new out k st lg hk] at ha
    simp only [Option.some.injEq] at ha
    subst ha
    refine ⟨fun s hs => ?_, by simp⟩
    rcases List.mem_append.1 hs with e | e
    · exact h s e
    · simp at e; rw [e]; exact hl
  · obtain ⟨o', x, rfl⟩ : ∃ o' x, out = o' ++ [x] := by
      rcases List.eq_nil_or_concat out with e | ⟨a, b, e⟩
      · exact absurd (.inr e) hk
      · exact ⟨a, b, by simpa using e⟩
    obtain rfl : k = 3 := by
      by_cases e : k = 3
      · exact e
      · exact absurd (.inl e) hk
    rw [M.ad_tie] at ha
    obtain ⟨f, hf, rfl⟩ := Option.map_eq_some_iff.1 ha
    have hx := h x (by simp)
    have hfo : M.Ok f := M.tell_ok hf (M.mul_pos' _ _ hx.low.1.1 hl.low.1.1)
    refine ⟨fun s hs => ?_, by simp⟩
    rcases List.mem_append.1 hs with e | e
    · exact h s (by simp [e])
    · simp at e; rw [e]; exact hfo

theorem add_any (k : Int) (st lg : M.Fr) (sb : Bool) (out : List M.Sp) (w : World) (po B : Nat) (hB : B ≤ po) (hO : OutAt w po out) (hlen : out.length ≤ 4096) (hk : M.OutOk out) (hl : M.Ok lg) :
    Calls Tryz.prog 34 #[.int .i64 k, .agg #[.int .i64 st.1, .int .i64 st.2, .int .i64 lg.1, .int .i64 lg.2, .bool sb], .pointer (some ⟨po, 0, none⟩)] w fun e w' => e = .returned (.int .i64 (M.aE (M.ad out k st lg))) ∧ (∀ o, M.ad out k st lg = some o → OutAt w' po o ∧ Keeps w po w') ∧ Below B w w' := by
  by_cases hc : k ≠ 3 ∨ out = []
  · rw [M.ad_new out k st lg hc]
    exact (add_new k st lg sb out w po B hB hO hlen hc).mono fun e w' ⟨h1, h2, h3⟩ => ⟨h1, fun o ho => by simp only [Option.some.injEq] at ho; subst ho; exact h2, h3⟩
  · obtain ⟨o', x, rfl⟩ : ∃ o' x, out = o' ++ [x] := by
      rcases List.eq_nil_or_concat out with e | ⟨a, b, e⟩
      · exact absurd (.inr e) hc
      · exact ⟨a, b, by simpa using e⟩
    obtain rfl : k = 3 := by
      by_cases e : k = 3
      · exact e
      · exact absurd (.inl e) hc
    rw [M.ad_tie]
    refine (add_tie st lg sb o' x w po B hB hO (by simp at hlen; omega) hl (hk x (by simp))).mono fun e w' ⟨h1, h2, h3⟩ => ⟨?_, fun o ho => ?_, h3⟩
    · rw [h1]; cases M.pl x.2.1 lg <;> rfl
    · obtain ⟨f, hf, rfl⟩ := Option.map_eq_some_iff.1 ho
      exact h2 f hf
end Go.Proofs.YtaohahahhjkcdaeGreatDoor.F

/- Plain facts on share: how many spans come, and that their lengths are as they must be. -/
namespace Go.Proofs.YtaohahahhjkcdaeGreatDoor.F

def M.ckids (f : Nat → Nat) : Nat → Nat
  | 0 => 0
  | c + 1 => M.ckids f c + f c
/-- How many beats. -/
def M.cnt : M.Bt → Nat
  | ⟨true, _, _, _, _⟩ => 0
  | ⟨false, _, _, n, kid⟩ => 1 + M.ckids (fun j => M.cnt (kid j)) n

theorem M.skids_ok (kid : Nat → M.Bt) (n : Nat) (all : Int) (L : M.Fr) (hL : M.Ok L) (hall : 1 ≤ all)
    (ih : ∀ j, j < n → ∀ (a l : M.Fr) (out o : List M.Sp), M.Ok a → M.Ok l → M.OutOk out → M.sh (kid j) a l out = some o → M.OutOk o ∧ o.length ≤ out.length + M.cnt (kid j)) :
    ∀ (c i : Nat) (a : M.Fr) (out : List M.Sp) (e : M.Fr) (o : List M.Sp), i + c ≤ n → M.Ok a → M.OutOk out → M.skids (fun j a l o => M.sh (kid j) a l o) (fun j => (kid j).s) all L c i a out = some (e, o) → M.OutOk o ∧ o.length + M.ckids (fun j => M.cnt (kid j)) i ≤ out.length + M.ckids (fun j => M.cnt (kid j)) (i + c) := by
  intro c
  induction c with
  | zero =>
    intro i a out e o _ _ ho hs
    simp only [M.skids, Option.some.injEq, Prod.mk.injEq] at hs
    obtain ⟨_, rfl⟩ := hs
    exact ⟨ho, Nat.le_refl _⟩
  | succ c ihc =>
    intro i a out e o hn ha ho hs
    rw [M.skids] at hs
    obtain ⟨lg, h1, hs⟩ := Option.bind_eq_some_iff.1 hs
    obtain ⟨o2, h2, hs⟩ := Option.bind_eq_some_iff.1 hs
    obtain ⟨e2, h3, hs⟩ := Option.bind_eq_some_iff.1 hs
    have hlg : M.Ok lg := M.tell_ok h1 (M.mul_pos' _ _ hL.low.1.1 hall)
    have he2 : M.Ok e2 := M.tell_ok h3 (M.mul_pos' _ _ ha.low.1.1 hlg.low.1.1)
    obtain ⟨q1, q2⟩ := ih i (by omega) a lg out o2 ha hlg ho h2
    obtain ⟨r1, r2⟩ := ihc (i + 1) e2 o2 e o (by omega) he2 q1 hs
    refine ⟨r1, ?_⟩
    rw [show i + (c + 1) = i + 1 + c by omega]
    have : M.ckids (fun j => M.cnt (kid j)) (i + 1) = M.ckids (fun j => M.cnt (kid j)) i + M.cnt (kid i) := rfl
    omega
theorem M.sh_ok (b : M.Bt) : M.Fine b → ∀ (a L : M.Fr) (out o : List M.Sp), M.Ok a → M.Ok L → M.OutOk out → M.sh b a L out = some o → M.OutOk o ∧ o.length ≤ out.length + M.cnt b := by
  induction b using M.Bt.ind with
  | nil => intro h; exact False.elim h
  | mk k s n kid ih =>
    intro hF a L out o ha hL ho hs
    obtain ⟨_, _, _, h4, h5, _, _, hk⟩ := hF
    by_cases hk4 : k = 4
    · have hsm := M.sums_bd kid n hk
      have hn := h4 hk4
      rw [M.sh, if_pos hk4] at hs
      obtain ⟨x, hx, rfl⟩ := Option.map_eq_some_iff.1 hs
      obtain ⟨e, o⟩ := x
      obtain ⟨q1, q2⟩ := M.skids_ok kid n (M.sums kid n) L hL (by omega) (fun j hj a l out o h1 h2 h3 h4 => ih j (hk j hj) a l out o h1 h2 h3 h4) n 0 a out e o (by omega) ha ho hx
      refine ⟨q1, ?_⟩
      rw [Nat.zero_add] at q2
      have e0 : M.ckids (fun j => M.cnt (kid j)) 0 = 0 := rfl
      show o.length ≤ out.length + (1 + M.ckids (fun j => M.cnt (kid j)) n)
      omega
    · rw [M.sh, if_neg hk4] at hs
      obtain ⟨q1, q2⟩ := M.ad_ok ho hL hs
      refine ⟨q1, ?_⟩
      show o.length ≤ out.length + (1 + M.ckids (fun j => M.cnt (kid j)) n)
      omega

theorem M.wkids_cnt (kid : Nat → M.Bt) (lev : Int) (ih : ∀ (j : Nat) (l : Int), 0 ≤ l → l ≤ 4096 → (M.wr (kid j) (lev + 1) l).1 = 0 → (M.wr (kid j) (lev + 1) l).2 = l - (M.cnt (kid j) : Nat)) :
    ∀ (c i : Nat) (l : Int), 0 ≤ l → l ≤ 4096 → (M.wkids (fun j l => M.wr (kid j) (lev + 1) l) c i l).1 = 0 → (M.wkids (fun j l => M.wr (kid j) (lev + 1) l) c i l).2 + (M.ckids (fun j => M.cnt (kid j)) (i + c) : Nat) = l + (M.ckids (fun j => M.cnt (kid j)) i : Nat) := by
  intro c
  induction c with
  | zero => intro i l _ _ _; rfl
  | succ c ihc =>
    intro i l h0 h1 h
    rw [M.wkids] at h ⊢
    by_cases e : (M.wr (kid i) (lev + 1) l).1 = 0
    · rw [if_neg (by simpa using e)] at h ⊢
      have b := M.wr_bd (kid i) (lev + 1) l h0
      have q := ih i l h0 h1 e
      have r := ihc (i + 1) (M.wr (kid i) (lev + 1) l).2 b.1 (by omega) h
      rw [show i + (c + 1) = i + 1 + c by omega]
      have : M.ckids (fun j => M.cnt (kid j)) (i + 1) = M.ckids (fun j => M.cnt (kid j)) i + M.cnt (kid i) := rfl
      omega
    · rw [if_pos e] at h; exact absurd h e
theorem M.wr_cnt (b : M.Bt) : ∀ lev l : Int, 0 ≤ l → l ≤ 4096 → (M.wr b lev l).1 = 0 → (M.wr b lev l).2 = l - (M.cnt b : Nat) := by
  induction b using M.Bt.ind with
  | nil => intro lev l _ _ h; exact absurd h (show ¬ (4 : Int) = 0 by decide)
  | mk k s n kid ih =>
    intro lev l h0 h1 h
    by_cases c : 32 < lev ∨ l < 1
    · rw [M.wr_much _ _ _ c] at h; exact absurd h (show ¬ (4 : Int) = 0 by decide)
    · by_cases ha : M.al k s n = 0
      · rw [M.wr_kids k s n kid lev l c ha] at h ⊢
        have q := M.wkids_cnt kid lev (fun j l a b e => ih j (lev + 1) l a b e) n 0 (l - 1) (by omega) (by omega) h
        rw [Nat.zero_add] at q
        have e0 : M.ckids (fun j => M.cnt (kid j)) 0 = 0 := rfl
        have e1 : M.cnt (.mk k s n kid) = 1 + M.ckids (fun j => M.cnt (kid j)) n := rfl
        omega
      · rw [M.wr_al k s n kid lev l c ha] at h; exact absurd h ha
/-- A beat with nothing wrong has at most 4,096 beats. -/
theorem M.cnt_bd (b : M.Bt) (h : (M.wr b 1 4096).1 = 0) : M.cnt b ≤ 4096 ∧ M.Fine b := by
  have q := M.wr_cnt b 1 4096 (by omega) (by omega) h
  have r := M.wr_fine b 1 4096 (by omega) (by omega) h
  exact ⟨by omega, r.1⟩
end Go.Proofs.YtaohahahhjkcdaeGreatDoor.F

/- Plain facts on spans: they stand one behind the other; shares that are all as many times greater share alike. -/
namespace Go.Proofs.YtaohahahhjkcdaeGreatDoor.F
set_option linter.unusedVariables false

theorem M.tell_eq {u d : Int} {f : M.Fr} (h : M.tell u d = some f) (hd : 1 ≤ d) : f.1 * d = u * f.2 := by
  obtain ⟨rfl, _, _⟩ := M.tell_some h hd
  have q1 := M.lu_mul u d
  have q2 := M.ld_mul u d
  show M.lu u d * d = u * M.ld u d
  generalize M.lu u d = x at *
  generalize M.ld u d = y at *
  generalize M.gi u d = g at *
  subst q1
  rw [← q2]
  grind
theorem M.tell_up {u d : Int} {f : M.Fr} (h : M.tell u d = some f) (hd : 1 ≤ d) (hu : 1 ≤ u) : 1 ≤ f.1 := by
  have e := M.tell_eq h hd
  have l := (M.tell_some h hd).2.1.1
  have p := M.mul_pos' u f.2 hu l
  by_cases c : 1 ≤ f.1
  · exact c
  · have : f.1 * d ≤ 0 * d := Int.mul_le_mul_of_nonneg_right (by omega) (by omega)
    omega
theorem M.pl_assoc {s x a L f e : M.Fr} (hs : 1 ≤ s.2) (hx : 1 ≤ x.2) (hL : 1 ≤ L.2) (h1 : M.pl s x = some a) (h2 : M.pl x L = some f) (h3 : M.pl a L = some e) : M.pl s f = some e := by
  have e1 := M.tell_eq h1 (M.mul_pos' _ _ hs hx)
  have e2 := M.tell_eq h2 (M.mul_pos' _ _ hx hL)
  have la := (M.tell_some h1 (M.mul_pos' _ _ hs hx)).2.1.1
  have lf := (M.tell_some h2 (M.mul_pos' _ _ hx hL)).2.1.1
  rw [← h3]
  unfold M.pl
  refine M.tell_congr (M.mul_pos' _ _ hs lf) (M.mul_pos' _ _ la hL) ?_
  have x0 : x.2 ≠ 0 := by omega
  apply Int.eq_of_mul_eq_mul_right x0
  clear h1 h2 h3 hs hx hL la lf
  obtain ⟨s1, s2⟩ := s
  obtain ⟨x1, x2⟩ := x
  obtain ⟨a1, a2⟩ := a
  obtain ⟨l1, l2⟩ := L
  obtain ⟨f1, f2⟩ := f
  simp only at *
  grind

/-- Spans one behind the other from a place on, and where they end. -/
def M.chn : List M.Sp → M.Fr → Option M.Fr
  | [], a => some a
  | x :: r, a => if x.1 = a ∧ 1 ≤ x.2.1.1 then (M.pl a x.2.1).bind (M.chn r) else none
theorem M.chn_app (l r : List M.Sp) (a : M.Fr) : M.chn (l ++ r) a = (M.chn l a).bind (M.chn r) := by
  induction l generalizing a with
  | nil => rfl
  | cons x l ih =>
    simp only [List.cons_append, M.chn]
    split
    · cases M.pl a x.2.1 with
      | none => rfl
      | some e => simp [ih]
    · rfl
theorem M.chn_ok (l : List M.Sp) (a e : M.Fr) (ha : M.Ok a) (hl : M.OutOk l) (h : M.chn l a = some e) : M.Ok e := by
  induction l generalizing a with
  | nil => simp only [M.chn, Option.some.injEq] at h; subst h; exact ha
  | cons x l ih =>
    rw [M.chn] at h
    split at h
    · obtain ⟨b, hb, h⟩ := Option.bind_eq_some_iff.1 h
      have hx : M.Ok x.2.1 := hl x (by simp)
      exact ih b (M.tell_ok hb (M.mul_pos' _ _ ha.low.1.1 hx.low.1.1)) (fun s hs => hl s (by simp [hs])) h
    · simp at h
theorem M.ok01 : M.Ok (0, 1) := by unfold M.Ok M.ok; decide
theorem M.ad_chn {out o : List M.Sp} {k : Int} {a L e : M.Fr} (ho : M.OutOk out) (ha : M.Ok a) (hL : M.Ok L) (hu : 1 ≤ L.1) (hc : M.chn out (0, 1) = some a) (h : M.ad out k a L = some o) (he : M.pl a L = some e) : M.chn o (0, 1) = some e := by
  by_cases hk : k ≠ 3 ∨ out = []
  · rw [M.ad_new out k a L hk] at h
    simp only [Option.some.injEq] at h
    subst h
    rw [M.chn_app, hc]
    simp only [Option.bind_some, M.chn]
    rw [if_pos ⟨trivial, hu⟩, he]
    rfl
  · obtain ⟨o', x, rfl⟩ : ∃ o' x, out = o' ++ [x] := by
      rcases List.eq_nil_or_concat out with e | ⟨a, b, e⟩
      · exact absurd (.inr e) hk
      · exact ⟨a, b, by simpa using e⟩
    obtain rfl : k = 3 := by
      by_cases e : k = 3
      · exact e
      · exact absurd (.inl e) hk
    rw [M.ad_tie] at h
    obtain ⟨f, hf, rfl⟩ := Option.map_eq_some_iff.1 h
    rw [M.chn_app] at hc ⊢
    obtain ⟨b, hb, hc⟩ := Option.bind_eq_some_iff.1 hc
    have hbo := M.chn_ok o' _ b M.ok01 (fun s hs => ho s (by simp [hs])) hb
    have hx : M.Ok x.2.1 := ho x (by simp)
    rw [M.chn] at hc
    split at hc
    · rename_i hc1
      obtain ⟨b2, hb2, hc⟩ := Option.bind_eq_some_iff.1 hc
      simp only [M.chn, Option.some.injEq] at hc
      subst hc
      rw [hb]
      simp only [Option.bind_some, M.chn]
      have hf1 : 1 ≤ f.1 := by
        refine M.tell_up hf (M.mul_pos' _ _ hx.low.1.1 hL.low.1.1) ?_
        have p1 := M.mul_pos' x.2.1.1 L.2 hc1.2 hL.low.1.1
        have p2 := M.mul_pos' L.1 x.2.1.2 hu hx.low.1.1
        omega
      rw [if_pos ⟨hc1.1, hf1⟩, M.pl_assoc hbo.low.1.1 hx.low.1.1 hL.low.1.1 hb2 hf he]
      rfl
    · simp at hc

theorem M.skids_chn (kid : Nat → M.Bt) (n : Nat) (all : Int) (L : M.Fr) (hL : M.Ok L) (hu : 1 ≤ L.1) (hall : 1 ≤ all) (hk : ∀ j, j < n → M.Fine (kid j))
    (ih : ∀ j, j < n → ∀ (a l : M.Fr) (out o : List M.Sp) (e : M.Fr), M.Ok a → M.Ok l → 1 ≤ l.1 → M.OutOk out → M.chn out (0, 1) = some a → M.sh (kid j) a l out = some o → M.pl a l = some e → M.chn o (0, 1) = some e) :
    ∀ (c i : Nat) (a : M.Fr) (out : List M.Sp) (e : M.Fr) (o : List M.Sp), i + c ≤ n → M.Ok a → M.OutOk out → M.chn out (0, 1) = some a → M.skids (fun j a l o => M.sh (kid j) a l o) (fun j => (kid j).s) all L c i a out = some (e, o) → M.chn o (0, 1) = some e := by
  intro c
  induction c with
  | zero =>
    intro i a out e o _ _ _ hc hs
    simp only [M.skids, Option.some.injEq, Prod.mk.injEq] at hs
    obtain ⟨rfl, rfl⟩ := hs
    exact hc
  | succ c ihc =>
    intro i a out e o hn ha ho hc hs
    rw [M.skids] at hs
    obtain ⟨lg, h1, hs⟩ := Option.bind_eq_some_iff.1 hs
    obtain ⟨o2, h2, hs⟩ := Option.bind_eq_some_iff.1 hs
    obtain ⟨e2, h3, hs⟩ := Option.bind_eq_some_iff.1 hs
    have hd := M.mul_pos' _ _ hL.low.1.1 hall
    have hlg : M.Ok lg := M.tell_ok h1 hd
    have hs1 := (hk i (by omega)).share
    have hlu : 1 ≤ lg.1 := M.tell_up h1 hd (M.mul_pos' _ _ hu hs1.1)
    have he2 : M.Ok e2 := M.tell_ok h3 (M.mul_pos' _ _ ha.low.1.1 hlg.low.1.1)
    have hq := M.sh_ok (kid i) (hk i (by omega)) a lg out o2 ha hlg ho h2
    exact ihc (i + 1) e2 o2 e o (by omega) he2 hq.1 (ih i (by omega) a lg out o2 e2 ha hlg hlu ho hc h2 h3) hs
theorem M.sh_chn (b : M.Bt) : M.Fine b → ∀ (a L : M.Fr) (out o : List M.Sp) (e : M.Fr), M.Ok a → M.Ok L → 1 ≤ L.1 → M.OutOk out → M.chn out (0, 1) = some a → M.sh b a L out = some o → M.pl a L = some e → M.chn o (0, 1) = some e := by
  induction b using M.Bt.ind with
  | nil => intro h; exact False.elim h
  | mk k s n kid ih =>
    intro hF a L out o e ha hL hu ho hc hs he
    obtain ⟨_, _, _, h4, h5, _, _, hk⟩ := hF
    by_cases hk4 : k = 4
    · have hsm := M.sums_bd kid n hk
      have hn := h4 hk4
      have hall : 1 ≤ M.sums kid n := by omega
      rw [M.sh, if_pos hk4] at hs
      obtain ⟨x, hx, rfl⟩ := Option.map_eq_some_iff.1 hs
      obtain ⟨e', o⟩ := x
      have q := M.skids_chn kid n (M.sums kid n) L hL hu hall hk (fun j hj a l out o e h1 h2 h3 h4 h5 h6 h7 => ih j (hk j hj) a l out o e h1 h2 h3 h4 h5 h6 h7) n 0 a out e' o (by omega) ha ho hc hx
      obtain ⟨q1, q2⟩ := M.skids_end kid (M.sums kid n) a L ha.low.1.1 hL.low.1.1 hall _ n 0 a out e' o (M.plc_start ha.low.1) ha.low.2 hx
      rw [Nat.zero_add] at q1
      have := M.plc_end q1 ha.low.1.1 hL.low.1.1 hall q2
      rw [he] at this
      simp only [Option.some.injEq] at this
      rw [q, this]
    · rw [M.sh, if_neg hk4] at hs
      exact M.ad_chn ho ha hL hu hc hs he
/-- What the program's Spans tells stands one behind the other from 0 on, and ends where the length does. -/
theorem M.spans_chn (b : M.Bt) (L : M.Fr) (o : List M.Sp) (hF : M.Fine b) (hL : M.Ok L) (hu : 1 ≤ L.1) (h : M.sh b (0, 1) L [] = some o) : M.chn o (0, 1) = some L ∧ M.OutOk o := by
  have hp : M.pl (0, 1) L = some L := by
    obtain ⟨f1, f2⟩ := M.low_val hL.low.1
    unfold M.pl M.tell
    simp only [Int.zero_mul, Int.zero_add, Int.mul_one, Int.one_mul]
    rw [f1, f2, if_pos hL.low.2]
  exact ⟨M.sh_chn b hF (0, 1) L [] o L M.ok01 hL hu (fun s hs => by simp at hs) rfl h hp, (M.sh_ok b hF (0, 1) L [] o M.ok01 hL (fun s hs => by simp at hs) h).1⟩

/-- A beat whose share is n times as great. -/
def M.upS (n : Int) : M.Bt → M.Bt
  | ⟨true, k, s, m, sub⟩ => ⟨true, k, s, m, sub⟩
  | ⟨false, k, s, m, kid⟩ => .mk k (s * n) m kid
/-- All shares of the kids n times as great, on each level. -/
def M.scl (n : Int) : M.Bt → M.Bt
  | ⟨true, k, s, m, sub⟩ => ⟨true, k, s, m, sub⟩
  | ⟨false, k, s, m, kid⟩ => .mk k s m (fun j => M.upS n (M.scl n (kid j)))
theorem M.scl_s (n : Int) (b : M.Bt) : (M.scl n b).s = b.s ∧ (M.scl n b).k = b.k ∧ (M.scl n b).n = b.n := by induction b using M.Bt.ind <;> exact ⟨rfl, rfl, rfl⟩
theorem M.scl_z (n : Int) (b : M.Bt) : (M.scl n b).z = b.z := by induction b using M.Bt.ind <;> rfl
theorem M.upS_s (n : Int) (b : M.Bt) (h : b.z = false) : (M.upS n b).s = b.s * n ∧ (M.upS n b).k = b.k ∧ (M.upS n b).n = b.n := by
  induction b using M.Bt.ind with
  | nil => cases h
  | mk k s m kid => exact ⟨rfl, rfl, rfl⟩
theorem M.sh_upS (n : Int) (b : M.Bt) (a L : M.Fr) (out : List M.Sp) : M.sh (M.upS n b) a L out = M.sh b a L out := by induction b using M.Bt.ind <;> rfl
theorem M.Fine.ne {b : M.Bt} (h : M.Fine b) : b.z = false := by
  induction b using M.Bt.ind with
  | nil => exact False.elim h
  | mk k s m kid => rfl
theorem M.sums_scl (n : Int) (kid : Nat → M.Bt) (m : Nat) (h : ∀ j, j < m → M.Fine (kid j)) : M.sums (fun j => M.upS n (M.scl n (kid j))) m = M.sums kid m * n := by
  induction m with
  | zero => simp [M.sums]
  | succ m ih =>
    rw [M.sums, M.sums, ih (fun j hj => h j (by omega)), Int.add_mul]
    have h1 : (M.scl n (kid m)).z = false := by rw [M.scl_z]; exact (h m (by omega)).ne
    rw [(M.upS_s n _ h1).1, (M.scl_s n _).1]
theorem M.pr_scl (L : M.Fr) (s all n : Int) (hL : 1 ≤ L.2) (hall : 1 ≤ all) (hn : 1 ≤ n) : M.pr L (s * n) (all * n) = M.pr L s all := by
  unfold M.pr
  refine M.tell_congr (M.mul_pos' _ _ hL (M.mul_pos' _ _ hall hn)) (M.mul_pos' _ _ hL hall) ?_
  grind
theorem M.skids_scl (n : Int) (hn : 1 ≤ n) (kid : Nat → M.Bt) (m : Nat) (all : Int) (L : M.Fr) (hL : 1 ≤ L.2) (hall : 1 ≤ all) (hk : ∀ j, j < m → M.Fine (kid j))
    (ih : ∀ j, j < m → ∀ (a l : M.Fr) (o : List M.Sp), 1 ≤ l.2 → M.sh (M.scl n (kid j)) a l o = M.sh (kid j) a l o) :
    ∀ (c i : Nat) (a : M.Fr) (out : List M.Sp), i + c ≤ m → M.skids (fun j a l o => M.sh (M.upS n (M.scl n (kid j))) a l o) (fun j => (M.upS n (M.scl n (kid j))).s) (all * n) L c i a out = M.skids (fun j a l o => M.sh (kid j) a l o) (fun j => (kid j).s) all L c i a out := by
  intro c
  induction c with
  | zero => intro i a out _; rfl
  | succ c ihc =>
    intro i a out hi
    rw [M.skids, M.skids]
    have h1 : (M.scl n (kid i)).z = false := by rw [M.scl_z]; exact (hk i (by omega)).ne
    have e1 : (M.upS n (M.scl n (kid i))).s = (kid i).s * n := by rw [(M.upS_s n _ h1).1, (M.scl_s n _).1]
    simp only [e1]
    rw [M.pr_scl L _ all n hL hall hn]
    cases hp : M.pr L (kid i).s all with
    | none => rfl
    | some lg =>
      have hlg := (M.tell_some hp (M.mul_pos' _ _ hL hall)).2.1.1
      simp only [Option.bind_some]
      rw [M.sh_upS, ih i (by omega) a lg out hlg]
      cases M.sh (kid i) a lg out with
      | none => rfl
      | some o =>
        simp only [Option.bind_some]
        cases M.pl a lg with
        | none => rfl
        | some e => simp only [Option.bind_some]; exact ihc (i + 1) e o (by omega)
theorem M.sh_scl (n : Int) (hn : 1 ≤ n) (b : M.Bt) : M.Fine b → ∀ (a L : M.Fr) (out : List M.Sp), 1 ≤ L.2 → M.sh (M.scl n b) a L out = M.sh b a L out := by
  induction b using M.Bt.ind with
  | nil => intro h; exact False.elim h
  | mk k s m kid ih =>
    intro hF a L out hL
    obtain ⟨_, _, _, h4, h5, _, _, hk⟩ := hF
    by_cases hk4 : k = 4
    · have hsm := M.sums_bd kid m hk
      have hm := h4 hk4
      have hall : 1 ≤ M.sums kid m := by omega
      rw [M.scl, M.sh, M.sh, if_pos hk4, if_pos hk4, M.sums_scl n kid m hk]
      rw [M.skids_scl n hn kid m (M.sums kid m) L hL hall hk (fun j hj a l o h => ih j (hk j hj) a l o h) m 0 a out (by omega)]
    · rw [M.scl, M.sh, M.sh, if_neg hk4, if_neg hk4]

/-- What is wrong with what has greater shares: nothing, or a share. -/
theorem M.wkids_scl (n : Int) (kid : Nat → M.Bt) (lev : Int)
    (ih : ∀ (j : Nat) (l : Int), 0 ≤ l → l ≤ 4096 → (M.wr (kid j) (lev + 1) l).1 = 0 → (M.wr (M.upS n (M.scl n (kid j))) (lev + 1) l).1 = 3 ∨ M.wr (M.upS n (M.scl n (kid j))) (lev + 1) l = M.wr (kid j) (lev + 1) l) :
    ∀ (c i : Nat) (l : Int), 0 ≤ l → l ≤ 4096 → (M.wkids (fun j l => M.wr (kid j) (lev + 1) l) c i l).1 = 0 → (M.wkids (fun j l => M.wr (M.upS n (M.scl n (kid j))) (lev + 1) l) c i l).1 = 3 ∨ M.wkids (fun j l => M.wr (M.upS n (M.scl n (kid j))) (lev + 1) l) c i l = M.wkids (fun j l => M.wr (kid j) (lev + 1) l) c i l := by
  intro c
  induction c with
  | zero => intro i l _ _ _; exact .inr rfl
  | succ c ihc =>
    intro i l h0 h1 h
    rw [M.wkids] at h
    rw [M.wkids, M.wkids]
    by_cases e : (M.wr (kid i) (lev + 1) l).1 = 0
    · rw [if_neg (by simpa using e)] at h
      have b := M.wr_bd (kid i) (lev + 1) l h0
      rcases ih i l h0 h1 e with q | q
      · rw [if_pos (by rw [q]; decide)]
        exact .inl q
      · simp only [q]
        rw [if_neg (by simpa using e), if_neg (by simpa using e)]
        exact ihc (i + 1) _ b.1 (by omega) h
    · rw [if_pos e] at h; exact absurd h e
theorem M.wr_scl (n : Int) (hn : 1 ≤ n) (b : M.Bt) : ∀ lev l : Int, 0 ≤ l → l ≤ 4096 → (M.wr b lev l).1 = 0 →
    ((M.wr (M.upS n (M.scl n b)) lev l).1 = 3 ∨ M.wr (M.upS n (M.scl n b)) lev l = M.wr b lev l) ∧ ((M.wr (M.scl n b) lev l).1 = 3 ∨ M.wr (M.scl n b) lev l = M.wr b lev l) := by
  induction b using M.Bt.ind with
  | nil => intro lev l _ _ h; exact absurd h (show ¬ (4 : Int) = 0 by decide)
  | mk k s m kid ih =>
    intro lev l h0 h1 h
    by_cases c : 32 < lev ∨ l < 1
    · rw [M.wr_much _ _ _ c] at h; exact absurd h (show ¬ (4 : Int) = 0 by decide)
    · by_cases ha : M.al k s m = 0
      · rw [M.wr_kids k s m kid lev l c ha] at h ⊢
        have q := M.wkids_scl n kid lev (fun j l a b e => (ih j (lev + 1) l a b e).1) m 0 (l - 1) (by omega) (by omega) h
        have d0 : ¬ (s < 1 ∨ 65536 < s) := fun c => by rw [M.al_share k s m c] at ha; omega
        have d1 : ¬ (k < 1 ∨ 4 < k) := fun c => by rw [M.al_kind k s m d0 c] at ha; omega
        have d2 : ¬ ((k = 4 ∧ m = 0) ∨ (k ≠ 4 ∧ 0 < m)) := fun c => by rw [M.al_many k s m d0 d1 c] at ha; omega
        refine ⟨?_, ?_⟩
        · show (M.wr (.mk k (s * n) m (fun j => M.upS n (M.scl n (kid j)))) lev l).1 = 3 ∨ M.wr (.mk k (s * n) m (fun j => M.upS n (M.scl n (kid j)))) lev l = _
          by_cases cs : s * n < 1 ∨ 65536 < s * n
          · have e := M.al_share k (s * n) m cs
            rw [M.wr_al _ _ _ _ _ _ c (by rw [e]; decide), e]
            exact .inl rfl
          · rw [M.wr_kids _ _ _ _ _ _ c (M.al_ok k (s * n) m cs d1 d2)]
            exact q
        · show (M.wr (.mk k s m (fun j => M.upS n (M.scl n (kid j)))) lev l).1 = 3 ∨ M.wr (.mk k s m (fun j => M.upS n (M.scl n (kid j)))) lev l = _
          rw [M.wr_kids _ _ _ _ _ _ c (M.al_ok k s m d0 d1 d2)]
          exact q
      · rw [M.wr_al k s m kid lev l c ha] at h; exact absurd h ha
end Go.Proofs.YtaohahahhjkcdaeGreatDoor.F

/- What the program's share comes to at a leaf. -/
namespace Go.Proofs.YtaohahahhjkcdaeGreatDoor.F
open Go.RowKit
set_option linter.unusedVariables false
set_option linter.unusedSimpArgs false

set_option maxHeartbeats 1000000 in
theorem share_leaf (k s : Int) (ao : Option Addr) (n cap : Nat) (a L : M.Fr) (sb : Bool) (out : List M.Sp) (w : World) (po B : Nat) (hk : k ≠ 4) (hB : B ≤ po) (hO : OutAt w po out) (hlen : out.length ≤ 4096) (ho : M.OutOk out) (hl : M.Ok L) :
    Calls Tryz.prog 35 #[.agg #[.int .i64 k, .int .i64 s, .slice ao n cap], .agg #[.int .i64 a.1, .int .i64 a.2, .int .i64 L.1, .int .i64 L.2, .bool sb], .func (.func 34) #[] #[.pointer (some ⟨po, 0, none⟩)]] w fun e w' => e = .returned (.int .i64 (M.aE (M.ad out k a L))) ∧ (∀ o, M.ad out k a L = some o → OutAt w' po o ∧ Keeps w po w') ∧ Below B w w' := by
  have hkb : (k == 4) = false := by simpa using hk
  have hA := fun (W : World) (h : OutAt W po out) => add_any k a L sb out W po B hB h hlen ho hl
  have hlt := hO.lt
  have hX : ∀ o1 o2 : Obj, OutAt ((w.alloc o1).alloc o2) po out := fun o1 o2 => hO.step (((Below.refl _ _).alloc (Nat.le_refl _) _).alloc (by simp) _)
  obtain ⟨vv, hvv, _⟩ := hO.v
  have hcell : ∀ o1 o2 : Obj, ((w.alloc o1).alloc o2).cell? ⟨po, 0, none⟩ = some vv := fun o1 o2 => keepC (B := w.heap.size) (((Below.refl _ _).alloc (Nat.le_refl _) _).alloc (by simp) _) hlt hvv
  generalize M.ad out k a L = A at *
  generalize M.aE A = E at *
  generalize a.1 = a1 at *
  generalize a.2 = a2 at *
  generalize L.1 = l1 at *
  generalize L.2 = l2 at *
  go_enter Tryz.func35, Tryz.ntmps35
  go_wp2_with fail
  refine (hA _ (hX _ _)).mono ?_
  rintro e w1 ⟨rfl, h1, h2⟩
  go_wp2_with fail
  go_ret
  refine ⟨rfl, fun o ho => ⟨(h1 o ho).1, Keeps.trans (Keeps.below ((Below.refl _ _).alloc (Nat.le_refl _) _ |>.alloc (by simp) _) hlt) (h1 o ho).2 (hcell _ _)⟩, Below.trans (((Below.refl B w).alloc (by omega) _).alloc (by simp; omega) _) h2⟩
end Go.Proofs.YtaohahahhjkcdaeGreatDoor.F

/- The loops of share, Leaves and Spans, round by round, as plain facts. -/
namespace Go.Proofs.YtaohahahhjkcdaeGreatDoor.F
set_option linter.unusedVariables false

/-- The kids' loop of share from kid i on. -/
def M.SK (kid : Nat → M.Bt) (all : Int) (L : M.Fr) (n i : Nat) (R : Option (M.Fr × List M.Sp)) (a : M.Fr) (out : List M.Sp) : Prop := R = M.skids (fun j a l o => M.sh (kid j) a l o) (fun j => (kid j).s) all L (n - i) i a out
theorem M.sk_start (kid : Nat → M.Bt) (all : Int) (L : M.Fr) (n : Nat) (a : M.Fr) (out : List M.Sp) : M.SK kid all L n 0 (M.skids (fun j a l o => M.sh (kid j) a l o) (fun j => (kid j).s) all L n 0 a out) a out := rfl
theorem M.sk_step (kid : Nat → M.Bt) (all : Int) (L : M.Fr) (n i : Nat) (R : Option (M.Fr × List M.Sp)) (a : M.Fr) (out : List M.Sp) (h : M.SK kid all L n i R a out) (hi : i < n) :
    (M.pr L (kid i).s all = none → R = none) ∧ (∀ lg, M.pr L (kid i).s all = some lg → (M.sh (kid i) a lg out = none → R = none) ∧ (∀ o, M.sh (kid i) a lg out = some o → (M.pl a lg = none → R = none) ∧ (∀ e, M.pl a lg = some e → M.SK kid all L n (i + 1) R e o))) := by
  unfold M.SK at *
  obtain ⟨c, hc⟩ : ∃ c, n - i = c + 1 := ⟨n - i - 1, by omega⟩
  have hc2 : n - (i + 1) = c := by omega
  rw [hc, M.skids] at h
  rw [hc2]
  refine ⟨fun e => by rw [h]; simp only [e]; rfl, fun lg e => ⟨fun e2 => by rw [h]; simp only [e, Option.bind_some, e2]; rfl, fun o e2 => ⟨fun e3 => by rw [h]; simp only [e, Option.bind_some, e2, e3]; rfl, fun x e3 => by rw [h]; simp only [e, Option.bind_some, e2, e3]⟩⟩⟩
theorem M.sk_end (kid : Nat → M.Bt) (all : Int) (L : M.Fr) (n : Nat) (R : Option (M.Fr × List M.Sp)) (a : M.Fr) (out : List M.Sp) (h : M.SK kid all L n n R a out) : R = some (a, out) := by
  unfold M.SK at h
  rw [h, Nat.sub_self]; rfl

/-- The kids' loop of Leaves from kid i on. -/
def M.LK (kid : Nat → M.Bt) (all : Int) (L : M.Fr) (n i : Nat) (R : Option (List (Int × M.Fr))) (out : List (Int × M.Fr)) : Prop := R = (M.lkids (fun j l => M.lvs (kid j) l) (fun j => (kid j).s) all L (n - i) i).bind fun r => some (out ++ r)
theorem M.lk_start (kid : Nat → M.Bt) (all : Int) (L : M.Fr) (n : Nat) : M.LK kid all L n 0 (M.lkids (fun j l => M.lvs (kid j) l) (fun j => (kid j).s) all L n 0) [] := by
  unfold M.LK
  cases M.lkids (fun j l => M.lvs (kid j) l) (fun j => (kid j).s) all L n 0 <;> rfl
theorem M.lk_step (kid : Nat → M.Bt) (all : Int) (L : M.Fr) (n i : Nat) (R : Option (List (Int × M.Fr))) (out : List (Int × M.Fr)) (h : M.LK kid all L n i R out) (hi : i < n) :
    (M.pr L (kid i).s all = none → R = none) ∧ (∀ lg, M.pr L (kid i).s all = some lg → (M.lvs (kid i) lg = none → R = none) ∧ (∀ l, M.lvs (kid i) lg = some l → M.LK kid all L n (i + 1) R (out ++ l))) := by
  unfold M.LK at *
  obtain ⟨c, hc⟩ : ∃ c, n - i = c + 1 := ⟨n - i - 1, by omega⟩
  have hc2 : n - (i + 1) = c := by omega
  rw [hc, M.lkids] at h
  rw [hc2]
  refine ⟨fun e => by rw [h]; simp only [e]; rfl, fun lg e => ⟨fun e2 => by rw [h]; simp only [e, Option.bind_some, e2]; rfl, fun l e2 => ?_⟩⟩
  rw [h]; simp only [e, Option.bind_some, e2]
  cases M.lkids (fun j l => M.lvs (kid j) l) (fun j => (kid j).s) all L c (i + 1) with
  | none => rfl
  | some r => simp
theorem M.lk_end (kid : Nat → M.Bt) (all : Int) (L : M.Fr) (n : Nat) (R : Option (List (Int × M.Fr))) (out : List (Int × M.Fr)) (h : M.LK kid all L n n R out) : R = some out := by
  unfold M.LK at h
  rw [h, Nat.sub_self]; simp [M.lkids]

/-- Leaves: at least one, at most as many as there are beats; their lengths are as they must be. -/
def M.LvOk (l : List (Int × M.Fr)) : Prop := ∀ x ∈ l, M.Ok x.2
theorem M.lkids_ok (kid : Nat → M.Bt) (n : Nat) (all : Int) (L : M.Fr) (hL : M.Ok L) (hall : 1 ≤ all)
    (ih : ∀ j, j < n → ∀ (l : M.Fr) (o : List (Int × M.Fr)), M.Ok l → M.lvs (kid j) l = some o → M.LvOk o ∧ 1 ≤ o.length ∧ o.length ≤ M.cnt (kid j)) :
    ∀ (c i : Nat) (o : List (Int × M.Fr)), i + c ≤ n → M.lkids (fun j l => M.lvs (kid j) l) (fun j => (kid j).s) all L c i = some o → M.LvOk o ∧ c ≤ o.length ∧ o.length + M.ckids (fun j => M.cnt (kid j)) i ≤ M.ckids (fun j => M.cnt (kid j)) (i + c) := by
  intro c
  induction c with
  | zero =>
    intro i o _ hs
    simp only [M.lkids, Option.some.injEq] at hs
    subst hs
    exact ⟨fun x hx => by simp at hx, by simp, by simp⟩
  | succ c ihc =>
    intro i o hn hs
    rw [M.lkids] at hs
    obtain ⟨lg, h1, hs⟩ := Option.bind_eq_some_iff.1 hs
    obtain ⟨l, h2, hs⟩ := Option.bind_eq_some_iff.1 hs
    obtain ⟨r, h3, hs⟩ := Option.bind_eq_some_iff.1 hs
    simp only [Option.some.injEq] at hs
    subst hs
    have hlg : M.Ok lg := M.tell_ok h1 (M.mul_pos' _ _ hL.low.1.1 hall)
    obtain ⟨q0, q1, q2⟩ := ih i (by omega) lg l hlg h2
    obtain ⟨r0, r1, r2⟩ := ihc (i + 1) r (by omega) h3
    refine ⟨fun x hx => ?_, by simp; omega, ?_⟩
    · rcases List.mem_append.1 hx with e | e
      · exact q0 x e
      · exact r0 x e
    · rw [show i + (c + 1) = i + 1 + c by omega]
      have : M.ckids (fun j => M.cnt (kid j)) (i + 1) = M.ckids (fun j => M.cnt (kid j)) i + M.cnt (kid i) := rfl
      simp only [List.length_append]
      omega
theorem M.lvs_ok (b : M.Bt) : M.Fine b → ∀ (L : M.Fr) (o : List (Int × M.Fr)), M.Ok L → M.lvs b L = some o → M.LvOk o ∧ 1 ≤ o.length ∧ o.length ≤ M.cnt b := by
  induction b using M.Bt.ind with
  | nil => intro h; exact False.elim h
  | mk k s n kid ih =>
    intro hF L o hL hs
    obtain ⟨_, _, _, h4, h5, _, _, hk⟩ := hF
    by_cases hk4 : k = 4
    · have hsm := M.sums_bd kid n hk
      have hn := h4 hk4
      rw [M.lvs, if_pos hk4] at hs
      obtain ⟨q0, q1, q2⟩ := M.lkids_ok kid n (M.sums kid n) L hL (by omega) (fun j hj l o h1 h2 => ih j (hk j hj) l o h1 h2) n 0 o (by omega) hs
      rw [Nat.zero_add] at q2
      have e0 : M.ckids (fun j => M.cnt (kid j)) 0 = 0 := rfl
      refine ⟨q0, by omega, ?_⟩
      show o.length ≤ 1 + M.ckids (fun j => M.cnt (kid j)) n
      omega
    · rw [M.lvs, if_neg hk4] at hs
      simp only [Option.some.injEq] at hs
      subst hs
      refine ⟨fun x hx => by simp at hx; rw [hx]; exact hL, by simp, ?_⟩
      show 1 ≤ 1 + M.ckids (fun j => M.cnt (kid j)) n
      omega

/-- The leaves' loop of Spans from leaf i on. -/
def M.FK (l : List (Int × M.Fr)) (i : Nat) (R : Option (M.Fr × List M.Sp)) (a : M.Fr) (out : List M.Sp) : Prop := R = M.fold (l.drop i) a out
theorem M.fk_start (l : List (Int × M.Fr)) (a : M.Fr) (out : List M.Sp) : M.FK l 0 (M.fold l a out) a out := rfl
theorem M.fk_step (l : List (Int × M.Fr)) (i : Nat) (R : Option (M.Fr × List M.Sp)) (a : M.Fr) (out : List M.Sp) (h : M.FK l i R a out) (x : Int × M.Fr) (hx : l[i]? = some x) :
    (M.pl a x.2 = none → R = none) ∧ (∀ e, M.pl a x.2 = some e → (M.ad out x.1 a x.2 = none → R = none) ∧ (∀ o, M.ad out x.1 a x.2 = some o → M.FK l (i + 1) R e o)) := by
  unfold M.FK at *
  obtain ⟨hi, rfl⟩ := List.getElem?_eq_some_iff.1 hx
  rw [List.drop_eq_getElem_cons hi, M.fold] at h
  refine ⟨fun e => by rw [h]; simp only [e]; rfl, fun e e1 => ⟨fun e2 => by rw [h]; simp only [e1, Option.bind_some, e2]; rfl, fun o e2 => by rw [h]; simp only [e1, Option.bind_some, e2]⟩⟩
theorem M.fk_end (l : List (Int × M.Fr)) (R : Option (M.Fr × List M.Sp)) (a : M.Fr) (out : List M.Sp) (h : M.FK l l.length R a out) : R = some (a, out) := by
  unfold M.FK at h
  rw [h, List.drop_length]; rfl
end Go.Proofs.YtaohahahhjkcdaeGreatDoor.F

/- What share keeps from kid to kid: the spans that have come, its own variables, all else. -/
namespace Go.Proofs.YtaohahahhjkcdaeGreatDoor.F
open Go.RowKit
set_option linter.unusedVariables false
set_option linter.unusedSimpArgs false

theorem own_else {w : World} {base : Nat} {e : TypeId} {size : Nat} {v : Value} {n : Nat} {xs : List Value} {b i : Nat} {u : Value} (h : w.ownsRow base e size v n xs) (hne : v.ownBlock ≠ some b) : (w.setCell ⟨b, i, none⟩ u).ownsRow base e size v n xs := by
  refine ⟨by simpa using h.1, ?_⟩
  rcases h.2 with hn | ⟨g, cap, cur, rfl, h1, h2, rest⟩
  · exact .inl hn
  · refine .inr ⟨g, cap, cur, rfl, h1, ?_, rest⟩
    rw [heap_setCell_other w ⟨b, i, none⟩ g u (by show g ≠ b; intro e; exact hne (by rw [← e]; rfl))]; exact h2

structure ShI (w : World) (po B za : Nat) (a L : M.Fr) (out : List M.Sp) (wr : World) : Prop where
  b : Below B w wr
  o : OutAt wr po out
  kp : Keeps w po wr
  s2 : wr.cell? ⟨w.heap.size + 1, 2, none⟩ = some (.int .i64 L.1)
  s3 : wr.cell? ⟨w.heap.size + 1, 3, none⟩ = some (.int .i64 L.2)
  a0 : wr.cell? ⟨za, 0, none⟩ = some (.int .i64 a.1)
  a1 : wr.cell? ⟨za, 1, none⟩ = some (.int .i64 a.2)
  f0 : wr.frozen? ⟨za, 0, none⟩ = false
  f1 : wr.frozen? ⟨za, 1, none⟩ = false
  lz : za < wr.heap.size
  zz : w.heap.size + 1 < za
  pw : po < w.heap.size
  bp : B ≤ po
  nb : ∀ v k, wr.cell? ⟨po, 0, none⟩ = some v → v.ownBlock = some k → k < w.heap.size ∨ za < k

theorem ShI.below {w wr W : World} {po B za : Nat} {a L : M.Fr} {out : List M.Sp} (h : ShI w po B za a L out wr) (hb : Below wr.heap.size wr W) : ShI w po B za a L out W := by
  obtain ⟨v, hv, _⟩ := h.o.v
  have l1 := h.lz; have l2 := h.zz; have l3 := h.pw; have l4 := h.bp; have l5 := hb.size
  refine ⟨h.b.trans (hb.mono (by omega)), h.o.step hb, Keeps.trans h.kp (Keeps.below hb h.o.lt) hv, keepC hb (by omega) h.s2, keepC hb (by omega) h.s3, keepC hb l1 h.a0, keepC hb l1 h.a1, keepF hb l1 h.f0, keepF hb l1 h.f1, by omega, l2, l3, l4, fun v' k hc hk => ?_⟩
  have := keepC hb h.o.lt hv
  rw [this] at hc; simp only [Option.some.injEq] at hc; subst hc
  exact h.nb v k hv hk

theorem ShI.share {w W w' : World} {po B za : Nat} {a L : M.Fr} {out o : List M.Sp} (h : ShI w po B za a L out W) (hO : OutAt w' po o) (hK : Keeps W po w') (hB : Below B W w') : ShI w po B za a L o w' := by
  obtain ⟨v, hv, _⟩ := h.o.v
  have l1 := h.lz; have l2 := h.zz; have l3 := h.pw; have l4 := h.bp; have l5 := hK.size
  have q1 : w'.heap[za]? = W.heap[za]? := hK.blk v za hv l1 (by omega) (fun e => by rcases h.nb v za hv e with q | q <;> omega)
  have q2 : w'.heap[w.heap.size + 1]? = W.heap[w.heap.size + 1]? := hK.blk v _ hv (by omega) (by omega) (fun e => by rcases h.nb v _ hv e with q | q <;> omega)
  have c1 : ∀ i, w'.cell? ⟨za, i, none⟩ = W.cell? ⟨za, i, none⟩ := fun i => World.cell?_of_block (w := W) q1
  have c2 : ∀ i, w'.cell? ⟨w.heap.size + 1, i, none⟩ = W.cell? ⟨w.heap.size + 1, i, none⟩ := fun i => World.cell?_of_block (w := W) q2
  have c3 : ∀ i, w'.frozen? ⟨za, i, none⟩ = W.frozen? ⟨za, i, none⟩ := fun i => World.frozen?_of_block (w := W) q1
  refine ⟨h.b.trans hB, hO, Keeps.trans h.kp hK hv, (c2 2).trans h.s2, (c2 3).trans h.s3, (c1 0).trans h.a0, (c1 1).trans h.a1, (c3 0).trans h.f0, (c3 1).trans h.f1, by omega, l2, l3, l4, fun v' k hc hk => ?_⟩
  rcases hK.row v v' k hv hc hk with q | q
  · exact h.nb v k hv q
  · exact .inr (by omega)

theorem ShI.put {w W : World} {po B za : Nat} {a a' L : M.Fr} {out : List M.Sp} (h : ShI w po B za a L out W) : ShI w po B za a' L out ((W.setCell ⟨za, 0, none⟩ (.int .i64 a'.1)).setCell ⟨za, 1, none⟩ (.int .i64 a'.2)) := by
  obtain ⟨v, hv, hown⟩ := h.o.v
  have l1 := h.lz; have l2 := h.zz; have l3 := h.pw; have l4 := h.bp
  have hne : v.ownBlock ≠ some za := fun e => by rcases h.nb v za hv e with q | q <;> omega
  have hpz : po ≠ za := by omega
  have hsz : w.heap.size + 1 ≠ za := by omega
  have hc : ((W.setCell ⟨za, 0, none⟩ (.int .i64 a'.1)).setCell ⟨za, 1, none⟩ (.int .i64 a'.2)).cell? ⟨po, 0, none⟩ = some v := by simp [go_sem, hv, hpz, Ne.symm hpz]
  refine ⟨(h.b.setCell (p := ⟨za, 0, none⟩) (by show B ≤ za; omega) _).setCell (p := ⟨za, 1, none⟩) (by show B ≤ za; omega) _, ⟨by simpa using h.o.lt, by simp [go_sem, h.o.fz], v, hc, own_else (own_else hown hne) hne⟩, ⟨by simpa using h.kp.size, fun v0 b h0 hb hne0 ho => ?_, fun v0 v' k h0 h' hk => ?_⟩, by simp [go_sem, h.s2, hsz, Ne.symm hsz], by simp [go_sem, h.s3, hsz, Ne.symm hsz], by simp [go_sem, h.a0], by simp [go_sem, h.a1], by simp [go_sem, h.f0], by simp [go_sem, h.f1], by simpa using l1, l2, l3, l4, fun v' k h' hk => ?_⟩
  · rw [heap_setCell_other _ _ _ _ (by show b ≠ za; omega), heap_setCell_other _ _ _ _ (by show b ≠ za; omega)]
    exact h.kp.blk v0 b h0 hb hne0 ho
  · rw [hc] at h'; simp only [Option.some.injEq] at h'; subst h'
    exact h.kp.row v0 v k h0 hv hk
  · rw [hc] at h'; simp only [Option.some.injEq] at h'; subst h'
    exact h.nb v k hv hk

/-- What share answers. -/
def ShC (b : M.Bt) : Prop := M.Fine b → ∀ (a L : M.Fr) (sb : Bool) (out : List M.Sp) (w : World) (po B : Nat) (v : Value), Lies w B b v → B ≤ po → OutAt w po out → out.length + M.cnt b ≤ 4097 → M.OutOk out → M.Ok a → M.Ok L →
  Calls Tryz.prog 35 #[v, .agg #[.int .i64 a.1, .int .i64 a.2, .int .i64 L.1, .int .i64 L.2, .bool sb], .func (.func 34) #[] #[.pointer (some ⟨po, 0, none⟩)]] w fun e w' => e = .returned (.int .i64 (M.aE (M.sh b a L out))) ∧ (∀ o, M.sh b a L out = some o → OutAt w' po o ∧ Keeps w po w') ∧ Below B w w'
end Go.Proofs.YtaohahahhjkcdaeGreatDoor.F

/- What the program's share comes to at a group, and so at every beat. -/
namespace Go.Proofs.YtaohahahhjkcdaeGreatDoor.F
open Go.RowKit
set_option linter.unusedVariables false
set_option linter.unusedSimpArgs false

theorem own_lt {w : World} {base : Nat} {e : TypeId} {size : Nat} {v : Value} {n : Nat} {xs : List Value} (h : w.ownsRow base e size v n xs) : ∀ k, v.ownBlock = some k → k < w.heap.size := by
  intro k hk
  rcases h.2 with ⟨rfl, _⟩ | ⟨g, cap, cur, rfl, h1, h2, rest⟩
  · simp [Value.ownBlock] at hk
  · simp [Value.ownBlock] at hk; subst hk; exact (Array.getElem?_eq_some_iff.1 h2).1
theorem M.ckids_mono (f : Nat → Nat) (i n : Nat) (h : i ≤ n) : M.ckids f i ≤ M.ckids f n := by
  induction n with
  | zero => obtain rfl : i = 0 := by omega
            exact Nat.le_refl _
  | succ n ih =>
    by_cases e : i = n + 1
    · rw [e]; exact Nat.le_refl _
    · have := ih (by omega)
      show M.ckids f i ≤ M.ckids f n + f n
      omega

theorem M.sums_le (kid : Nat → M.Bt) (n : Nat) (h : ∀ j, j < n → M.Fine (kid j)) (i : Nat) (hi : i < n) : (kid i).s ≤ M.sums kid n := by
  induction n with
  | zero => omega
  | succ n ih =>
    have b1 := M.sums_bd kid n (fun j hj => h j (by omega))
    have s1 := (h n (by omega)).share
    show (kid i).s ≤ M.sums kid n + (kid n).s
    by_cases e : i = n
    · rw [e]; omega
    · have := ih (fun j hj => h j (by omega)) (by omega)
      omega

/-- Share's own variables while it adds up shares. -/
structure ShJ (w : World) (a L : M.Fr) (sl : Value) (wr : World) : Prop where
  b : Below w.heap.size w wr
  c2 : wr.cell? ⟨w.heap.size, 2, none⟩ = some sl
  t0 : wr.cell? ⟨w.heap.size + 1, 0, none⟩ = some (.int .i64 a.1)
  t1 : wr.cell? ⟨w.heap.size + 1, 1, none⟩ = some (.int .i64 a.2)
  t2 : wr.cell? ⟨w.heap.size + 1, 2, none⟩ = some (.int .i64 L.1)
  t3 : wr.cell? ⟨w.heap.size + 1, 3, none⟩ = some (.int .i64 L.2)
  lz : w.heap.size + 1 < wr.heap.size
theorem ShJ.below {w wr W : World} {a L : M.Fr} {sl : Value} (h : ShJ w a L sl wr) (hb : Below wr.heap.size wr W) : ShJ w a L sl W := by
  have l1 := h.lz; have l2 := hb.size
  exact ⟨h.b.trans (hb.mono (by omega)), keepC hb (by omega) h.c2, keepC hb l1 h.t0, keepC hb l1 h.t1, keepC hb l1 h.t2, keepC hb l1 h.t3, by omega⟩
theorem ShJ.start {w wr : World} {po B : Nat} {a L : M.Fr} {sl : Value} {out : List M.Sp} (h : ShJ w a L sl wr) (hO : OutAt w po out) (hB : B ≤ po) : ShI w po B wr.heap.size a L out (wr.alloc (Obj.cells #[.int .i64 a.1, .int .i64 a.2] 36)) := by
  have l1 := h.lz; have l3 := hO.lt
  have hb : Below w.heap.size w (wr.alloc (Obj.cells #[.int .i64 a.1, .int .i64 a.2] 36)) := h.b.alloc (by omega) _
  have hb' : Below wr.heap.size wr (wr.alloc (Obj.cells #[.int .i64 a.1, .int .i64 a.2] 36)) := (Below.refl _ _).alloc (Nat.le_refl _) _
  obtain ⟨v, hv, hown⟩ := hO.v
  refine ⟨hb.mono (by omega), hO.step hb, Keeps.below hb l3, keepC hb' l1 h.t2, keepC hb' l1 h.t3, by simp [go_sem], by simp [go_sem], by simp [go_sem], by simp [go_sem], by simp, l1, l3, hB, fun v' k hc hk => .inl ?_⟩
  have := keepC hb l3 hv
  rw [this] at hc; simp only [Option.some.injEq] at hc; subst hc
  exact own_lt hown k hk

/-- What share answers at a group, by what its loop comes to. -/
def ShQ (R : Option (M.Fr × List M.Sp)) (w : World) (po B : Nat) (e : Ending) (w' : World) : Prop := e = .returned (.int .i64 (M.aE (R.map (·.2)))) ∧ (∀ o, R.map (·.2) = some o → OutAt w' po o ∧ Keeps w po w') ∧ Below B w w'
theorem ShQ.none {w w' : World} {po B : Nat} {R : Option (M.Fr × List M.Sp)} (hR : R = none) (hb : Below B w w') : ShQ R w po B (.returned (.int .i64 4)) w' := by
  subst hR; exact ⟨rfl, fun o h => by simp at h, hb⟩
theorem ShQ.some {w w' : World} {po B : Nat} {R : Option (M.Fr × List M.Sp)} {a : M.Fr} {o : List M.Sp} (hR : R = some (a, o)) (hO : OutAt w' po o) (hK : Keeps w po w') (hb : Below B w w') : ShQ R w po B (.returned (.int .i64 0)) w' := by
  subst hR; exact ⟨rfl, fun o' h => by simp at h; subst h; exact ⟨hO, hK⟩, hb⟩

set_option maxHeartbeats 4000000 in
theorem share_group (s : Int) (n : Nat) (kid : Nat → M.Bt) (ih : ∀ j, ShC (kid j)) (hF : ∀ j, j < n → M.Fine (kid j)) (hn : 0 < n) (hn2 : n ≤ 4096) (a L : M.Fr) (sb : Bool) (out : List M.Sp) (w : World) (po B b off cap : Nat) (hbB : b < B)
    (hk : ∀ j, j < n → ∃ ao' cap', w.cell? ⟨b, off + j * 3, none⟩ = some (.int .i64 (kid j).k) ∧ w.cell? ⟨b, off + j * 3 + 1, none⟩ = some (.int .i64 (kid j).s) ∧ w.cell? ⟨b, off + j * 3 + 2, none⟩ = some (.slice ao' (kid j).n cap') ∧ Lies w B (kid j) (.agg #[.int .i64 (kid j).k, .int .i64 (kid j).s, .slice ao' (kid j).n cap']))
    (hB : B ≤ po) (hO : OutAt w po out) (hlen : out.length + M.ckids (fun j => M.cnt (kid j)) n ≤ 4096) (ho : M.OutOk out) (ha : M.Ok a) (hL : M.Ok L) :
    Calls Tryz.prog 35 #[.agg #[.int .i64 4, .int .i64 s, .slice (some ⟨b, off, none⟩) n cap], .agg #[.int .i64 a.1, .int .i64 a.2, .int .i64 L.1, .int .i64 L.2, .bool sb], .func (.func 34) #[] #[.pointer (some ⟨po, 0, none⟩)]] w fun e w' => ShQ (M.skids (fun j a l o => M.sh (kid j) a l o) (fun j => (kid j).s) (M.sums kid n) L n 0 a out) w po B e w' := by
  have HS : Hid (M.SK kid (M.sums kid n) L n 0 (M.skids (fun j a l o => M.sh (kid j) a l o) (fun j => (kid j).s) (M.sums kid n) L n 0 a out) a out) := M.sk_start kid (M.sums kid n) L n a out
  generalize M.skids (fun j a l o => M.sh (kid j) a l o) (fun j => (kid j).s) (M.sums kid n) L n 0 a out = R at *
  have Hk : Hid (∀ j, j < n → ∃ ao' cap', w.cell? ⟨b, off + j * 3, none⟩ = some (.int .i64 (kid j).k) ∧ w.cell? ⟨b, off + j * 3 + 1, none⟩ = some (.int .i64 (kid j).s) ∧ w.cell? ⟨b, off + j * 3 + 2, none⟩ = some (.slice ao' (kid j).n cap') ∧ Lies w B (kid j) (.agg #[.int .i64 (kid j).k, .int .i64 (kid j).s, .slice ao' (kid j).n cap'])) := hk
  have HF : Hid (∀ j, j < n → M.Fine (kid j)) := hF
  have hall := M.sums_bd kid n hF
  have Hlen : Hid (∀ j, j ≤ n → M.ckids (fun j => M.cnt (kid j)) j ≤ 4096 - out.length ∧ out.length ≤ 4096) := fun j hj => by
    have := M.ckids_mono (fun j => M.cnt (kid j)) j n hj; omega
  have lpo := hO.lt
  have Hout : Hid (OutAt w po out) := hO
  have hbw : b < w.heap.size := by omega
  clear hk hF hO hlen
  have J0 : ∀ v0 v1 v2 : Value, ShJ w a L (.slice (some ⟨b, off, none⟩) n cap) ((w.alloc (Obj.cells #[v0, v1, .slice (some ⟨b, off, none⟩) n cap] 76)).alloc (Obj.cells #[.int .i64 a.1, .int .i64 a.2, .int .i64 L.1, .int .i64 L.2, v2] 89)) := fun v0 v1 v2 =>
    ⟨by go_grown, by simp [go_sem], by simp [go_sem], by simp [go_sem], by simp [go_sem], by simp [go_sem], by simp⟩
  have e4 : ((4 : Int) != 4) = false := rfl
  go_enter Tryz.func35, Tryz.ntmps35
  go_wp2_with fail
  go_loopw [7, 27] (fun x i wr => ∃ j : Nat, x = .int .i64 (M.sums kid j) ∧ i = .int .i64 j ∧ j ≤ n ∧ ShJ w a L (.slice (some ⟨b, off, none⟩) n cap) wr) (fun _ i _ => n - (intOf i).toNat)
  case atStart => exact ⟨0, rfl, rfl, by omega, J0 _ _ _⟩
  case round =>
    obtain ⟨j, rfl, rfl, hj, hJ⟩ := hrel
    have lz := hJ.lz
    have bz : b < wr.heap.size := by omega
    have lz0 : w.heap.size < wr.heap.size := by omega
    by_cases hlt : j < n
    · obtain ⟨ao', cap', q0, q1, q2, hLj⟩ := Hk.out j hlt
      replace q0 := keepC hJ.b hbw q0
      replace q1 := keepC hJ.b hbw q1
      replace q2 := keepC hJ.b hbw q2
      have sj := M.sums_bd kid j (fun i hi => HF.out i (by omega))
      have ks := (HF.out j hlt).share
      have hE : Hid (M.sums kid (j + 1) = M.sums kid j + (kid j).s) := rfl
      clear hLj
      generalize M.sums kid j = S at *
      generalize (kid j).k = kk at *
      generalize (kid j).s = ss at *
      generalize (kid j).n = nn at *
      go_wp2_with fail
      go_roundw
      case rel => exact ⟨j + 1, by rw [hE.out], by go_num, by omega, hJ.below (by go_grown)⟩
      case measure => simp [intOf]; omega
    · obtain rfl : j = n := by omega
      obtain ⟨w1, hw1⟩ : ∃ x, x = wr := ⟨wr, rfl⟩
      subst hw1
      have t0 := hJ.t0
      have t1 := hJ.t1
      have c2 := hJ.c2
      have I0 : ShI w po B w1.heap.size a L out (w1.alloc (Obj.cells #[.int .i64 a.1, .int .i64 a.2] 36)) := hJ.start Hout.out hB
      have hb0 : Below w1.heap.size w1 (w1.alloc (Obj.cells #[.int .i64 a.1, .int .i64 a.2] 36)) := (Below.refl _ _).alloc (Nat.le_refl _) _
      have e0 : M.ckids (fun j => M.cnt (kid j)) 0 = 0 := rfl
      generalize hALL : M.sums kid j = ALL at *
      go_wp2_with fail
      go_loopw [41] (fun i wr => ∃ (i' : Nat) (a' : M.Fr) (o : List M.Sp), i = .int .i64 i' ∧ i' ≤ j ∧ ShI w po B w1.heap.size a' L o wr ∧ Hid (M.SK kid ALL L j i' R a' o) ∧ M.Ok a' ∧ M.OutOk o ∧ Hid (o.length ≤ out.length + M.ckids (fun j => M.cnt (kid j)) i')) (fun i _ => j - (intOf i).toNat)
      case atStart => exact ⟨0, a, out, rfl, by omega, I0, HS, ha, ho, by show _ ≤ _; omega⟩
      case round =>
        obtain ⟨i, a', o, rfl, hi, hI, hSK, ha', ho', hln⟩ := hrel
        have lW := hI.lz
        have lpW := hI.o.lt
        have lsW : w.heap.size + 1 < wr.heap.size := by omega
        have bzW : b < wr.heap.size := by omega
        by_cases hlt2 : i < j
        · obtain ⟨ao', cap', q0, q1, q2, hLj⟩ := Hk.out i hlt2
          replace q0 := keepC hI.b hbB q0
          replace q1 := keepC hI.b hbB q1
          replace q2 := keepC hI.b hbB q2
          have hFi := HF.out i hlt2
          have ks := hFi.share
          have ksA : (kid i).s ≤ ALL := by
            rw [← hALL]; exact M.sums_le kid j HF.out i hlt2
          have hP := fun w => portion_o L (kid i).s ALL w hL ks.1 ksA (by omega)
          have s2 := hI.s2
          have s3 := hI.s3
          have a0 := hI.a0
          have a1 := hI.a1
          obtain ⟨st1, st2⟩ := M.sk_step kid ALL L j i R a' o hSK.out hlt2
          have iW : ShI w po B w1.heap.size a' L o wr := hI
          cases hp : M.pr L (kid i).s ALL with
          | none =>
            have hR : Hid (R = none) := st1 hp
            rw [hp] at hP
            replace hP : ∀ w, Calls Tryz.prog 51 #[.agg #[.int .i64 L.1, .int .i64 L.2], .int .i64 (kid i).s, .int .i64 ALL] w fun e w' => e = .returned (.tuple #[.agg #[.int .i64 0, .int .i64 0], .int .i64 4]) ∧ Below w.heap.size w w' := hP
            clear st1 st2 hp hLj hSK HS
            generalize (kid i).k = kk at *
            generalize (kid i).s = ss at *
            generalize (kid i).n = nn at *
            go_wp2_with fail
            refine (hP _).mono ?_
            rintro e w4 ⟨rfl, hb4⟩
            have h04 : Below wr.heap.size wr w4 := Below.trans (by go_grown) (hb4.mono (by simp))
            have z4 := h04.size
            clear hb4
            go_wp2_with fail
            go_ret
            exact ShQ.none hR.out ((hI.b.trans (h04.mono (by omega))).alloc (by omega) _)
          | some lg =>
            have hlg : M.Ok lg := M.tell_ok hp (M.mul_pos' _ _ hL.low.1.1 (by omega))
            obtain ⟨st3, st4⟩ := st2 lg hp
            rw [hp] at hP
            replace hP : ∀ w, Calls Tryz.prog 51 #[.agg #[.int .i64 L.1, .int .i64 L.2], .int .i64 (kid i).s, .int .i64 ALL] w fun e w' => e = .returned (.tuple #[.agg #[.int .i64 lg.1, .int .i64 lg.2], .int .i64 0]) ∧ Below w.heap.size w w' := hP
            have hlen2 : o.length + M.cnt (kid i) ≤ 4097 := by
              have x1 := Hlen.out (i + 1) (by omega)
              have x2 : M.ckids (fun j => M.cnt (kid j)) (i + 1) = M.ckids (fun j => M.cnt (kid j)) i + M.cnt (kid i) := rfl
              have x3 := hln.out
              omega
            have hLw := Lies.step (kid i) _ hLj hI.b
            have hC := fun (X : World) (hb : Below wr.heap.size wr X) => ih i hFi a' lg false o X po B _ (Lies.step (kid i) _ hLw (hb.mono (by omega))) hB (hI.below hb).o hlen2 ho' ha' hlg
            have hQ := fun X => Plus_o a' lg X ha' hlg
            have hsh := fun o2 (h : M.sh (kid i) a' lg o = some o2) => M.sh_ok (kid i) hFi a' lg o o2 ha' hlg ho' h
            have Hsh : Hid (∀ o2, M.sh (kid i) a' lg o = some o2 → M.OutOk o2 ∧ o2.length ≤ o.length + M.cnt (kid i)) := hsh
            clear st1 st2 hp hLj hSK HS hLw hsh
            generalize hcn : M.cnt (kid i) = CN at *
            generalize hsv : M.sh (kid i) a' lg o = SV at *
            generalize (kid i).k = kk at *
            generalize (kid i).s = ss at *
            generalize (kid i).n = nn at *
            go_wp2_with fail
            refine (hP _).mono ?_
            rintro e w4 ⟨rfl, hb4⟩
            have h04 : Below wr.heap.size wr w4 := Below.trans (by go_grown) (hb4.mono (by simp))
            have z4' := hb4.size
            simp at z4'
            have K0 : w4.cell? ⟨wr.heap.size, 0, none⟩ = some (.int .i64 kk) := keepC hb4 (by simp) (by simp [go_sem])
            have K1 : w4.cell? ⟨wr.heap.size, 1, none⟩ = some (.int .i64 ss) := keepC hb4 (by simp) (by simp [go_sem])
            have K2 : w4.cell? ⟨wr.heap.size, 2, none⟩ = some (.slice ao' nn cap') := keepC hb4 (by simp) (by simp [go_sem])
            replace a0 := keepC h04 lW a0
            replace a1 := keepC h04 lW a1
            have z4 : wr.heap.size < w4.heap.size := by omega
            have l4 : w1.heap.size < w4.heap.size := by omega
            have h05 : Below wr.heap.size wr (w4.alloc (Obj.cells #[.int .i64 lg.1, .int .i64 lg.2] 36)) := h04.alloc (by omega) _
            clear hb4
            go_wp2_with fail
            refine (hC _ h05).mono ?_
            rintro e w5 ⟨rfl, g1, g2⟩
            have hb5 : Below B w w5 := (hI.b.trans (h05.mono (by omega))).trans g2
            cases SV with
            | none =>
              have hR : Hid (R = none) := st3 rfl
              clear st3 st4 Hsh g1 hC
              rw [show M.aE none = 4 from rfl]
              go_wp2_with fail
              go_ret
              exact ShQ.none hR.out hb5
            | some o2 =>
              obtain ⟨g3, g4⟩ := g1 o2 rfl
              have hI5 := (hI.below h05).share g3 g4 g2
              obtain ⟨v, hv, hown⟩ := hI.o.v
              have z5 := g4.size
              simp at z5
              have bl : w5.heap[w4.heap.size]? = (w4.alloc (Obj.cells #[.int .i64 lg.1, .int .i64 lg.2] 36)).heap[w4.heap.size]? := g4.blk v _ (keepC h05 lpW hv) (by simp) (by omega) (fun e => by have := own_lt hown _ e; omega)
              have L0 : w5.cell? ⟨w4.heap.size, 0, none⟩ = some (.int .i64 lg.1) := (World.cell?_of_block (w := w4.alloc (Obj.cells #[.int .i64 lg.1, .int .i64 lg.2] 36)) bl).trans (by simp [go_sem])
              have L1 : w5.cell? ⟨w4.heap.size, 1, none⟩ = some (.int .i64 lg.2) := (World.cell?_of_block (w := w4.alloc (Obj.cells #[.int .i64 lg.1, .int .i64 lg.2] 36)) bl).trans (by simp [go_sem])
              replace a0 := hI5.a0
              replace a1 := hI5.a1
              have f0 := hI5.f0
              have f1 := hI5.f1
              have l5 := hI5.lz
              have l6 : w4.heap.size < w5.heap.size := by omega
              obtain ⟨st5, st6⟩ := st4 o2 rfl
              obtain ⟨y1, y2⟩ := Hsh.out o2 rfl
              have x3 : Hid (o2.length ≤ out.length + M.ckids (fun j => M.cnt (kid j)) (i + 1)) := by
                have x2 : M.ckids (fun j => M.cnt (kid j)) (i + 1) = M.ckids (fun j => M.cnt (kid j)) i + M.cnt (kid i) := rfl
                have x3 := hln.out
                show _ ≤ _
                omega
              clear st3 st4 Hsh g1 hC hown hcn hln hlen2 Hlen K0 K1 K2
              rw [show M.aE (some o2) = 0 from rfl]
              cases hq : M.pl a' lg with
              | none =>
                have hR : Hid (R = none) := st5 hq
                rw [hq] at hQ
                replace hQ : ∀ w, Calls Tryz.prog 24 #[.agg #[.int .i64 a'.1, .int .i64 a'.2], .agg #[.int .i64 lg.1, .int .i64 lg.2]] w fun e w' => e = .returned (.tuple #[.agg #[.int .i64 0, .int .i64 0], .int .i64 4]) ∧ Below w.heap.size w w' := hQ
                clear st5 st6 hq
                go_wp2_with fail
                refine (hQ _).mono ?_
                rintro e w6 ⟨rfl, hb6⟩
                replace f0 := keepF hb6 l5 f0
                replace f1 := keepF hb6 l5 f1
                replace a0 := keepC hb6 l5 a0
                replace a1 := keepC hb6 l5 a1
                have z6 := hb6.size
                go_wp2_with fail
                go_ret
                exact ShQ.none hR.out (((hI5.below hb6).b.setCell (p := ⟨w1.heap.size, 0, none⟩) (by show B ≤ w1.heap.size; omega) _).setCell (p := ⟨w1.heap.size, 1, none⟩) (by show B ≤ w1.heap.size; omega) _)
              | some e2 =>
                have hS2 : Hid (M.SK kid ALL L j (i + 1) R e2 o2) := st6 e2 hq
                have he2 : M.Ok e2 := M.tell_ok hq (M.mul_pos' _ _ ha'.low.1.1 hlg.low.1.1)
                rw [hq] at hQ
                replace hQ : ∀ w, Calls Tryz.prog 24 #[.agg #[.int .i64 a'.1, .int .i64 a'.2], .agg #[.int .i64 lg.1, .int .i64 lg.2]] w fun e w' => e = .returned (.tuple #[.agg #[.int .i64 e2.1, .int .i64 e2.2], .int .i64 0]) ∧ Below w.heap.size w w' := hQ
                clear st5 st6 hq
                go_wp2_with fail
                refine (hQ _).mono ?_
                rintro e w6 ⟨rfl, hb6⟩
                replace f0 := keepF hb6 l5 f0
                replace f1 := keepF hb6 l5 f1
                replace a0 := keepC hb6 l5 a0
                replace a1 := keepC hb6 l5 a1
                have z6 := hb6.size
                go_wp2_with fail
                go_roundw
                case rel => exact ⟨i + 1, e2, o2, by go_num, by omega, (hI5.below hb6).put, hS2, he2, y1, x3⟩
                case measure => simp [intOf]; omega
        · obtain rfl : i = j := by omega
          have hz := M.sk_end kid ALL L i R a' o hSK.out
          have Hz : Hid (R = some (a', o)) := hz
          clear hz hSK
          go_wp2_with fail
          go_ret
          exact ShQ.some Hz.out hI.o hI.kp hI.b

theorem share_any (b : M.Bt) : ShC b := by
  induction b using M.Bt.ind with
  | nil => intro h; exact False.elim h
  | mk k s n kid ih =>
    intro hF a L sb out w po B v hL hB hO hlen ho ha hl
    obtain ⟨ao, cap, rfl, hn, hk⟩ := hL
    obtain ⟨f1, f2, f3, f4, f5, f6, f7, f8⟩ := hF
    have hc : M.cnt (.mk k s n kid) = 1 + M.ckids (fun j => M.cnt (kid j)) n := rfl
    by_cases k4 : k = 4
    · subst k4
      have hn0 := f4 rfl
      obtain ⟨b, off, rfl, hbB, hk⟩ := hk hn0
      rw [M.sh, if_pos rfl]
      exact share_group s n kid ih f8 hn0 f3 a L sb out w po B b off cap hbB hk hB hO (by omega) ho ha hl
    · rw [M.sh, if_neg k4]
      exact share_leaf k s ao n cap a L sb out w po B k4 hB hO (by omega) ho hl
end Go.Proofs.YtaohahahhjkcdaeGreatDoor.F

/- What the document's Scaled comes to: a new beat, all shares of kids as many times greater. -/
namespace Go.Proofs.YtaohahahhjkcdaeGreatDoor.F
open Go.RowKit
set_option linter.unusedVariables false
set_option linter.unusedSimpArgs false

/-- A beat as it is read: its kids lie in blocks of which P holds. -/
def LiesP (w : World) (P : Nat → Prop) : M.Bt → Value → Prop
  | ⟨true, _, _, _, _⟩, _ => False
  | ⟨false, k, s, n, kid⟩, v => ∃ ao cap, v = .agg #[.int .i64 k, .int .i64 s, .slice ao n cap] ∧ n ≤ 9223372036854775807 ∧ (0 < n → ∃ b off, ao = some ⟨b, off, none⟩ ∧ P b ∧ ∀ j, j < n → ∃ ao' cap', w.cell? ⟨b, off + j * 3, none⟩ = some (.int .i64 (kid j).k) ∧ w.cell? ⟨b, off + j * 3 + 1, none⟩ = some (.int .i64 (kid j).s) ∧ w.cell? ⟨b, off + j * 3 + 2, none⟩ = some (.slice ao' (kid j).n cap') ∧ LiesP w P (kid j) (.agg #[.int .i64 (kid j).k, .int .i64 (kid j).s, .slice ao' (kid j).n cap']))
theorem LiesP.step {w w' : World} {P P' : Nat → Prop} (hb : ∀ b, P b → w'.heap[b]? = w.heap[b]?) (hP : ∀ b, P b → P' b) (b : M.Bt) : ∀ v, LiesP w P b v → LiesP w' P' b v := by
  induction b using M.Bt.ind with
  | nil => intro v h; exact False.elim h
  | mk k s n kid ih =>
    intro v h
    obtain ⟨ao, cap, h1, h2, h3⟩ := h
    refine ⟨ao, cap, h1, h2, fun hn => ?_⟩
    obtain ⟨b, off, e1, e2, e3⟩ := h3 hn
    refine ⟨b, off, e1, hP b e2, fun j hj => ?_⟩
    obtain ⟨ao', cap', c0, c1, c2, c3⟩ := e3 j hj
    have hc : ∀ i, w'.cell? ⟨b, i, none⟩ = w.cell? ⟨b, i, none⟩ := fun i => World.cell?_of_block (w := w) (hb b e2)
    exact ⟨ao', cap', (hc _).trans c0, (hc _).trans c1, (hc _).trans c2, ih j _ c3⟩
theorem LiesP.lies {w : World} {P : Nat → Prop} {B : Nat} (hP : ∀ b, P b → b < B) (b : M.Bt) : ∀ v, LiesP w P b v → Lies w B b v := by
  induction b using M.Bt.ind with
  | nil => intro v h; exact False.elim h
  | mk k s n kid ih =>
    intro v h
    obtain ⟨ao, cap, h1, h2, h3⟩ := h
    refine ⟨ao, cap, h1, h2, fun hn => ?_⟩
    obtain ⟨b, off, e1, e2, e3⟩ := h3 hn
    refine ⟨b, off, e1, hP b e2, fun j hj => ?_⟩
    obtain ⟨ao', cap', c0, c1, c2, c3⟩ := e3 j hj
    exact ⟨ao', cap', c0, c1, c2, ih j _ c3⟩

theorem infoBt : (Tryz.prog.info? 76).map (fun i => (i.zero, i.size, i.bytes)) = some (some (.agg #[.int .i64 0, .int .i64 0, .slice none 0 0]), 3, 40) := by kernel_rfl
def kC (b : M.Bt) (f : Option Addr × Nat) : List Value := [.int .i64 b.k, .int .i64 b.s, .slice f.1 b.n f.2]
/-- The cells of the kids that have come. -/
def kL (K : Nat → M.Bt) : List (Option Addr × Nat) → Nat → List Value
  | [], _ => []
  | f :: r, i => kC (K i) f ++ kL K r (i + 1)
theorem kL_app (K : Nat → M.Bt) (l : List (Option Addr × Nat)) (f : Option Addr × Nat) (i : Nat) : kL K (l ++ [f]) i = kL K l i ++ kC (K (i + l.length)) f := by
  induction l generalizing i with
  | nil => simp [kL]
  | cons x l ih => simp only [List.cons_append, kL, ih, List.append_assoc, List.length_cons]; rw [show i + 1 + l.length = i + (l.length + 1) by omega]
theorem kL_get (K : Nat → M.Bt) (l : List (Option Addr × Nat)) (i j c : Nat) (f : Option Addr × Nat) (h : l[j]? = some f) (hc : c < 3) : (kL K l i)[j * 3 + c]? = (kC (K (i + j)) f)[c]? := by
  induction l generalizing i j with
  | nil => simp at h
  | cons x l ih =>
    simp only [kL]
    cases j with
    | zero =>
      simp at h; subst h
      rw [List.getElem?_append_left (by simp [kC]; omega)]
      simp
    | succ j =>
      simp at h
      rw [List.getElem?_append_right (by simp [kC]; omega), show (j + 1) * 3 + c - (kC (K i) x).length = j * 3 + c by simp [kC]; omega, ih (i + 1) j h, show i + 1 + j = i + (j + 1) by omega]

/-- Scaled's own variables, and the kids that have come. -/
structure ScI (w : World) (k s : Int) (K : Nat → M.Bt) (fs : List (Option Addr × Nat)) (xa : Option Addr) (xc : Nat) (wr : World) : Prop where
  b : Below w.heap.size w wr
  r : wr.ownsRow (w.heap.size + 3) 76 3 (.slice xa fs.length xc) fs.length (kL K fs 0)
  c0 : wr.cell? ⟨w.heap.size + 2, 0, none⟩ = some (.int .i64 k)
  c1 : wr.cell? ⟨w.heap.size + 2, 1, none⟩ = some (.int .i64 s)
  c2 : wr.cell? ⟨w.heap.size + 2, 2, none⟩ = some (.slice xa fs.length xc)
  cf : wr.frozen? ⟨w.heap.size + 2, 2, none⟩ = false
  r0 : wr.cell? ⟨w.heap.size + 1, 0, none⟩ = some (.int .i64 0)
  r1 : wr.cell? ⟨w.heap.size + 1, 1, none⟩ = some (.int .i64 0)
  r2 : wr.cell? ⟨w.heap.size + 1, 2, none⟩ = some (.slice none 0 0)
  f0 : wr.frozen? ⟨w.heap.size + 1, 0, none⟩ = false
  f1 : wr.frozen? ⟨w.heap.size + 1, 1, none⟩ = false
  f2 : wr.frozen? ⟨w.heap.size + 1, 2, none⟩ = false
  lz : w.heap.size + 2 < wr.heap.size
  kd : ∀ i f, fs[i]? = some f → LiesP wr (fun b => w.heap.size + 3 ≤ b ∧ b < wr.heap.size ∧ (Value.slice xa fs.length xc).ownBlock ≠ some b) (K i) (.agg #[.int .i64 (K i).k, .int .i64 (K i).s, .slice f.1 (K i).n f.2])

/-- A kid more: it lies in blocks behind those that were there; the row has grown. -/
theorem ScI.more {w wr w6 w7 : World} {k s : Int} {K : Nat → M.Bt} {fs : List (Option Addr × Nat)} {xa xa' : Option Addr} {xc xc' : Nat} {f : Option Addr × Nat} (h : ScI w k s K fs xa xc wr)
    (hw6 : Below wr.heap.size wr w6) (hg : w6.grownBy w7 (Value.slice xa fs.length xc).ownBlock) (hown : w7.ownsRow (w.heap.size + 3) 76 3 (.slice xa' (fs.length + 1) xc') (fs.length + 1) (kL K fs 0 ++ kC (K fs.length) f))
    (hk : (Value.slice xa' (fs.length + 1) xc').ownBlock = (Value.slice xa fs.length xc).ownBlock ∨ ∃ g, (Value.slice xa' (fs.length + 1) xc').ownBlock = some g ∧ w6.heap.size ≤ g)
    (hl : LiesP w6 (fun b => wr.heap.size ≤ b ∧ b < w6.heap.size) (K fs.length) (.agg #[.int .i64 (K fs.length).k, .int .i64 (K fs.length).s, .slice f.1 (K fs.length).n f.2])) :
    ScI w k s K (fs ++ [f]) xa' xc' (w7.setCell ⟨w.heap.size + 2, 2, none⟩ (.slice xa' (fs.length + 1) xc')) := by
  have l1 := h.lz
  have l2 := hw6.size
  have l3 := hg.size
  have ownlt := own_lt h.r
  have ownge := own_block h.r
  have hbz : Below (w.heap.size + 3) w6 w7 := (Below.refl _ _).grown hg (by omega) ownge
  have hbz' : Below (w.heap.size + 3) wr w7 := (hw6.mono (by omega)).trans hbz
  have hln : (fs ++ [f]).length = fs.length + 1 := by simp
  have q := kL_app K fs f 0
  rw [Nat.zero_add] at q
  have blk : ∀ b, w.heap.size + 3 ≤ b → b < w6.heap.size → (Value.slice xa fs.length xc).ownBlock ≠ some b → (w7.setCell ⟨w.heap.size + 2, 2, none⟩ (.slice xa' (fs.length + 1) xc')).heap[b]? = w6.heap[b]? := fun b hb1 hb2 hne => by
    rw [heap_setCell_other _ _ _ _ (by show b ≠ w.heap.size + 2; omega)]
    exact hg.block b hb2 (fun e => hne e.symm)
  have newb : ∀ b, b < w6.heap.size → (Value.slice xa fs.length xc).ownBlock ≠ some b → (Value.slice xa' (fs.length + 1) xc').ownBlock ≠ some b := fun b hb1 hne e => by
    rcases hk with q | ⟨g, q1, q2⟩
    · exact hne (by rw [← q]; exact e)
    · rw [q1] at e; simp only [Option.some.injEq] at e; omega
  rw [← q, ← hln] at hown
  rw [← hln] at newb
  refine ⟨?_, ?_, ?_, ?_, ?_, ?_, ?_, ?_, ?_, ?_, ?_, ?_, ?_, fun i f' hf => ?_⟩
  · exact (h.b.trans (hbz'.mono (by omega))).setCell (p := ⟨w.heap.size + 2, 2, none⟩) (by show w.heap.size ≤ w.heap.size + 2; omega) _
  · rw [← hln]; exact own_put hown (by omega)
  · simp [go_sem, keepC hbz' (show w.heap.size + 2 < w.heap.size + 3 by omega) h.c0]
  · simp [go_sem, keepC hbz' (show w.heap.size + 2 < w.heap.size + 3 by omega) h.c1]
  · rw [hln]; simp [go_sem, keepC hbz' (show w.heap.size + 2 < w.heap.size + 3 by omega) h.c2]
  · simp [go_sem, keepF hbz' (show w.heap.size + 2 < w.heap.size + 3 by omega) h.cf]
  · simp [go_sem, keepC hbz' (show w.heap.size + 1 < w.heap.size + 3 by omega) h.r0]
  · simp [go_sem, keepC hbz' (show w.heap.size + 1 < w.heap.size + 3 by omega) h.r1]
  · simp [go_sem, keepC hbz' (show w.heap.size + 1 < w.heap.size + 3 by omega) h.r2]
  · simp [go_sem, keepF hbz' (show w.heap.size + 1 < w.heap.size + 3 by omega) h.f0]
  · simp [go_sem, keepF hbz' (show w.heap.size + 1 < w.heap.size + 3 by omega) h.f1]
  · simp [go_sem, keepF hbz' (show w.heap.size + 1 < w.heap.size + 3 by omega) h.f2]
  · simp; omega
  · by_cases hi : i < fs.length
    · rw [List.getElem?_append_left hi] at hf
      refine LiesP.step (fun b hb => ?_) (fun b hb => ?_) _ _ (h.kd i f' hf)
      · exact (blk b hb.1 (by omega) hb.2.2).trans (hw6.block b hb.2.1)
      · exact ⟨hb.1, by simp; omega, newb b (by omega) hb.2.2⟩
    · have hi2 : i = fs.length := by
        have := (List.getElem?_eq_some_iff.1 hf).1
        rw [hln] at this; omega
      subst hi2
      rw [List.getElem?_append_right (Nat.le_refl _), Nat.sub_self] at hf
      simp only [List.getElem?_cons_zero, Option.some.injEq] at hf
      subst hf
      refine LiesP.step (fun b hb => ?_) (fun b hb => ?_) _ _ hl
      · exact blk b (by omega) hb.2 (fun e => by have := ownlt b e; omega)
      · exact ⟨by omega, by simp; omega, newb b hb.2 (fun e => by have := ownlt b e; omega)⟩

theorem LiesP.form {w : World} {P : Nat → Prop} {b : M.Bt} {v : Value} (h : LiesP w P b v) : ∃ ao cap, v = .agg #[.int .i64 b.k, .int .i64 b.s, .slice ao b.n cap] := by
  induction b using M.Bt.ind with
  | nil => exact False.elim h
  | mk k s n kid => obtain ⟨ao, cap, h1, _⟩ := h; exact ⟨ao, cap, h1⟩
theorem LiesP.up {w : World} {P : Nat → Prop} {b : M.Bt} {f : Int} {ao : Option Addr} {cap : Nat} (h : LiesP w P b (.agg #[.int .i64 b.k, .int .i64 b.s, .slice ao b.n cap])) : LiesP w P (M.upS f b) (.agg #[.int .i64 (M.upS f b).k, .int .i64 (M.upS f b).s, .slice ao (M.upS f b).n cap]) := by
  induction b using M.Bt.ind with
  | nil => exact False.elim h
  | mk k s n kid =>
    obtain ⟨ao1, cap1, h1, h2, h3⟩ := h
    obtain ⟨rfl, rfl⟩ : ao = ao1 ∧ cap = cap1 := by simpa [M.Bt.k, M.Bt.s, M.Bt.n] using h1
    exact ⟨ao, cap, rfl, h2, h3⟩

end Go.Proofs.YtaohahahhjkcdaeGreatDoor.F
