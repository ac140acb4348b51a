/- Plain facts on spans: they stand one behind the other; shares that are all as many times greater share alike. -/
import Derived.Test.YtgcnmmjgdpdmbadB10
namespace Go.Proofs.Ytgcnmmjgdpdmbad.F
set_option linter.unusedVariables false

theorem M.tell_eq {u d : Int} {f : M.Fr} (h : M.tell u d = some f) (hd : 1 ≤ d) : f.1 * d = u * f.2 := by
  obtain ⟨rfl, _, _⟩ := M.tell_some h hd
  have q1 := M.lu_mul u d
  have q2 := M.ld_mul u d
  show M.lu u d * d = u * M.ld u d
  generalize M.lu u d = x at *
  generalize M.ld u d = y at *
  generalize M.gi u d = g at *
  subst q1
  rw [← q2]
  grind
theorem M.tell_up {u d : Int} {f : M.Fr} (h : M.tell u d = some f) (hd : 1 ≤ d) (hu : 1 ≤ u) : 1 ≤ f.1 := by
  have e := M.tell_eq h hd
  have l := (M.tell_some h hd).2.1.1
  have p := M.mul_pos' u f.2 hu l
  by_cases c : 1 ≤ f.1
  · exact c
  · have : f.1 * d ≤ 0 * d := Int.mul_le_mul_of_nonneg_right (by omega) (by omega)
    omega
theorem M.pl_assoc {s x a L f e : M.Fr} (hs : 1 ≤ s.2) (hx : 1 ≤ x.2) (hL : 1 ≤ L.2) (h1 : M.pl s x = some a) (h2 : M.pl x L = some f) (h3 : M.pl a L = some e) : M.pl s f = some e := by
  have e1 := M.tell_eq h1 (M.mul_pos' _ _ hs hx)
  have e2 := M.tell_eq h2 (M.mul_pos' _ _ hx hL)
  have la := (M.tell_some h1 (M.mul_pos' _ _ hs hx)).2.1.1
  have lf := (M.tell_some h2 (M.mul_pos' _ _ hx hL)).2.1.1
  rw [← h3]
  unfold M.pl
  refine M.tell_congr (M.mul_pos' _ _ hs lf) (M.mul_pos' _ _ la hL) ?_
  have x0 : x.2 ≠ 0 := by omega
  apply Int.eq_of_mul_eq_mul_right x0
  clear h1 h2 h3 hs hx hL la lf
  obtain ⟨s1, s2⟩ := s
  obtain ⟨x1, x2⟩ := x
  obtain ⟨a1, a2⟩ := a
  obtain ⟨l1, l2⟩ := L
  obtain ⟨f1, f2⟩ := f
  simp only at *
  grind

/-- Spans one behind the other from a place on, and where they end. -/
def M.chn : List M.Sp → M.Fr → Option M.Fr
  | [], a => some a
  | x :: r, a => if x.1 = a ∧ 1 ≤ x.2.1.1 then (M.pl a x.2.1).bind (M.chn r) else none
theorem M.chn_app (l r : List M.Sp) (a : M.Fr) : M.chn (l ++ r) a = (M.chn l a).bind (M.chn r) := by
  induction l generalizing a with
  | nil => rfl
  | cons x l ih =>
    simp only [List.cons_append, M.chn]
    split
    · cases M.pl a x.2.1 with
      | none => rfl
      | some e => simp [ih]
    · rfl
theorem M.chn_ok (l : List M.Sp) (a e : M.Fr) (ha : M.Ok a) (hl : M.OutOk l) (h : M.chn l a = some e) : M.Ok e := by
  induction l generalizing a with
  | nil => simp only [M.chn, Option.some.injEq] at h; subst h; exact ha
  | cons x l ih =>
    rw [M.chn] at h
    split at h
    · obtain ⟨b, hb, h⟩ := Option.bind_eq_some_iff.1 h
      have hx : M.Ok x.2.1 := hl x (by simp)
      exact ih b (M.tell_ok hb (M.mul_pos' _ _ ha.low.1.1 hx.low.1.1)) (fun s hs => hl s (by simp [hs])) h
    · simp at h
theorem M.ok01 : M.Ok (0, 1) := by unfold M.Ok M.ok; decide
theorem M.ad_chn {out o : List M.Sp} {k : Int} {a L e : M.Fr} (ho : M.OutOk out) (ha : M.Ok a) (hL : M.Ok L) (hu : 1 ≤ L.1) (hc : M.chn out (0, 1) = some a) (h : M.ad out k a L = some o) (he : M.pl a L = some e) : M.chn o (0, 1) = some e := by
  by_cases hk : k ≠ 3 ∨ out = []
  · rw [M.ad_new out k a L hk] at h
    simp only [Option.some.injEq] at h
    subst h
    rw [M.chn_app, hc]
    simp only [Option.bind_some, M.chn]
    rw [if_pos ⟨trivial, hu⟩, he]
    rfl
  · obtain ⟨o', x, rfl⟩ : ∃ o' x, out = o' ++ [x] := by
      rcases List.eq_nil_or_concat out with e | ⟨a, b, e⟩
      · exact absurd (.inr e) hk
      · exact ⟨a, b, by simpa using e⟩
    obtain rfl : k = 3 := by
      by_cases e : k = 3
      · exact e
      · exact absurd (.inl e) hk
    rw [M.ad_tie] at h
    obtain ⟨f, hf, rfl⟩ := Option.map_eq_some_iff.1 h
    rw [M.chn_app] at hc ⊢
    obtain ⟨b, hb, hc⟩ := Option.bind_eq_some_iff.1 hc
    have hbo := M.chn_ok o' _ b M.ok01 (fun s hs => ho s (by simp [hs])) hb
    have hx : M.Ok x.2.1 := ho x (by simp)
    rw [M.chn] at hc
    split at hc
    · rename_i hc1
      obtain ⟨b2, hb2, hc⟩ := Option.bind_eq_some_iff.1 hc
      simp only [M.chn, Option.some.injEq] at hc
      subst hc
      rw [hb]
      simp only [Option.bind_some, M.chn]
      have hf1 : 1 ≤ f.1 := by
        refine M.tell_up hf (M.mul_pos' _ _ hx.low.1.1 hL.low.1.1) ?_
        have p1 := M.mul_pos' x.2.1.1 L.2 hc1.2 hL.low.1.1
        have p2 := M.mul_pos' L.1 x.2.1.2 hu hx.low.1.1
        omega
      rw [if_pos ⟨hc1.1, hf1⟩, M.pl_assoc hbo.low.1.1 hx.low.1.1 hL.low.1.1 hb2 hf he]
      rfl
    · simp at hc

theorem M.skids_chn (kid : Nat → M.Bt) (n : Nat) (all : Int) (L : M.Fr) (hL : M.Ok L) (hu : 1 ≤ L.1) (hall : 1 ≤ all) (hk : ∀ j, j < n → M.Fine (kid j))
    (ih : ∀ j, j < n → ∀ (a l : M.Fr) (out o : List M.Sp) (e : M.Fr), M.Ok a → M.Ok l → 1 ≤ l.1 → M.OutOk out → M.chn out (0, 1) = some a → M.sh (kid j) a l out = some o → M.pl a l = some e → M.chn o (0, 1) = some e) :
    ∀ (c i : Nat) (a : M.Fr) (out : List M.Sp) (e : M.Fr) (o : List M.Sp), i + c ≤ n → M.Ok a → M.OutOk out → M.chn out (0, 1) = some a → M.skids (fun j a l o => M.sh (kid j) a l o) (fun j => (kid j).s) all L c i a out = some (e, o) → M.chn o (0, 1) = some e := by
  intro c
  induction c with
  | zero =>
    intro i a out e o _ _ _ hc hs
    simp only [M.skids, Option.some.injEq, Prod.mk.injEq] at hs
    obtain ⟨rfl, rfl⟩ := hs
    exact hc
  | succ c ihc =>
    intro i a out e o hn ha ho hc hs
    rw [M.skids] at hs
    obtain ⟨lg, h1, hs⟩ := Option.bind_eq_some_iff.1 hs
    obtain ⟨o2, h2, hs⟩ := Option.bind_eq_some_iff.1 hs
    obtain ⟨e2, h3, hs⟩ := Option.bind_eq_some_iff.1 hs
    have hd := M.mul_pos' _ _ hL.low.1.1 hall
    have hlg : M.Ok lg := M.tell_ok h1 hd
    have hs1 := (hk i (by omega)).share
    have hlu : 1 ≤ lg.1 := M.tell_up h1 hd (M.mul_pos' _ _ hu hs1.1)
    have he2 : M.Ok e2 := M.tell_ok h3 (M.mul_pos' _ _ ha.low.1.1 hlg.low.1.1)
    have hq := M.sh_ok (kid i) (hk i (by omega)) a lg out o2 ha hlg ho h2
    exact ihc (i + 1) e2 o2 e o (by omega) he2 hq.1 (ih i (by omega) a lg out o2 e2 ha hlg hlu ho hc h2 h3) hs
theorem M.sh_chn (b : M.Bt) : M.Fine b → ∀ (a L : M.Fr) (out o : List M.Sp) (e : M.Fr), M.Ok a → M.Ok L → 1 ≤ L.1 → M.OutOk out → M.chn out (0, 1) = some a → M.sh b a L out = some o → M.pl a L = some e → M.chn o (0, 1) = some e := by
  induction b using M.Bt.ind with
  | nil => intro h; exact False.elim h
  | mk k s n kid ih =>
    intro hF a L out o e ha hL hu ho hc hs he
    obtain ⟨_, _, _, h4, h5, _, _, hk⟩ := hF
    by_cases hk4 : k = 4
    · have hsm := M.sums_bd kid n hk
      have hn := h4 hk4
      have hall : 1 ≤ M.sums kid n := by omega
      rw [M.sh, if_pos hk4] at hs
      obtain ⟨x, hx, rfl⟩ := Option.map_eq_some_iff.1 hs
      obtain ⟨e', o⟩ := x
      have q := M.skids_chn kid n (M.sums kid n) L hL hu hall hk (fun j hj a l out o e h1 h2 h3 h4 h5 h6 h7 => ih j (hk j hj) a l out o e h1 h2 h3 h4 h5 h6 h7) n 0 a out e' o (by omega) ha ho hc hx
      obtain ⟨q1, q2⟩ := M.skids_end kid (M.sums kid n) a L ha.low.1.1 hL.low.1.1 hall _ n 0 a out e' o (M.plc_start ha.low.1) ha.low.2 hx
      rw [Nat.zero_add] at q1
      have := M.plc_end q1 ha.low.1.1 hL.low.1.1 hall q2
      rw [he] at this
      simp only [Option.some.injEq] at this
      rw [q, this]
    · rw [M.sh, if_neg hk4] at hs
      exact M.ad_chn ho ha hL hu hc hs he
/-- What the program's Spans tells stands one behind the other from 0 on, and ends where the length does. -/
theorem M.spans_chn (b : M.Bt) (L : M.Fr) (o : List M.Sp) (hF : M.Fine b) (hL : M.Ok L) (hu : 1 ≤ L.1) (h : M.sh b (0, 1) L [] = some o) : M.chn o (0, 1) = some L ∧ M.OutOk o := by
  have hp : M.pl (0, 1) L = some L := by
    obtain ⟨f1, f2⟩ := M.low_val hL.low.1
    unfold M.pl M.tell
    simp only [Int.zero_mul, Int.zero_add, Int.mul_one, Int.one_mul]
    rw [f1, f2, if_pos hL.low.2]
  exact ⟨M.sh_chn b hF (0, 1) L [] o L M.ok01 hL hu (fun s hs => by simp at hs) rfl h hp, (M.sh_ok b hF (0, 1) L [] o M.ok01 hL (fun s hs => by simp at hs) h).1⟩

/-- A beat whose share is n times as great. -/
def M.upS (n : Int) : M.Bt → M.Bt
  | ⟨true, k, s, m, sub⟩ => ⟨true, k, s, m, sub⟩
  | ⟨false, k, s, m, kid⟩ => .mk k (s * n) m kid
/-- All shares of the kids n times as great, on each level. -/
def M.scl (n : Int) : M.Bt → M.Bt
  | ⟨true, k, s, m, sub⟩ => ⟨true, k, s, m, sub⟩
  | ⟨false, k, s, m, kid⟩ => .mk k s m (fun j => M.upS n (M.scl n (kid j)))
theorem M.scl_s (n : Int) (b : M.Bt) : (M.scl n b).s = b.s ∧ (M.scl n b).k = b.k ∧ (M.scl n b).n = b.n := by induction b using M.Bt.ind <;> exact ⟨rfl, rfl, rfl⟩
theorem M.scl_z (n : Int) (b : M.Bt) : (M.scl n b).z = b.z := by induction b using M.Bt.ind <;> rfl
theorem M.upS_s (n : Int) (b : M.Bt) (h : b.z = false) : (M.upS n b).s = b.s * n ∧ (M.upS n b).k = b.k ∧ (M.upS n b).n = b.n := by
  induction b using M.Bt.ind with
  | nil => cases h
  | mk k s m kid => exact ⟨rfl, rfl, rfl⟩
theorem M.sh_upS (n : Int) (b : M.Bt) (a L : M.Fr) (out : List M.Sp) : M.sh (M.upS n b) a L out = M.sh b a L out := by induction b using M.Bt.ind <;> rfl
theorem M.Fine.ne {b : M.Bt} (h : M.Fine b) : b.z = false := by
  induction b using M.Bt.ind with
  | nil => exact False.elim h
  | mk k s m kid => rfl
theorem M.sums_scl (n : Int) (kid : Nat → M.Bt) (m : Nat) (h : ∀ j, j < m → M.Fine (kid j)) : M.sums (fun j => M.upS n (M.scl n (kid j))) m = M.sums kid m * n := by
  induction m with
  | zero => simp [M.sums]
  | succ m ih =>
    rw [M.sums, M.sums, ih (fun j hj => h j (by omega)), Int.add_mul]
    have h1 : (M.scl n (kid m)).z = false := by rw [M.scl_z]; exact (h m (by omega)).ne
    rw [(M.upS_s n _ h1).1, (M.scl_s n _).1]
theorem M.pr_scl (L : M.Fr) (s all n : Int) (hL : 1 ≤ L.2) (hall : 1 ≤ all) (hn : 1 ≤ n) : M.pr L (s * n) (all * n) = M.pr L s all := by
  unfold M.pr
  refine M.tell_congr (M.mul_pos' _ _ hL (M.mul_pos' _ _ hall hn)) (M.mul_pos' _ _ hL hall) ?_
  grind
theorem M.skids_scl (n : Int) (hn : 1 ≤ n) (kid : Nat → M.Bt) (m : Nat) (all : Int) (L : M.Fr) (hL : 1 ≤ L.2) (hall : 1 ≤ all) (hk : ∀ j, j < m → M.Fine (kid j))
    (ih : ∀ j, j < m → ∀ (a l : M.Fr) (o : List M.Sp), 1 ≤ l.2 → M.sh (M.scl n (kid j)) a l o = M.sh (kid j) a l o) :
    ∀ (c i : Nat) (a : M.Fr) (out : List M.Sp), i + c ≤ m → M.skids (fun j a l o => M.sh (M.upS n (M.scl n (kid j))) a l o) (fun j => (M.upS n (M.scl n (kid j))).s) (all * n) L c i a out = M.skids (fun j a l o => M.sh (kid j) a l o) (fun j => (kid j).s) all L c i a out := by
  intro c
  induction c with
  | zero => intro i a out _; rfl
  | succ c ihc =>
    intro i a out hi
    rw [M.skids, M.skids]
    have h1 : (M.scl n (kid i)).z = false := by rw [M.scl_z]; exact (hk i (by omega)).ne
    have e1 : (M.upS n (M.scl n (kid i))).s = (kid i).s * n := by rw [(M.upS_s n _ h1).1, (M.scl_s n _).1]
    simp only [e1]
    rw [M.pr_scl L _ all n hL hall hn]
    cases hp : M.pr L (kid i).s all with
    | none => rfl
    | some lg =>
      have hlg := (M.tell_some hp (M.mul_pos' _ _ hL hall)).2.1.1
      simp only [Option.bind_some]
      rw [M.sh_upS, ih i (by omega) a lg out hlg]
      cases M.sh (kid i) a lg out with
      | none => rfl
      | some o =>
        simp only [Option.bind_some]
        cases M.pl a lg with
        | none => rfl
        | some e => simp only [Option.bind_some]; exact ihc (i + 1) e o (by omega)
theorem M.sh_scl (n : Int) (hn : 1 ≤ n) (b : M.Bt) : M.Fine b → ∀ (a L : M.Fr) (out : List M.Sp), 1 ≤ L.2 → M.sh (M.scl n b) a L out = M.sh b a L out := by
  induction b using M.Bt.ind with
  | nil => intro h; exact False.elim h
  | mk k s m kid ih =>
    intro hF a L out hL
    obtain ⟨_, _, _, h4, h5, _, _, hk⟩ := hF
    by_cases hk4 : k = 4
    · have hsm := M.sums_bd kid m hk
      have hm := h4 hk4
      have hall : 1 ≤ M.sums kid m := by omega
      rw [M.scl, M.sh, M.sh, if_pos hk4, if_pos hk4, M.sums_scl n kid m hk]
      rw [M.skids_scl n hn kid m (M.sums kid m) L hL hall hk (fun j hj a l o h => ih j (hk j hj) a l o h) m 0 a out (by omega)]
    · rw [M.scl, M.sh, M.sh, if_neg hk4, if_neg hk4]

/-- What is wrong with what has greater shares: nothing, or a share. -/
theorem M.wkids_scl (n : Int) (kid : Nat → M.Bt) (lev : Int)
    (ih : ∀ (j : Nat) (l : Int), 0 ≤ l → l ≤ 4096 → (M.wr (kid j) (lev + 1) l).1 = 0 → (M.wr (M.upS n (M.scl n (kid j))) (lev + 1) l).1 = 3 ∨ M.wr (M.upS n (M.scl n (kid j))) (lev + 1) l = M.wr (kid j) (lev + 1) l) :
    ∀ (c i : Nat) (l : Int), 0 ≤ l → l ≤ 4096 → (M.wkids (fun j l => M.wr (kid j) (lev + 1) l) c i l).1 = 0 → (M.wkids (fun j l => M.wr (M.upS n (M.scl n (kid j))) (lev + 1) l) c i l).1 = 3 ∨ M.wkids (fun j l => M.wr (M.upS n (M.scl n (kid j))) (lev + 1) l) c i l = M.wkids (fun j l => M.wr (kid j) (lev + 1) l) c i l := by
  intro c
  induction c with
  | zero => intro i l _ _ _; exact .inr rfl
  | succ c ihc =>
    intro i l h0 h1 h
    rw [M.wkids] at h
    rw [M.wkids, M.wkids]
    by_cases e : (M.wr (kid i) (lev + 1) l).1 = 0
    · rw [if_neg (by simpa using e)] at h
      have b := M.wr_bd (kid i) (lev + 1) l h0
      rcases ih i l h0 h1 e with q | q
      · rw [if_pos (by rw [q]; decide)]
        exact .inl q
      · simp only [q]
        rw [if_neg (by simpa using e), if_neg (by simpa using e)]
        exact ihc (i + 1) _ b.1 (by omega) h
    · rw [if_pos e] at h; exact absurd h e
theorem M.wr_scl (n : Int) (hn : 1 ≤ n) (b : M.Bt) : ∀ lev l : Int, 0 ≤ l → l ≤ 4096 → (M.wr b lev l).1 = 0 →
    ((M.wr (M.upS n (M.scl n b)) lev l).1 = 3 ∨ M.wr (M.upS n (M.scl n b)) lev l = M.wr b lev l) ∧ ((M.wr (M.scl n b) lev l).1 = 3 ∨ M.wr (M.scl n b) lev l = M.wr b lev l) := by
  induction b using M.Bt.ind with
  | nil => intro lev l _ _ h; exact absurd h (show ¬ (4 : Int) = 0 by decide)
  | mk k s m kid ih =>
    intro lev l h0 h1 h
    by_cases c : 32 < lev ∨ l < 1
    · rw [M.wr_much _ _ _ c] at h; exact absurd h (show ¬ (4 : Int) = 0 by decide)
    · by_cases ha : M.al k s m = 0
      · rw [M.wr_kids k s m kid lev l c ha] at h ⊢
        have q := M.wkids_scl n kid lev (fun j l a b e => (ih j (lev + 1) l a b e).1) m 0 (l - 1) (by omega) (by omega) h
        have d0 : ¬ (s < 1 ∨ 65536 < s) := fun c => by rw [M.al_share k s m c] at ha; omega
        have d1 : ¬ (k < 1 ∨ 4 < k) := fun c => by rw [M.al_kind k s m d0 c] at ha; omega
        have d2 : ¬ ((k = 4 ∧ m = 0) ∨ (k ≠ 4 ∧ 0 < m)) := fun c => by rw [M.al_many k s m d0 d1 c] at ha; omega
        refine ⟨?_, ?_⟩
        · show (M.wr (.mk k (s * n) m (fun j => M.upS n (M.scl n (kid j)))) lev l).1 = 3 ∨ M.wr (.mk k (s * n) m (fun j => M.upS n (M.scl n (kid j)))) lev l = _
          by_cases cs : s * n < 1 ∨ 65536 < s * n
          · have e := M.al_share k (s * n) m cs
            rw [M.wr_al _ _ _ _ _ _ c (by rw [e]; decide), e]
            exact .inl rfl
          · rw [M.wr_kids _ _ _ _ _ _ c (M.al_ok k (s * n) m cs d1 d2)]
            exact q
        · show (M.wr (.mk k s m (fun j => M.upS n (M.scl n (kid j)))) lev l).1 = 3 ∨ M.wr (.mk k s m (fun j => M.upS n (M.scl n (kid j)))) lev l = _
          rw [M.wr_kids _ _ _ _ _ _ c (M.al_ok k s m d0 d1 d2)]
          exact q
      · rw [M.wr_al k s m kid lev l c ha] at h; exact absurd h ha
end Go.Proofs.Ytgcnmmjgdpdmbad.F
