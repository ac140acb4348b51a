/- Bars: what their items' spans are; a singer's bar as a plain function. -/
import Derived.Test.YtaohahahhjkcdaeGreatDoorSG32
import Derived.Test.YtaohahahhjkcdaeGreatDoorSG16
import Derived.Test.YtaohahahhjkcdaeGreatDoorSG30
import Derived.Test.YtaohahahhjkcdaeGreatDoorSG26
import Derived.Test.YtaohahahhjkcdaeGreatDoorSG20
namespace Go.Proofs.YtaohahahhjkcdaeGreatDoor.G.M
set_option linter.unusedVariables false
set_option linter.unusedSimpArgs false

/-- Starts and lengths are as they must be. -/
def So (out : List F.M.Sp) : Prop := ∀ p ∈ out, F.M.Ok p.1 ∧ F.M.Ok p.2.1
/-- The beat of a kid. -/
def kb (kid : Nat → It) (j : Nat) : F.M.Bt := if (kid j).k = 4 ∨ (kid j).k = 5 then bt (kid j) (kid j).s else F.M.Bt.mk 1 (kid j).s 0 (fun _ => F.M.Bt.nil)
theorem bt_mk (k s : Int) (np : Nat) (pl pa po : Nat → Int) (b1 b2 : Int) (ly : ByteArray) (n : Nat) (kid : Nat → It) (sh : Int) : bt (.mk k s np pl pa po b1 b2 ly n kid) sh = F.M.Bt.mk 4 sh n (kb kid) := by
  rw [bt]; rfl
theorem skids_bt (kid : Nat → It) (n : Nat) (all : Int) (L : F.M.Fr) (hL : F.M.Ok L) (hall : 1 ≤ all)
    (ih : ∀ j, j < n → ∀ (a l : F.M.Fr) (out o : List F.M.Sp), F.M.Ok a → F.M.Ok l → So out → F.M.sh (kb kid j) a l out = some o → So o ∧ o.length = out.length + l1 (kid j)) :
    ∀ (c i : Nat) (a : F.M.Fr) (out : List F.M.Sp) (e : F.M.Fr) (o : List F.M.Sp), i + c = n → F.M.Ok a → So out → F.M.skids (fun j a l o => F.M.sh (kb kid j) a l o) (fun j => (kb kid j).s) all L c i a out = some (e, o) → So o ∧ o.length = out.length + lr kid n i := by
  intro c
  induction c with
  | zero =>
    intro i a out e o hi _ ho hs
    simp only [F.M.skids, Option.some.injEq, Prod.mk.injEq] at hs
    obtain ⟨_, rfl⟩ := hs
    obtain rfl : i = n := by omega
    rw [lr_end]
    exact ⟨ho, rfl⟩
  | succ c ihc =>
    intro i a out e o hi ha ho hs
    rw [F.M.skids] at hs
    obtain ⟨lg, h1, hs⟩ := Option.bind_eq_some_iff.1 hs
    obtain ⟨o2, h2, hs⟩ := Option.bind_eq_some_iff.1 hs
    obtain ⟨e2, h3, hs⟩ := Option.bind_eq_some_iff.1 hs
    have hlg : F.M.Ok lg := F.M.tell_ok h1 (F.M.mul_pos' _ _ hL.low.1.1 hall)
    have he2 : F.M.Ok e2 := F.M.tell_ok h3 (F.M.mul_pos' _ _ ha.low.1.1 hlg.low.1.1)
    obtain ⟨q1, q2⟩ := ih i (by omega) a lg out o2 ha hlg ho h2
    obtain ⟨r1, r2⟩ := ihc (i + 1) e2 o2 e o (by omega) he2 q1 hs
    rw [lr_step (by omega)]
    exact ⟨r1, by omega⟩
theorem sh_bt (t : It) : ∀ (s : Int), F.M.Fine (bt t s) → ∀ (a L : F.M.Fr) (out o : List F.M.Sp), F.M.Ok a → F.M.Ok L → So out → F.M.sh (bt t s) a L out = some o → So o ∧ o.length = out.length + lc t := by
  induction t using It.ind with
  | nil => intro s h; exact False.elim h
  | mk k s' np pl pa po b1 b2 ly n kid ih =>
    intro s hF a L out o ha hL ho hs
    rw [bt_mk] at hF hs
    rw [lc_mk]
    obtain ⟨_, _, _, h4, h5, _, _, hk⟩ := hF
    have hsm := F.M.sums_bd (kb kid) n hk
    have hn := h4 rfl
    rw [F.M.sh, if_pos rfl] at hs
    obtain ⟨x, hx, rfl⟩ := Option.map_eq_some_iff.1 hs
    obtain ⟨e, o⟩ := x
    refine skids_bt kid n (F.M.sums (kb kid) n) L hL (by omega) (fun j hj a l out o g1 g2 g3 g4 => ?_) n 0 a out e o (by omega) ha ho hx
    have hFj := hk j hj
    unfold kb at g4 hFj
    unfold l1
    by_cases hg : (kid j).k = 4 ∨ (kid j).k = 5
    · rw [if_pos hg] at g4 hFj ⊢
      exact ih j _ hFj a l out o g1 g2 g3 g4
    · rw [if_neg hg] at g4 ⊢
      rw [F.M.sh, if_neg (by decide), F.M.ad_new out 1 a l (.inl (by decide))] at g4
      simp only [Option.some.injEq] at g4
      subst g4
      refine ⟨fun p hp => ?_, by simp⟩
      simp only [List.mem_append, List.mem_singleton] at hp
      rcases hp with hp | hp
      · exact g3 p hp
      · subst hp; exact ⟨g1, g2⟩
/-- The foot of a bar. -/
theorem foot {u d : Int} (h1 : 1 ≤ u) (h2 : u ≤ 65536) (h3 : 1 ≤ d) (h4 : d ≤ 65536) : F.M.me u d = 0 ∧ F.M.Ok (F.M.mu u d, F.M.md u d) := by
  have a1 := F.M.lu_abs u d
  have e2 := F.M.ld_mul u d
  have g1 := F.M.gi_pos u d (by omega)
  have p1 := F.M.ld_pos u d (by omega)
  have d1 : F.M.ld u d ≤ d := by
    have : 1 * F.M.ld u d ≤ F.M.gi u d * F.M.ld u d := Int.mul_le_mul_of_nonneg_right g1 (by omega)
    omega
  have hb : F.M.bd (F.M.lu u d) (F.M.ld u d) = true := by unfold F.M.bd; simp; omega
  refine ⟨by rw [F.M.me_yes _ _ (by omega), F.M.er_yes _ _ hb], ?_⟩
  rw [F.M.mu_yes _ _ (by omega), F.M.up_yes _ _ hb, F.M.md_yes _ _ (by omega), F.M.dn_yes _ _ hb]
  exact F.M.ok_of u d (by omega) hb
/-- The spans of a bar's items. -/
def bs (u d : Int) (t : It) : Int × List F.M.Sp := F.M.spn (bt t 1) (F.M.mu u d) (F.M.md u d)
theorem bs_ok {u d : Int} {t : It} (hf : F.M.Ok (F.M.mu u d, F.M.md u d)) (h : (bs u d t).1 = 0) : So (bs u d t).2 ∧ (bs u d t).2.length = lc t ∧ lc t ≤ 4096 := by
  unfold bs at h ⊢
  by_cases c1 : (F.M.wr (bt t 1) 1 4096).1 = 0
  · by_cases c2 : F.M.mu u d ≤ 0
    · rw [F.M.spn_range _ _ _ c1 hf c2] at h; exact absurd h (by decide)
    · obtain ⟨hcn, hFi⟩ := F.M.cnt_bd _ c1
      cases hs : F.M.sh (bt t 1) (0, 1) (F.M.mu u d, F.M.md u d) [] with
      | none => rw [F.M.spn_much _ _ _ c1 hf c2 hs] at h; exact absurd h (by decide)
      | some o =>
        rw [F.M.spn_ok _ _ _ o c1 hf c2 hs]
        obtain ⟨q1, q2⟩ := sh_bt t 1 hFi (0, 1) _ [] o (by unfold F.M.Ok F.M.ok; decide) hf (fun p hp => by simp at hp) hs
        obtain ⟨q3, q4⟩ := F.M.sh_ok _ hFi (0, 1) _ [] o (by unfold F.M.Ok F.M.ok; decide) hf (fun p hp => by simp at hp) hs
        simp only [List.length_nil, Nat.zero_add] at q2 q4
        exact ⟨q1, q2, by omega⟩
  · rw [F.M.spn_wrong _ _ _ c1] at h; exact absurd h c1
/-- A singer's bar: notes, held, where the next one begins; and the error. -/
def br (vo : Int) (x : List Nt × Nat × (Int × Int)) (u d : Int) (t : It) : (List Nt × Nat × (Int × Int)) × Int :=
  if (bs u d t).1 ≠ 0 then (x, (bs u d t).1)
  else if (sg vo x.2.2 t [] ⟨x.1, x.2.1, (bs u d t).2⟩).2 ≠ 0 then (x, (sg vo x.2.2 t [] ⟨x.1, x.2.1, (bs u d t).2⟩).2)
  else match F.M.pl x.2.2 (F.M.mu u d, F.M.md u d) with
    | none => (x, 4)
    | some a => (((sg vo x.2.2 t [] ⟨x.1, x.2.1, (bs u d t).2⟩).1.ns, (sg vo x.2.2 t [] ⟨x.1, x.2.1, (bs u d t).2⟩).1.hd, a), 0)
/-- The first k bars of a voice, behind what x tells. -/
def bf (vo : Int) (x : List Nt × Nat × (Int × Int)) (up dn : Nat → Int) (t : Nat → It) : Nat → (List Nt × Nat × (Int × Int)) × Int
  | 0 => (x, 0)
  | k + 1 => if (bf vo x up dn t k).2 ≠ 0 then bf vo x up dn t k else br vo (bf vo x up dn t k).1 (up k) (dn k) (t k)
theorem bf_on {vo : Int} {x : List Nt × Nat × (Int × Int)} {up dn : Nat → Int} {t : Nat → It} {k : Nat} (h : (bf vo x up dn t k).2 = 0) : bf vo x up dn t (k + 1) = br vo (bf vo x up dn t k).1 (up k) (dn k) (t k) := by
  rw [bf, if_neg (by simp [h])]
theorem bf_stop {vo : Int} {x : List Nt × Nat × (Int × Int)} {up dn : Nat → Int} {t : Nat → It} {k : Nat} (h : (bf vo x up dn t k).2 ≠ 0) : ∀ m, k ≤ m → bf vo x up dn t m = bf vo x up dn t k := fun m hm => by
  induction m with
  | zero => obtain rfl : k = 0 := by omega
            rfl
  | succ m ih =>
    by_cases e : k = m + 1
    · rw [e]
    · have := ih (by omega)
      rw [bf, this, if_pos h]
/-- The notes of the first i voices. -/
def vf (n : Nat → Nat) (up dn : Nat → Nat → Int) (t : Nat → Nat → It) : Nat → List Nt × Int
  | 0 => ([], 0)
  | i + 1 => if (vf n up dn t i).2 ≠ 0 then vf n up dn t i else ((bf i ((vf n up dn t i).1, 0, (0, 1)) (up i) (dn i) (t i) (n i)).1.1, (bf i ((vf n up dn t i).1, 0, (0, 1)) (up i) (dn i) (t i) (n i)).2)
theorem vf_on {n : Nat → Nat} {up dn : Nat → Nat → Int} {t : Nat → Nat → It} {i : Nat} (h : (vf n up dn t i).2 = 0) : vf n up dn t (i + 1) = ((bf i ((vf n up dn t i).1, 0, (0, 1)) (up i) (dn i) (t i) (n i)).1.1, (bf i ((vf n up dn t i).1, 0, (0, 1)) (up i) (dn i) (t i) (n i)).2) := by
  rw [vf, if_neg (by simp [h])]
theorem vf_stop {n : Nat → Nat} {up dn : Nat → Nat → Int} {t : Nat → Nat → It} {i : Nat} (h : (vf n up dn t i).2 ≠ 0) : ∀ m, i ≤ m → vf n up dn t m = vf n up dn t i := fun m hm => by
  induction m with
  | zero => obtain rfl : i = 0 := by omega
            rfl
  | succ m ih =>
    by_cases e : i = m + 1
    · rw [e]
    · have := ih (by omega)
      rw [vf, this, if_pos h]
/-- All that sounds in a piece, and the error. -/
def nts (nv : Nat) (s : Nat → ByteArray) (n : Nat → Nat) (up dn : Nat → Nat → Int) (t : Nat → Nat → It) : List Nt × Int :=
  if pw nv s n up dn t ≠ 0 then ([], pw nv s n up dn t) else if (vf n up dn t nv).2 ≠ 0 then ([], (vf n up dn t nv).2) else ((vf n up dn t nv).1, 0)
/-- What holds of a singer between bars. -/
structure Bo (x : List Nt × Nat × (Int × Int)) (N : Nat) : Prop where
  hd : x.2.1 ≤ x.1.length
  ok : ∀ y ∈ x.1, F.M.Ok y.lg
  av : F.M.Ok x.2.2
  len : x.1.length ≤ N
theorem br_ok {vo : Int} {x : List Nt × Nat × (Int × Int)} {u d : Int} {t : It} {N : Nat} {lev m : Int} (hx : Bo x N) (hf : F.M.Ok (F.M.mu u d, F.M.md u d)) (m1 : 0 ≤ m) (m2 : m ≤ 4095) (hri : (ri t lev m).1 = true) (h : (br vo x u d t).2 = 0) : Bo (br vo x u d t).1 (N + 65536) := by
  unfold br at h ⊢
  by_cases c1 : (bs u d t).1 ≠ 0
  · rw [if_pos c1] at h; exact absurd h c1
  · rw [if_neg c1] at h ⊢
    obtain ⟨q1, q2, q3⟩ := bs_ok hf (by simpa using c1)
    have hz : Zo ⟨x.1, x.2.1, (bs u d t).2⟩ (N + 65536) := ⟨hx.hd, hx.ok, q1, by simp only [q2]; have := hx.len; omega⟩
    by_cases c2 : (sg vo x.2.2 t [] ⟨x.1, x.2.1, (bs u d t).2⟩).2 ≠ 0
    · rw [if_pos c2] at h; exact absurd h c2
    · rw [if_neg c2] at h ⊢
      obtain ⟨z1, z2⟩ := sg_ok vo x.2.2 t [] _ _ lev m m1 m2 hri hz (by simp only [q2]; omega) (by simpa using c2)
      cases hp : F.M.pl x.2.2 (F.M.mu u d, F.M.md u d) with
      | none => rw [hp] at h; simp at h
      | some a =>
        have zl := z1.len
        exact ⟨z1.hd, z1.ok, F.M.tell_ok hp (F.M.mul_pos' _ _ hx.av.low.1.1 hf.low.1.1), by show List.length _ ≤ _; simp only; omega⟩
end Go.Proofs.YtaohahahhjkcdaeGreatDoor.G.M

/- Pitches moved by one more move behind all others. -/
namespace Go.Proofs.YtaohahahhjkcdaeGreatDoor.G.M
set_option linter.unusedVariables false
set_option linter.unusedSimpArgs false

/-- One more move, where those ahead of it went well. -/
def mv2 (s h : Int) (r : (Int × Int × Int) × Int) : (Int × Int × Int) × Int :=
  if r.2 ≠ 0 then r else if (mv1 r.1 s h).2 ≠ 0 then ((0, 0, 0), (mv1 r.1 s h).2) else ((mv1 r.1 s h).1, 0)
theorem mvd_front (ms mh ms' mh' : Nat → Int) (s h : Int) (e0 : ms' 0 = s) (e1 : mh' 0 = h) (e2 : ∀ j, ms' (j + 1) = ms j) (e3 : ∀ j, mh' (j + 1) = mh j) : ∀ (k : Nat) (p : Int × Int × Int), mvd ms' mh' (k + 1) p = mv2 s h (mvd ms mh k p)
  | 0, p => by
    rw [mvd, mvd, mvd, e0, e1]
    unfold mv2
    exact (if_neg (by simp : ¬ ((p, (0 : Int)).2 ≠ 0))).symm
  | k + 1, p => by
    rw [mvd, e2 k, e3 k]
    by_cases hb : (mv1 p (ms k) (mh k)).2 ≠ 0
    · rw [if_pos hb, mvd_stop hb]
      unfold mv2
      rw [if_pos hb]
    · rw [if_neg hb, mvd_front ms mh ms' mh' s h e0 e1 e2 e3 k, mvd_on (by simpa using hb)]
theorem mvp_cons (i : Int × Int) (mv : List (Int × Int)) (p : Int × Int × Int) : mvp (i :: mv) p = mv2 i.1 i.2 (mvp mv p) := by
  unfold mvp
  exact mvd_front (fun j => (mv[j]?.getD (0, 0)).1) (fun j => (mv[j]?.getD (0, 0)).2) _ _ i.1 i.2 (by simp) (by simp) (fun j => by simp) (fun j => by simp) mv.length p
/-- A chord that went well: its notes. -/
theorem cdl_all {R : Nat → (Int × Int × Int) × Int} {f : Int × Int × Int → Nt} : ∀ {k : Nat}, (cdl R f k).2 = 0 → (∀ j, j < k → (R j).2 = 0) ∧ (cdl R f k).1 = (List.range k).map fun j => f (R j).1
  | 0, _ => ⟨fun j h => by omega, rfl⟩
  | k + 1, h => by
    rw [cdl] at h
    by_cases h1 : (cdl R f k).2 ≠ 0
    · rw [if_pos h1] at h; exact absurd h h1
    · by_cases h2 : (R k).2 ≠ 0
      · rw [if_neg h1, if_pos h2] at h; exact absurd h h2
      · obtain ⟨a, b⟩ := cdl_all (R := R) (f := f) (k := k) (by simpa using h1)
        refine ⟨fun j hj => ?_, ?_⟩
        · by_cases e : j = k
          · subst e; simpa using h2
          · exact a j (by omega)
        · rw [cdl_on (by simpa using h1) (by simpa using h2), List.range_succ, List.map_append, b]; rfl
theorem cdl_of {R : Nat → (Int × Int × Int) × Int} {f : Int × Int × Int → Nt} : ∀ {k : Nat}, (∀ j, j < k → (R j).2 = 0) → cdl R f k = ((List.range k).map fun j => f (R j).1, 0)
  | 0, _ => rfl
  | k + 1, h => by
    have ih := cdl_of (R := R) (f := f) (k := k) (fun j hj => h j (by omega))
    rw [cdl_on (by rw [ih]) (h k (by omega)), ih, List.range_succ, List.map_append]; rfl
theorem mv2_of {s h : Int} {r : (Int × Int × Int) × Int} (hr : r.2 = 0) : mv2 s h r = if (mv1 r.1 s h).2 ≠ 0 then ((0, 0, 0), (mv1 r.1 s h).2) else ((mv1 r.1 s h).1, 0) := by
  unfold mv2; rw [if_neg (by simp [hr])]
/-- The same chord, moved: where all of its pitches can be moved; where one can't. -/
theorem cdl_mv {R : Nat → (Int × Int × Int) × Int} {f : Int × Int × Int → Nt} {s h : Int} {k : Nat} (hok : (cdl R f k).2 = 0) :
    ((∀ j, j < k → (mv1 (R j).1 s h).2 = 0) → cdl (fun j => mv2 s h (R j)) f k = ((List.range k).map fun j => f (mv1 (R j).1 s h).1, 0)) ∧ ((∃ j, j < k ∧ (mv1 (R j).1 s h).2 ≠ 0) → (cdl (fun j => mv2 s h (R j)) f k).2 ≠ 0) := by
  obtain ⟨ha, _⟩ := cdl_all hok
  refine ⟨fun hm => ?_, fun ⟨j, hj, hb⟩ hz => ?_⟩
  · have e : ∀ j, j < k → mv2 s h (R j) = ((mv1 (R j).1 s h).1, 0) := fun j hj => by rw [mv2_of (ha j hj), if_neg (by simp [hm j hj])]
    rw [cdl_of (fun j hj => by rw [e j hj])]
    congr 1
    apply List.map_congr_left
    intro j hj
    rw [e j (List.mem_range.1 hj)]
  · have := (cdl_all hz).1 j hj
    rw [mv2_of (ha j hj), if_pos hb] at this
    exact hb this
end Go.Proofs.YtaohahahhjkcdaeGreatDoor.G.M

/- A singer that moves all by one interval more follows the one that does not, as long as all notes can be moved. -/
namespace Go.Proofs.YtaohahahhjkcdaeGreatDoor.G.M
set_option linter.unusedVariables false
set_option linter.unusedSimpArgs false

/-- A note, moved. -/
def nmv (s h : Int) (x : Nt) : Nt := ⟨x.vo, x.st, x.lg, (mv1 (x.pl, x.pa, x.po) s h).1.1, (mv1 (x.pl, x.pa, x.po) s h).1.2.1, (mv1 (x.pl, x.pa, x.po) s h).1.2.2, x.ly⟩
/-- All of them can be moved. -/
def Mv (s h : Int) (l : List Nt) : Prop := ∀ x ∈ l, (mv1 (x.pl, x.pa, x.po) s h).2 = 0
/-- The state with its notes moved. -/
def zm (s h : Int) (z : Zs) : Zs := ⟨z.ns.map (nmv s h), z.hd, z.tm⟩
theorem tl_map (s h : Int) (lg : Int × Int) : ∀ l : List Nt, tl lg (l.map (nmv s h)) = (tl lg l).map (List.map (nmv s h))
  | [] => rfl
  | x :: l => by
    rw [List.map_cons]
    have e : (nmv s h x).lg = x.lg := rfl
    cases hp : F.M.pl x.lg lg with
    | none => rw [tl_none (by rw [e]; exact hp), tl_none hp]; rfl
    | some f =>
      rw [tl_some (x := nmv s h x) (by rw [e]; exact hp), tl_some hp, tl_map s h lg l]
      cases tl lg l <;> rfl
theorem tl_mv {s h : Int} {lg : Int × Int} : ∀ {l l' : List Nt}, tl lg l = some l' → (Mv s h l' ↔ Mv s h l)
  | [], l', hl => by simp only [tl, Option.some.injEq] at hl; subst hl; exact Iff.rfl
  | x :: l, l', hl => by
    cases hp : F.M.pl x.lg lg with
    | none => rw [tl_none hp] at hl; simp at hl
    | some f =>
      rw [tl_some hp] at hl
      cases ht : tl lg l with
      | none => rw [ht] at hl; simp at hl
      | some m =>
        rw [ht] at hl
        simp only [Option.map_some, Option.some.injEq] at hl
        subst hl
        have ih := tl_mv (s := s) (h := h) ht
        unfold Mv at *
        simp only [List.mem_cons, forall_eq_or_imp]
        rw [ih]
theorem Mv.app {s h : Int} {l m : List Nt} : Mv s h (l ++ m) ↔ Mv s h l ∧ Mv s h m := by
  unfold Mv
  simp only [List.mem_append, or_imp, forall_and]
/-- f' follows f. -/
def Fol (s h : Int) (f f' : Zs → Zs × Int) : Prop := ∀ z, (f z).2 = 0 → (Mv s h (f z).1.ns → Mv s h z.ns ∧ f' (zm s h z) = (zm s h (f z).1, 0)) ∧ (Mv s h z.ns → ¬ Mv s h (f z).1.ns → (f' (zm s h z)).2 ≠ 0)
theorem sk_fol {s h : Int} {f f' : Nat → Zs → Zs × Int} (hf : ∀ j, Fol s h (f j) (f' j)) : ∀ c i, Fol s h (sk f c i) (sk f' c i)
  | 0, i => fun z _ => ⟨fun hm => ⟨hm, rfl⟩, fun hm hn => absurd hm hn⟩
  | c + 1, i => fun z hz => by
    rw [sk] at hz ⊢
    rw [sk]
    by_cases h1 : (f i z).2 ≠ 0
    · rw [if_pos h1] at hz; exact absurd hz h1
    · rw [if_neg h1] at hz ⊢
      have h0 : (f i z).2 = 0 := by simpa using h1
      obtain ⟨a, b⟩ := hf i z h0
      obtain ⟨a2, b2⟩ := sk_fol hf c (i + 1) (f i z).1 hz
      refine ⟨fun hm => ?_, fun hm hn => ?_⟩
      · obtain ⟨m1, e1⟩ := a2 hm
        obtain ⟨m0, e0⟩ := a m1
        refine ⟨m0, ?_⟩
        rw [e0, if_neg (by simp), e1]
      · by_cases hm1 : Mv s h (f i z).1.ns
        · obtain ⟨m0, e0⟩ := a hm1
          rw [e0, if_neg (by simp)]
          exact b2 hm1 hn
        · have := b hm hm1
          rw [if_pos this]
          exact this
theorem lf_fol (vo : Int) (av : Int × Int) (i : Int × Int) (mv : List (Int × Int)) (t : It) : Fol i.1 i.2 (lf vo av mv t) (lf vo av (i :: mv) t) := fun z hz => by
  unfold lf at hz ⊢
  cases htm : z.tm with
  | nil => rw [htm] at hz; exact absurd hz (by simp)
  | cons sp tm =>
    rw [htm] at hz
    have hzm : (zm i.1 i.2 z).tm = sp :: tm := htm
    rw [hzm]
    cases hp : F.M.pl av sp.1 with
    | none => simp only [hp] at hz; exact absurd hz (by simp)
    | some st =>
      simp only [hp] at hz ⊢
      by_cases k1 : t.k = 1
      · rw [if_pos k1] at hz ⊢
        rw [if_pos k1]
        dsimp only at hz ⊢
        unfold cdn at hz ⊢
        have hR : (fun j => mvp (i :: mv) (t.pl j, t.pa j, t.po j)) = fun j => mv2 i.1 i.2 (mvp mv (t.pl j, t.pa j, t.po j)) := funext fun j => mvp_cons i mv _
        rw [hR]
        obtain ⟨ha, hb⟩ := cdl_all hz
        obtain ⟨c1, c2⟩ := cdl_mv (s := i.1) (h := i.2) hz
        rw [hb]
        have hall : Mv i.1 i.2 ((List.range t.np).map fun j => (⟨vo, st, sp.2.1, (mvp mv (t.pl j, t.pa j, t.po j)).1.1, (mvp mv (t.pl j, t.pa j, t.po j)).1.2.1, (mvp mv (t.pl j, t.pa j, t.po j)).1.2.2, t.ly⟩ : Nt)) ↔ ∀ j, j < t.np → (mv1 (mvp mv (t.pl j, t.pa j, t.po j)).1 i.1 i.2).2 = 0 := by
          unfold Mv
          simp only [List.mem_map, List.mem_range, forall_exists_index, and_imp, forall_apply_eq_imp_iff₂]
        refine ⟨fun hm => ?_, fun hm hn => ?_⟩
        · obtain ⟨m1, m2⟩ := Mv.app.1 hm
          refine ⟨m1, ?_⟩
          rw [c1 (hall.1 m2)]
          simp [zm, nmv, Function.comp_def]
        · refine c2 ?_
          by_cases hq : ∃ j, j < t.np ∧ (mv1 (mvp mv (t.pl j, t.pa j, t.po j)).1 i.1 i.2).2 ≠ 0
          · exact hq
          · exact absurd (Mv.app.2 ⟨hm, hall.2 fun j hj => by
              by_cases e : (mv1 (mvp mv (t.pl j, t.pa j, t.po j)).1 i.1 i.2).2 = 0
              · exact e
              · exact absurd ⟨j, hj, e⟩ hq⟩) hn
      · rw [if_neg k1] at hz ⊢
        rw [if_neg k1]
        by_cases k3 : t.k = 3
        · rw [if_pos k3] at hz ⊢
          rw [if_pos k3]
          have hd : tl sp.2.1 ((zm i.1 i.2 z).ns.drop ((zm i.1 i.2 z).ns.length - (zm i.1 i.2 z).hd)) = (tl sp.2.1 (z.ns.drop (z.ns.length - z.hd))).map (List.map (nmv i.1 i.2)) := by
            rw [← tl_map]; simp [zm, List.map_drop]
          rw [hd]
          cases ht : tl sp.2.1 (z.ns.drop (z.ns.length - z.hd)) with
          | none => simp only [ht] at hz; exact absurd hz (by simp)
          | some l =>
            dsimp only [Option.map_some]
            have hq := tl_mv (s := i.1) (h := i.2) ht
            have hsp : Mv i.1 i.2 z.ns ↔ Mv i.1 i.2 (z.ns.take (z.ns.length - z.hd)) ∧ Mv i.1 i.2 (z.ns.drop (z.ns.length - z.hd)) := by rw [← Mv.app, List.take_append_drop]
            refine ⟨fun hm => ?_, fun hm hn => ?_⟩
            · obtain ⟨m1, m2⟩ := Mv.app.1 hm
              refine ⟨hsp.2 ⟨m1, hq.1 m2⟩, ?_⟩
              simp [zm, List.map_take]
            · exact absurd (Mv.app.2 ⟨(hsp.1 hm).1, hq.2 (hsp.1 hm).2⟩) hn
        · rw [if_neg k3] at hz ⊢
          rw [if_neg k3]
          exact ⟨fun hm => ⟨hm, rfl⟩, fun hm hn => absurd hm hn⟩
end Go.Proofs.YtaohahahhjkcdaeGreatDoor.G.M

/- The same for all items of a bar; a bar whose items are put into one that moves them. -/
namespace Go.Proofs.YtaohahahhjkcdaeGreatDoor.G.M
set_option linter.unusedVariables false
set_option linter.unusedSimpArgs false

theorem sg_fol (vo : Int) (av : Int × Int) (i : Int × Int) (t : It) : ∀ mv : List (Int × Int), Fol i.1 i.2 (sg vo av t mv) (sg vo av t (i :: mv)) := by
  induction t using It.ind with
  | nil => intro mv z hz; exact absurd hz (by rw [sg]; simp)
  | mk k s np pl pa po b1 b2 ly n kid ih =>
    intro mv
    have e1 : sg vo av (.mk k s np pl pa po b1 b2 ly n kid) mv = sk (fun j z => s1 vo av mv (kid j) z) n 0 := funext fun z => sg_mk vo av k s np pl pa po b1 b2 ly n kid mv z
    have e2 : sg vo av (.mk k s np pl pa po b1 b2 ly n kid) (i :: mv) = sk (fun j z => s1 vo av (i :: mv) (kid j) z) n 0 := funext fun z => sg_mk vo av k s np pl pa po b1 b2 ly n kid (i :: mv) z
    rw [e1, e2]
    refine sk_fol (fun j => ?_) n 0
    show Fol i.1 i.2 (fun z => s1 vo av mv (kid j) z) (fun z => s1 vo av (i :: mv) (kid j) z)
    unfold s1
    by_cases k4 : (kid j).k = 4
    · simp only [if_pos k4]; exact ih j mv
    · simp only [if_neg k4]
      by_cases k5 : (kid j).k = 5
      · simp only [if_pos k5]; exact ih j (mv ++ [((kid j).b1, (kid j).b2)])
      · simp only [if_neg k5]; exact lf_fol vo av i mv (kid j)
/-- A bar's items, put into one that moves them. -/
def wrp (i : Int × Int) (n : Nat) (kid : Nat → It) : It := .mk 0 0 0 (fun _ => 0) (fun _ => 0) (fun _ => 0) 0 0 ⟨#[]⟩ 1 (fun _ => .mk 5 1 0 (fun _ => 0) (fun _ => 0) (fun _ => 0) i.1 i.2 ⟨#[]⟩ n kid)
theorem sg_wrp (vo : Int) (av i : Int × Int) (k s : Int) (np : Nat) (pl pa po : Nat → Int) (b1 b2 : Int) (ly : ByteArray) (n : Nat) (kid : Nat → It) (z : Zs) : sg vo av (wrp i n kid) [] z = sg vo av (.mk k s np pl pa po b1 b2 ly n kid) [i] z := by
  unfold wrp
  rw [sg_mk, sk, sk]
  have e : s1 vo av [] (.mk 5 1 0 (fun _ => 0) (fun _ => 0) (fun _ => 0) i.1 i.2 ⟨#[]⟩ n kid) z = sg vo av (.mk k s np pl pa po b1 b2 ly n kid) [i] z := by
    unfold s1
    rw [if_neg (by simp), if_pos rfl, sg_mk, sg_mk]
    rfl
  rw [e]
  split
  · rfl
  · rename_i h
    have : (sg vo av (.mk k s np pl pa po b1 b2 ly n kid) [i] z).2 = 0 := by simpa using h
    exact Prod.ext rfl this.symm
end Go.Proofs.YtaohahahhjkcdaeGreatDoor.G.M

/- The spans of a bar whose items are put into one that moves them are the same. -/
namespace Go.Proofs.YtaohahahhjkcdaeGreatDoor.G.M
set_option linter.unusedVariables false
set_option linter.unusedSimpArgs false

theorem bt_wrp (i : Int × Int) (n : Nat) (kid : Nat → It) (k s : Int) (np : Nat) (pl pa po : Nat → Int) (b1 b2 : Int) (ly : ByteArray) :
    ∃ kb', bt (wrp i n kid) 1 = F.M.Bt.mk 4 1 1 kb' ∧ kb' 0 = bt (.mk k s np pl pa po b1 b2 ly n kid) 1 := by
  refine ⟨_, bt_mk _ _ _ _ _ _ _ _ _ _ _ _, ?_⟩
  unfold kb
  rw [if_pos (.inr rfl)]
  rw [bt_mk, bt_mk]
theorem sh_wrp (i : Int × Int) (n : Nat) (kid : Nat → It) (k s : Int) (np : Nat) (pl pa po : Nat → Int) (b1 b2 : Int) (ly : ByteArray) (L : F.M.Fr) (hT : F.M.tell L.1 L.2 = some L) :
    F.M.sh (bt (wrp i n kid) 1) (0, 1) L [] = F.M.sh (bt (.mk k s np pl pa po b1 b2 ly n kid) 1) (0, 1) L [] := by
  obtain ⟨kb', e1, e2⟩ := bt_wrp i n kid k s np pl pa po b1 b2 ly
  have es : (bt (.mk k s np pl pa po b1 b2 ly n kid) 1).s = 1 := by rw [bt_mk]
  rw [e1]
  have h1 : F.M.pr L 1 1 = some L := by unfold F.M.pr; rw [Int.mul_one, Int.mul_one]; exact hT
  have h2 : F.M.pl (0, 1) L = some L := by unfold F.M.pl; simp only [Int.zero_mul, Int.zero_add, Int.mul_one, Int.one_mul]; exact hT
  rw [F.M.sh, if_pos rfl]
  have hs : F.M.sums kb' 1 = 1 := by rw [F.M.sums, F.M.sums, e2, es]; rfl
  show (F.M.skids (fun j a l o => F.M.sh (kb' j) a l o) (fun j => (kb' j).s) (F.M.sums kb' 1) L 1 0 (0, 1) []).map (·.2) = _
  rw [hs]
  simp only [F.M.skids, e2, es, h1, Option.bind_some]
  cases F.M.sh (bt (.mk k s np pl pa po b1 b2 ly n kid) 1) (0, 1) L [] with
  | none => rfl
  | some o => simp only [Option.bind_some, h2]; rfl
end Go.Proofs.YtaohahahhjkcdaeGreatDoor.G.M

/- Bars and voices whose items are put into one that moves them, bar by bar. -/
namespace Go.Proofs.YtaohahahhjkcdaeGreatDoor.G.M
set_option linter.unusedVariables false
set_option linter.unusedSimpArgs false

/-- The state between bars with its notes moved. -/
def xm (s h : Int) (x : List Nt × Nat × (Int × Int)) : List Nt × Nat × (Int × Int) := (x.1.map (nmv s h), x.2.1, x.2.2)
/-- g' follows g, between bars. -/
def FolX (s h : Int) (g g' : (List Nt × Nat × (Int × Int)) → (List Nt × Nat × (Int × Int)) × Int) : Prop := ∀ x, (g x).2 = 0 → (Mv s h (g x).1.1 → Mv s h x.1 ∧ g' (xm s h x) = (xm s h (g x).1, 0)) ∧ (Mv s h x.1 → ¬ Mv s h (g x).1.1 → (g' (xm s h x)).2 ≠ 0)
theorem br_fol (vo : Int) (i : Int × Int) (u d : Int) (k s : Int) (np : Nat) (pl pa po : Nat → Int) (b1 b2 : Int) (ly : ByteArray) (n : Nat) (kid : Nat → It) (hbs : bs u d (wrp i n kid) = bs u d (.mk k s np pl pa po b1 b2 ly n kid)) :
    FolX i.1 i.2 (fun x => br vo x u d (.mk k s np pl pa po b1 b2 ly n kid)) (fun x => br vo x u d (wrp i n kid)) := fun x hx => by
  dsimp only at hx ⊢
  unfold br at hx ⊢
  rw [hbs]
  by_cases c1 : (bs u d (.mk k s np pl pa po b1 b2 ly n kid)).1 ≠ 0
  · rw [if_pos c1] at hx; exact absurd hx c1
  · rw [if_neg c1] at hx ⊢
    rw [if_neg c1]
    generalize (bs u d (.mk k s np pl pa po b1 b2 ly n kid)).2 = tm at hx ⊢
    have hsg : ∀ z, sg vo x.2.2 (wrp i n kid) [] z = sg vo x.2.2 (.mk k s np pl pa po b1 b2 ly n kid) [i] z := fun z => sg_wrp vo x.2.2 i k s np pl pa po b1 b2 ly n kid z
    have hf := sg_fol vo x.2.2 i (.mk k s np pl pa po b1 b2 ly n kid) [] ⟨x.1, x.2.1, tm⟩
    have ezm : zm i.1 i.2 ⟨x.1, x.2.1, tm⟩ = ⟨(xm i.1 i.2 x).1, (xm i.1 i.2 x).2.1, tm⟩ := rfl
    have e22 : (xm i.1 i.2 x).2.2 = x.2.2 := rfl
    rw [ezm] at hf
    rw [e22, hsg]
    generalize sg vo x.2.2 (.mk k s np pl pa po b1 b2 ly n kid) [] ⟨x.1, x.2.1, tm⟩ = R at hf hx ⊢
    generalize sg vo x.2.2 (.mk k s np pl pa po b1 b2 ly n kid) [i] ⟨(xm i.1 i.2 x).1, (xm i.1 i.2 x).2.1, tm⟩ = R' at hf ⊢
    by_cases c2 : R.2 ≠ 0
    · rw [if_pos c2] at hx; exact absurd hx c2
    · rw [if_neg c2] at hx ⊢
      obtain ⟨a, b⟩ := hf (by simpa using c2)
      cases hp : F.M.pl x.2.2 (F.M.mu u d, F.M.md u d) with
      | none => simp only [hp] at hx; exact absurd hx (by simp)
      | some e =>
        dsimp only
        refine ⟨fun hm => ?_, fun hm hn => ?_⟩
        · obtain ⟨m0, e0⟩ := a hm
          refine ⟨m0, ?_⟩
          rw [e0, if_neg (by simp)]
          rfl
        · have := b hm hn
          rw [if_pos this]
          exact this
end Go.Proofs.YtaohahahhjkcdaeGreatDoor.G.M

/- Voices and pieces whose bars' items are put into one that moves them. -/
namespace Go.Proofs.YtaohahahhjkcdaeGreatDoor.G.M
set_option linter.unusedVariables false
set_option linter.unusedSimpArgs false

theorem bf_fol {vo : Int} {s h : Int} {up dn : Nat → Int} {t t' : Nat → It} : ∀ {k : Nat}, (∀ j, j < k → FolX s h (fun x => br vo x (up j) (dn j) (t j)) (fun x => br vo x (up j) (dn j) (t' j))) → FolX s h (fun x => bf vo x up dn t k) (fun x => bf vo x up dn t' k)
  | 0, _ => fun x _ => ⟨fun hm => ⟨hm, rfl⟩, fun hm hn => absurd hm hn⟩
  | k + 1, hf => fun x hx => by
    dsimp only at hx ⊢
    have ih := bf_fol (vo := vo) (s := s) (h := h) (up := up) (dn := dn) (t := t) (t' := t') (k := k) (fun j hj => hf j (by omega)) x
    dsimp only at ih
    have h0 : (bf vo x up dn t k).2 = 0 := by
      by_cases c : (bf vo x up dn t k).2 = 0
      · exact c
      · rw [bf_stop c (k + 1) (by omega)] at hx; exact absurd hx c
    rw [bf_on h0] at hx ⊢
    obtain ⟨a, b⟩ := ih h0
    obtain ⟨a2, b2⟩ := hf k (by omega) (bf vo x up dn t k).1 hx
    dsimp only at a2 b2
    refine ⟨fun hm => ?_, fun hm hn => ?_⟩
    · obtain ⟨m1, e1⟩ := a2 hm
      obtain ⟨m0, e0⟩ := a m1
      exact ⟨m0, by rw [bf_on (by rw [e0]), e0]; exact e1⟩
    · by_cases hm1 : Mv s h (bf vo x up dn t k).1.1
      · obtain ⟨m0, e0⟩ := a hm1
        rw [bf_on (by rw [e0]), e0]
        exact b2 hm1 hn
      · have := b hm hm1
        rw [bf_stop this (k + 1) (by omega)]
        exact this
theorem vf_fol {s h : Int} {n : Nat → Nat} {up dn : Nat → Nat → Int} {t t' : Nat → Nat → It} : ∀ {v : Nat}, (∀ i, i < v → ∀ j, j < n i → FolX s h (fun x => br i x (up i j) (dn i j) (t i j)) (fun x => br i x (up i j) (dn i j) (t' i j))) → (vf n up dn t v).2 = 0 → (Mv s h (vf n up dn t v).1 → vf n up dn t' v = ((vf n up dn t v).1.map (nmv s h), 0)) ∧ (¬ Mv s h (vf n up dn t v).1 → (vf n up dn t' v).2 ≠ 0)
  | 0, _, _ => ⟨fun _ => rfl, fun hn => absurd (fun x hx => by cases hx) hn⟩
  | v + 1, hf, hz => by
    have h0 : (vf n up dn t v).2 = 0 := by
      by_cases c : (vf n up dn t v).2 = 0
      · exact c
      · rw [vf_stop c (v + 1) (by omega)] at hz; exact absurd hz c
    rw [vf_on h0] at hz ⊢
    obtain ⟨a, b⟩ := vf_fol (s := s) (h := h) (n := n) (up := up) (dn := dn) (t := t) (t' := t') (v := v) (fun i hi => hf i (by omega)) h0
    obtain ⟨a2, b2⟩ := bf_fol (hf v (by omega)) ((vf n up dn t v).1, 0, (0, 1)) hz
    dsimp only at a2 b2 ⊢
    have ex : xm s h ((vf n up dn t v).1, 0, (0, 1)) = ((vf n up dn t v).1.map (nmv s h), 0, (0, 1)) := rfl
    rw [ex] at a2 b2
    refine ⟨fun hm => ?_, fun hn => ?_⟩
    · obtain ⟨m1, e1⟩ := a2 hm
      have e0 := a m1
      rw [vf_on (by rw [e0]), e0]
      dsimp only
      rw [e1]
      rfl
    · by_cases hm1 : Mv s h (vf n up dn t v).1
      · have e0 := a hm1
        rw [vf_on (by rw [e0]), e0]
        exact b2 hm1 hn
      · have := b hm1
        rw [vf_stop this (v + 1) (by omega)]
        exact this
/-- A piece that sounds, and the same with each bar's items put into one that moves them: where all notes can be moved; where one can't. -/
theorem nts_mv {s h : Int} {nv : Nat} {sn : Nat → ByteArray} {n : Nat → Nat} {up dn : Nat → Nat → Int} {t t' : Nat → Nat → It} (hf : ∀ i, i < nv → ∀ j, j < n i → FolX s h (fun x => br i x (up i j) (dn i j) (t i j)) (fun x => br i x (up i j) (dn i j) (t' i j))) (h0 : (nts nv sn n up dn t).2 = 0) (hw : pw nv sn n up dn t' = 0) :
    (Mv s h (nts nv sn n up dn t).1 → nts nv sn n up dn t' = ((nts nv sn n up dn t).1.map (nmv s h), 0)) ∧ (¬ Mv s h (nts nv sn n up dn t).1 → (nts nv sn n up dn t').2 ≠ 0) := by
  unfold nts at h0 ⊢
  by_cases c1 : pw nv sn n up dn t ≠ 0
  · rw [if_pos c1] at h0; exact absurd h0 c1
  · rw [if_neg c1] at h0 ⊢
    rw [if_neg (show ¬ pw nv sn n up dn t' ≠ 0 by simp [hw])]
    by_cases c2 : (vf n up dn t nv).2 ≠ 0
    · rw [if_pos c2] at h0; exact absurd h0 c2
    · rw [if_neg c2]
      obtain ⟨a, b⟩ := vf_fol hf (by simpa using c2)
      refine ⟨fun hm => ?_, fun hn => ?_⟩
      · have e := a hm
        rw [e, if_neg (by simp)]
      · have e := b hn
        rw [if_pos e]
        exact e
end Go.Proofs.YtaohahahhjkcdaeGreatDoor.G.M

/- What is right as items is right as a beat. -/
namespace Go.Proofs.YtaohahahhjkcdaeGreatDoor.G.M
set_option linter.unusedVariables false
set_option linter.unusedSimpArgs false

theorem ra_share {t : It} (h : raI t = true) : 1 ≤ t.s ∧ t.s ≤ 65536 := by
  unfold raI ra at h
  by_cases c : t.s < 1 ∨ 65536 < t.s
  · rw [if_pos c] at h; cases h
  · omega
theorem rk_wkids {kid : Nat → It} {lev : Int} {W : Nat → Int → Int × Int} (hW : ∀ j m, 0 ≤ m → m ≤ 4095 → (r1 kid lev j m).1 = true → W j (4095 - m) = (0, 4095 - (r1 kid lev j m).2)) : ∀ (c i : Nat) (m : Int), 0 ≤ m → m ≤ 4095 → (rk (r1 kid lev) c i m).1 = true → F.M.wkids W c i (4095 - m) = (0, 4095 - (rk (r1 kid lev) c i m).2)
  | 0, i, m, _, _, _ => by rw [F.M.wkids, rk]
  | c + 1, i, m, h0, h1, h => by
    rw [rk] at h ⊢
    by_cases hb : (r1 kid lev i m).1 = false
    · rw [if_pos hb, hb] at h; cases h
    · rw [if_neg hb] at h ⊢
      have ht : (r1 kid lev i m).1 = true := by simpa using hb
      have u1 := r1_up kid lev i m h1
      have u2 := r1_top kid lev i m h1 ht
      rw [F.M.wkids, hW i m h0 h1 ht, if_neg (by simp)]
      exact rk_wkids hW c (i + 1) _ (by omega) u2 h
theorem wr_ri (t : It) : ∀ (lev m s : Int), 0 ≤ m → m ≤ 4095 → 1 ≤ s → s ≤ 65536 → (ri t lev m).1 = true → F.M.wr (bt t s) lev (4096 - m) = (0, 4095 - (ri t lev m).2) := by
  induction t using It.ind with
  | nil => intro lev m s _ _ _ _ h; rw [ri] at h; cases h
  | mk k s' np pl pa po b1 b2 ly n kid ih =>
    intro lev m s h0 h1 s1 s2 h
    by_cases hc : n = 0 ∨ 31 < lev
    · rw [ri_none _ _ _ _ _ _ _ _ _ _ _ _ _ hc] at h; cases h
    · rw [ri_some _ _ _ _ _ _ _ _ _ _ _ _ _ hc] at h ⊢
      rw [bt_mk, F.M.wr, if_neg (by omega), F.M.al_ok 4 s n (by omega) (by omega) (by omega), if_neg (by simp), show 4096 - m - 1 = 4095 - m by omega]
      refine rk_wkids (fun j m h0 h1 hr => ?_) n 0 m h0 h1 h
      by_cases hbad : 4095 < m + 1 ∨ raI (kid j) = false
      · rw [r1_bad hbad] at hr; cases hr
      · have hra : raI (kid j) = true := by
          cases q : raI (kid j)
          · exact absurd (.inr q) hbad
          · rfl
        have hsh := ra_share hra
        unfold kb
        by_cases hk : (kid j).k = 4 ∨ (kid j).k = 5
        · rw [if_pos hk]
          rw [r1_kids hbad hk] at hr ⊢
          have := ih j (lev + 1) (m + 1) (kid j).s (by omega) (by omega) hsh.1 hsh.2 hr
          rw [show 4096 - (m + 1) = 4095 - m by omega] at this
          exact this
        · rw [if_neg hk, r1_leaf hbad hk, F.M.wr, if_neg (by omega), F.M.al_ok 1 (kid j).s 0 (by omega) (by omega) (by omega), if_neg (by simp), F.M.wkids]
          exact Prod.ext rfl (by show 4095 - m - 1 = 4095 - (m + 1); omega)
/-- The spans are the same. -/
theorem bs_wrp {i : Int × Int} {n : Nat} {kid : Nat → It} {k s : Int} {np : Nat} {pl pa po : Nat → Int} {b1 b2 : Int} {ly : ByteArray} {u d : Int} (h1 : (ri (.mk k s np pl pa po b1 b2 ly n kid) 1 0).1 = true) (h2 : (ri (wrp i n kid) 1 0).1 = true) (hT : F.M.tell (F.M.mu u d) (F.M.md u d) = some (F.M.mu u d, F.M.md u d)) :
    bs u d (wrp i n kid) = bs u d (.mk k s np pl pa po b1 b2 ly n kid) := by
  have w1 := wr_ri _ 1 0 1 (by omega) (by omega) (by omega) (by omega) h1
  have w2 := wr_ri _ 1 0 1 (by omega) (by omega) (by omega) (by omega) h2
  rw [Int.sub_zero] at w1 w2
  have v1 : (F.M.wr (bt (.mk k s np pl pa po b1 b2 ly n kid) 1) 1 4096).1 = 0 := by rw [w1]
  have v2 : (F.M.wr (bt (wrp i n kid) 1) 1 4096).1 = 0 := by rw [w2]
  have e := sh_wrp i n kid k s np pl pa po b1 b2 ly (F.M.mu u d, F.M.md u d) hT
  unfold bs F.M.spn
  rw [if_neg (show ¬ (F.M.wr (bt (wrp i n kid) 1) 1 4096).1 ≠ 0 by simp [v2]), if_neg (show ¬ (F.M.wr (bt (.mk k s np pl pa po b1 b2 ly n kid) 1) 1 4096).1 ≠ 0 by simp [v1]), e]
end Go.Proofs.YtaohahahhjkcdaeGreatDoor.G.M

/- The foot of a bar is told as it is; a bar moved, whole. -/
namespace Go.Proofs.YtaohahahhjkcdaeGreatDoor.G.M
set_option linter.unusedVariables false
set_option linter.unusedSimpArgs false

theorem foot_tell {u d : Int} (h1 : 1 ≤ u) (h2 : u ≤ 65536) (h3 : 1 ≤ d) (h4 : d ≤ 65536) : F.M.tell (F.M.mu u d) (F.M.md u d) = some (F.M.mu u d, F.M.md u d) := by
  have a1 := F.M.lu_abs u d
  have e2 := F.M.ld_mul u d
  have g1 := F.M.gi_pos u d (by omega)
  have p1 := F.M.ld_pos u d (by omega)
  have d1 : F.M.ld u d ≤ d := by
    have : F.M.ld u d * 1 ≤ F.M.ld u d * F.M.gi u d := Int.mul_le_mul_of_nonneg_left (by omega) (by omega)
    rw [Int.mul_one] at this
    first | omega | (rw [e2] at this; exact this) | (rw [Int.mul_comm] at this; omega)
  have hb : F.M.bd (F.M.lu u d) (F.M.ld u d) = true := by unfold F.M.bd; simp; omega
  rw [F.M.mu_yes _ _ (by omega), F.M.up_yes _ _ hb, F.M.md_yes _ _ (by omega), F.M.dn_yes _ _ hb]
  have hL : F.M.Low (F.M.lu u d, F.M.ld u d) := ⟨p1, F.M.cop u d (by omega)⟩
  obtain ⟨v1, v2⟩ := F.M.low_val hL
  unfold F.M.tell
  dsimp only at v1 v2
  rw [v1, v2, if_pos hb]
/-- A bar that is right, moved. -/
theorem br_mv (vo : Int) {i : Int × Int} {n : Nat} {kid : Nat → It} {k s : Int} {np : Nat} {pl pa po : Nat → Int} {b1 b2 : Int} {ly : ByteArray} {u d : Int} (h1 : (ri (.mk k s np pl pa po b1 b2 ly n kid) 1 0).1 = true) (h2 : (ri (wrp i n kid) 1 0).1 = true) (u1 : 1 ≤ u) (u2 : u ≤ 65536) (d1 : 1 ≤ d) (d2 : d ≤ 65536) :
    FolX i.1 i.2 (fun x => br vo x u d (.mk k s np pl pa po b1 b2 ly n kid)) (fun x => br vo x u d (wrp i n kid)) :=
  br_fol vo i u d k s np pl pa po b1 b2 ly n kid (bs_wrp h1 h2 (foot_tell u1 u2 d1 d2))
end Go.Proofs.YtaohahahhjkcdaeGreatDoor.G.M

/- What the program's name and isDigits come to. -/
namespace Go.Proofs.YtaohahahhjkcdaeGreatDoor.J
open Go.RowKit
set_option linter.unusedVariables false
set_option linter.unusedSimpArgs false

/-- The next word. -/
def M.wt (s : ByteArray) (k : Nat) : ByteArray := s.extract (M.skp s k) (M.wd s (M.skp s k))
/-- Where it ends. -/
def M.wn (s : ByteArray) (k : Nat) : Nat := M.wd s (M.skp s k)
theorem M.wt_size {s : ByteArray} {k : Nat} (hk : k ≤ s.size) : (M.wt s k).size = M.wn s k - M.skp s k ∧ M.skp s k ≤ M.wn s k ∧ M.wn s k ≤ s.size := by
  have h1 := M.skp_le hk
  have h2 := M.wd_le h1.2
  unfold M.wt M.wn
  rw [ByteArray.size_extract]; omega

set_option maxHeartbeats 2000000 in
theorem name_any (p k : Nat) (s : ByteArray) (w : World) (hR : Rt w p s k) (hk : k ≤ s.size) (hs : s.size ≤ 65536) (hIA : IA (s.extract (M.skp s k) s.size)) :
    Calls Tryz.prog 42 #[.pointer (some ⟨p, 0, none⟩)] w fun x w' => (G.M.nm (M.wt s k) = true → x = .returned (.string (M.wt s k)) ∧ Rt w' p s (M.wn s k) ∧ TK w p w') ∧ (G.M.nm (M.wt s k) = false → x = thr 2 (M.skp s k : Nat) ∧ TK w p w') := by
  have HW := word_any p k s w hR hk hs hIA
  have hz := M.wt_size hk
  have hwt : M.wt s k = s.extract (M.skp s k) (M.wd s (M.skp s k)) := rfl
  rw [← hwt] at HW
  clear hwt
  generalize M.wt s k = t at *
  generalize M.wn s k = d at *
  generalize M.skp s k = j at *
  have HN := fun W => G.isName_any t W
  have HC := fun W => G.Clone_any t W (by omega)
  cases hV : G.M.nm t
  · rw [hV] at HN
    go_enter Tryz.func42, Tryz.ntmps42
    go_wp2_with fail
    refine HW.mono ?_
    rintro e w1 ⟨rfl, h1, t1⟩
    have HT : Hid (TK w p w1) := t1
    have HR : Hid (Rt w1 p s j) := h1
    clear t1 h1
    go_wp2_with fail
    refine (HN _).mono ?_
    rintro e w2 ⟨rfl, hb2⟩
    have HF := fail_any p j s 2 w2 (HR.out.step hb2)
    go_wp2_with fail
    refine HF.mono ?_
    rintro x w' ⟨rfl, rfl⟩
    exact ⟨rfl, fun h => absurd h (by decide), fun _ => ⟨rfl, HT.out.trans (TK.below hb2 HR.out.lt)⟩⟩
  · rw [hV] at HN
    have w3 : IntKind.i64.wrap ((j : Int) + (t.size : Int)) = (d : Int) := by rw [wid (by omega) (by omega)]; omega
    have w4 : (j : Int) + (t.size : Int) = (d : Int) := by omega
    have w5 : (j : Int) + ((d - j : Nat) : Int) = (d : Int) := by omega
    go_enter Tryz.func42, Tryz.ntmps42
    go_wp2_with fail
    refine HW.mono ?_
    rintro e w1 ⟨rfl, h1, t1⟩
    have HT : Hid (TK w p w1) := t1
    have HR : Hid (Rt w1 p s j) := h1
    clear t1 h1
    go_wp2_with fail
    refine (HN _).mono ?_
    rintro e w2 ⟨rfl, hb2⟩
    have hR2 := HR.out.step hb2
    have c1 := hR2.c1
    have f1 := hR2.f1
    have lt := hR2.lt
    have HR2 : Hid (Rt w2 p s j) := hR2
    have HT2 : Hid (TK w p w2) := HT.out.trans (TK.below hb2 HR.out.lt)
    clear hR2 hb2 HT HR
    go_wp2_with fail
    refine (HC _).mono ?_
    rintro e w5 ⟨rfl, hb5⟩
    have HB5 : Hid (Below (w2.setCell ⟨p, 1, none⟩ (.int .i64 (d : Int))).heap.size (w2.setCell ⟨p, 1, none⟩ (.int .i64 (d : Int))) w5) := by first | exact hb5 | (rw [← w5]; exact hb5) | (rw [w5] at hb5; exact hb5)
    clear hb5
    go_wp2_with fail
    go_ret
    have hR5 := (HR2.out.set d).step HB5.out
    exact ⟨fun _ => ⟨rfl, hR5, (HT2.out.trans (TK.set _ _ _)).trans (TK.below HB5.out (by simpa using lt))⟩, fun h => absurd h (by decide)⟩
end Go.Proofs.YtaohahahhjkcdaeGreatDoor.J

/- What the program's isDigits comes to. -/
namespace Go.Proofs.YtaohahahhjkcdaeGreatDoor.J
open Go.RowKit
set_option linter.unusedVariables false
set_option linter.unusedSimpArgs false

/-- Digits alone. -/
def M.dl (s : ByteArray) : Bool := s.data.toList.all fun b => decide (48 ≤ b.toNat ∧ b.toNat ≤ 57)
/-- A number as it is written. -/
def M.dg (s : ByteArray) : Bool := M.dl s && (decide (s = ⟨#[48]⟩) || (decide (s.size ≠ 0) && decide (M.by s 0 ≠ 48)))
theorem M.dl_no {s : ByteArray} (i : Nat) (hi : i < s.size) (h : ¬ (48 ≤ (s[i]'hi).toNat ∧ (s[i]'hi).toNat ≤ 57)) : M.dl s = false := by
  unfold M.dl
  rw [List.all_eq_false]
  have hi' : i < s.data.toList.length := by rw [← Lib.size_eq]; exact hi
  refine ⟨s.data.toList[i], List.getElem_mem hi', ?_⟩
  have e : s[i]'hi = s.data.toList[i] := rfl
  rw [← e]
  simpa using h
theorem M.dl_yes {s : ByteArray} (h : ∀ i (hi : i < s.size), 48 ≤ (s[i]'hi).toNat ∧ (s[i]'hi).toNat ≤ 57) : M.dl s = true := by
  unfold M.dl
  rw [List.all_eq_true]
  intro x hx
  obtain ⟨i, hi, rfl⟩ := List.getElem_of_mem hx
  have hi' : i < s.size := by rw [Lib.size_eq]; exact hi
  have e : s[i]'hi' = s.data.toList[i] := rfl
  have := h i hi'
  rw [e] at this
  exact decide_eq_true this
theorem M.dl_at {s : ByteArray} (h : M.dl s = true) (i : Nat) (hi : i < s.size) : 48 ≤ (s[i]'hi).toNat ∧ (s[i]'hi).toNat ≤ 57 := by
  by_cases h1 : 48 ≤ (s[i]'hi).toNat ∧ (s[i]'hi).toNat ≤ 57
  · exact h1
  · rw [M.dl_no i hi h1] at h; exact absurd h (by decide)

theorem tl_ne {s : ByteArray} (h : ¬ s = ⟨#[48]⟩) : (s.toList == [48]) = false :=
  beq_false_of_ne fun e => h (by rw [ByteArray.toList_eq] at e; exact ByteArray.ext (Array.ext' e))
theorem tl_nil {s : ByteArray} (h : s.size = 0) : s.toList.isEmpty = true := by
  rw [ByteArray.toList_eq, List.isEmpty_iff_length_eq_zero, ← Lib.size_eq]; exact h
theorem tl_cons {s : ByteArray} (h : ¬ s.size = 0) : s.toList.isEmpty = false := by
  cases e : s.toList.isEmpty
  · rfl
  · rw [ByteArray.toList_eq, List.isEmpty_iff_length_eq_zero, ← Lib.size_eq] at e; exact absurd e h

set_option maxRecDepth 100000 in
set_option maxHeartbeats 2000000 in
theorem isDigits_any (s : ByteArray) (w : World) (hs : s.size ≤ 65536) :
    Calls Tryz.prog 73 #[.string s] w fun e w' => e = .returned (.bool (M.dg s)) ∧ Below w.heap.size w w' := by
  obtain ⟨V, hV⟩ : ∃ V, M.dg s = V := ⟨_, rfl⟩
  rw [hV]
  have HY : Hid ((∀ i (hi : i < s.size), 48 ≤ (s[i]'hi).toNat ∧ (s[i]'hi).toNat ≤ 57) → V = (decide (s = ⟨#[48]⟩) || (decide (s.size ≠ 0) && decide (M.by s 0 ≠ 48)))) := fun h => by rw [← hV, M.dg, M.dl_yes h]; rfl
  have HN : Hid (∀ i (hi : i < s.size), ¬ (48 ≤ (s[i]'hi).toNat ∧ (s[i]'hi).toNat ≤ 57) → V = false) := fun i hi h => by rw [← hV, M.dg, M.dl_no i hi h]; rfl
  clear hV
  go_enter Tryz.func73, Tryz.ntmps73
  go_wp2_with fail
  go_loopw [4] (fun n w' => ∃ pos : Nat, w' = w.iter s pos ∧ pos ≤ s.size ∧ Hid (∀ i (hi : i < s.size), i < pos → 48 ≤ (s[i]'hi).toNat ∧ (s[i]'hi).toNat ≤ 57)) (fun _ w' => s.size - w'.iterPos w.heap.size)
  case atStart => exact ⟨0, rfl, by omega, fun i hi h => by omega⟩
  case round =>
    obtain ⟨pos, rfl, hps, hall⟩ := hrel
    by_cases hq : pos < s.size
    · by_cases hin : 48 ≤ (s[pos]'hq).toNat ∧ (s[pos]'hq).toNat ≤ 57
      · have hnx : ∀ ty, (Instr.next (.pointer (some ⟨w.heap.size, 0, none⟩)) true ty).run Tryz.prog (w.iter s pos) = _ := fun ty => run_next_ascii w s pos ty hq (by omega)
        have hall2 : Hid (∀ i (hi : i < s.size), i < pos + 1 → 48 ≤ (s[i]'hi).toNat ∧ (s[i]'hi).toNat ≤ 57) := fun i hi h => by
          by_cases e : i = pos
          · subst e; exact hin
          · exact hall.out i hi (by omega)
        obtain ⟨i1, i2⟩ := hin
        clear HY HN hall
        generalize (s[pos]'hq).toNat = Bv at *
        have e1 : ¬ (Bv : Int) < 48 := by omega
        have e2 : ¬ (57 : Int) < Bv := by omega
        go_wp2_with fail
        go_roundw
        case rel => exact ⟨pos + 1, rfl, by omega, hall2⟩
        case measure => simp; omega
      · have hR : Hid (V = false) := HN.out pos hq hin
        by_cases ha : (s[pos]'hq).toNat < 128
        · have hnx : ∀ ty, (Instr.next (.pointer (some ⟨w.heap.size, 0, none⟩)) true ty).run Tryz.prog (w.iter s pos) = _ := fun ty => run_next_ascii w s pos ty hq ha
          clear HY HN hall
          generalize (s[pos]'hq).toNat = Bv at *
          rcases (show (Bv : Int) < 48 ∨ (¬ (Bv : Int) < 48 ∧ (57 : Int) < Bv) by omega) with e1 | ⟨e1, e2⟩
          all_goals
            clear hin
            go_wp2_with fail
            go_ret
            exact ⟨by rw [hR.out]; rfl, iter_below w s _⟩
        · have hnx : ∀ ty, (Instr.next (.pointer (some ⟨w.heap.size, 0, none⟩)) true ty).run Tryz.prog (w.iter s pos) = _ := fun ty => run_next_any w s pos ty hq
          have g1 := (decode_high s pos hq (by omega)).1
          clear HY HN hall hin ha
          generalize (Utf8.decode s pos).1 = Rn at *
          have e1 : ¬ (Rn : Int) < 48 := by omega
          have e2 : (57 : Int) < Rn := by omega
          go_wp2_with fail
          go_ret
          exact ⟨by rw [hR.out]; rfl, iter_below w s _⟩
    · have hnx : ∀ ty, (Instr.next (.pointer (some ⟨w.heap.size, 0, none⟩)) true ty).run Tryz.prog (w.iter s pos) = _ := fun ty => run_next_end w s pos ty hq
      have hR : Hid (V = (decide (s = ⟨#[48]⟩) || (decide (s.size ≠ 0) && decide (M.by s 0 ≠ 48)))) := HY.out (fun i hi => hall.out i hi (by omega))
      clear HY HN hall
      by_cases h0 : s = ⟨#[48]⟩
      · have HV : Hid (V = true) := by rw [hR.out, decide_eq_true h0]; rfl
        have k0 : (s.toList == [48]) = true := by rw [h0, ByteArray.toList_eq]; decide
        clear hR h0
        go_wp2_with fail
        go_ret
        exact ⟨by rw [HV.out]; simp [k0], iter_below w s _⟩
      have k0 : (s.toList == [48]) = false := tl_ne h0
      by_cases hz : s.size = 0
      · have k1 : s.toList.isEmpty = true := tl_nil hz
        have HV : Hid (V = false) := by rw [hR.out, decide_eq_false h0, decide_eq_false (by omega)]; rfl
        clear hR h0
        go_wp2_with fail
        go_ret
        exact ⟨by rw [HV.out]; simp [k0, k1], iter_below w s _⟩
      · have k1 : s.toList.isEmpty = false := tl_cons hz
        have HV : Hid (V = decide (M.by s 0 ≠ 48)) := by rw [hR.out, decide_eq_false h0, decide_eq_true (show s.size ≠ 0 from hz)]; rfl
        have h0l : 0 < s.size := by omega
        have hby := M.by_is s 0 h0l
        clear hR h0
        by_cases hb : M.by s 0 = 48
        · have k2 : ((M.by s 0 : Int) != 48) = false := by simp; omega
          go_wp2_with fail
          go_ret
          exact ⟨by rw [HV.out]; simp [k0, k1, k2, hb], iter_below w s _⟩
        · have k2 : ((M.by s 0 : Int) != 48) = true := by simp; omega
          go_wp2_with fail
          go_ret
          exact ⟨by rw [HV.out]; simp [k0, k1, k2, hb], iter_below w s _⟩
end Go.Proofs.YtaohahahhjkcdaeGreatDoor.J

/- What the program's number comes to where it is one that can be told at once, and where there are no digits. -/
namespace Go.Proofs.YtaohahahhjkcdaeGreatDoor.J
open Go.RowKit
set_option linter.unusedVariables false
set_option linter.unusedSimpArgs false

set_option maxHeartbeats 2000000 in
theorem number_ok (p k : Nat) (s : ByteArray) (n : Int) (w : World) (hR : Rt w p s k) (hk : k ≤ s.size) (hs : s.size ≤ 65536) (hIA : IA (s.extract (M.skp s k) s.size)) (hd : M.dg (M.wt s k) = true) (h18 : (M.wt s k).size ≤ 18) (ha : Lib.atoi (M.wt s k).data.toList = some n) (hn : 1 ≤ n) (hn2 : n ≤ 65536) :
    Calls Tryz.prog 58 #[.pointer (some ⟨p, 0, none⟩)] w fun x w' => x = .returned (.int .i64 n) ∧ Rt w' p s (M.wn s k) ∧ TK w p w' := by
  have HW := word_any p k s w hR hk hs hIA
  have hz := M.wt_size hk
  have hwt : M.wt s k = s.extract (M.skp s k) (M.wd s (M.skp s k)) := rfl
  rw [← hwt] at HW
  clear hwt
  generalize M.wt s k = t at *
  generalize M.wn s k = d at *
  generalize M.skp s k = j at *
  have HN := fun W => isDigits_any t W (by omega)
  rw [hd] at HN
  have HA := fun W => Tryz.strconv_Atoi t n h18 ha W
  have HS := fun W => G.isShare_yes n W hn hn2
  clear ha hd
  have w5 : (j : Int) + ((d - j : Nat) : Int) = (d : Int) := by omega
  have w6 : IntKind.i64.wrap ((j : Int) + (t.size : Int)) = (d : Int) := by rw [wid (by omega) (by omega)]; omega
  go_enter Tryz.func58, Tryz.ntmps58
  go_wp2_with fail
  refine HW.mono ?_
  rintro e w1 ⟨rfl, h1, t1⟩
  have HT : Hid (TK w p w1) := t1
  have HR : Hid (Rt w1 p s j) := h1
  clear t1 h1
  go_wp2_with fail
  refine (HN _).mono ?_
  rintro e w2 ⟨rfl, hb2⟩
  have HR2 : Hid (Rt w2 p s j) := HR.out.step hb2
  have HT2 : Hid (TK w p w2) := HT.out.trans (TK.below hb2 HR.out.lt)
  clear hb2 HT HR
  go_wp2_with fail
  refine (HA _).mono ?_
  rintro e w3 ⟨rfl, tt, hw3⟩
  have hb3 : Below w2.heap.size w2 w3 := by rw [hw3]; exact Joins.below_bytesWorld _ _ _ _ (Nat.le_refl _)
  clear hw3
  have HR3 : Hid (Rt w3 p s j) := HR2.out.step hb3
  have HT3 : Hid (TK w p w3) := HT2.out.trans (TK.below hb3 HR2.out.lt)
  clear hb3 HT2 HR2
  go_wp2_with fail
  refine (HS _).mono ?_
  rintro e w4 ⟨rfl, rfl⟩
  have c1 := HR3.out.c1
  have f1 := HR3.out.f1
  have lt := HR3.out.lt
  go_wp2_with fail
  try rw [w5]
  go_ret
  exact ⟨rfl, HR3.out.set d, HT3.out.trans (TK.set _ _ _)⟩

set_option maxHeartbeats 2000000 in
theorem number_form (p k : Nat) (s : ByteArray) (w : World) (hR : Rt w p s k) (hk : k ≤ s.size) (hs : s.size ≤ 65536) (hIA : IA (s.extract (M.skp s k) s.size)) (hd : M.dg (M.wt s k) = false) :
    Calls Tryz.prog 58 #[.pointer (some ⟨p, 0, none⟩)] w fun x w' => x = thr 2 (M.skp s k : Nat) ∧ TK w p w' := by
  have HW := word_any p k s w hR hk hs hIA
  have hz := M.wt_size hk
  have hwt : M.wt s k = s.extract (M.skp s k) (M.wd s (M.skp s k)) := rfl
  rw [← hwt] at HW
  clear hwt
  generalize M.wt s k = t at *
  generalize M.wn s k = d at *
  generalize M.skp s k = j at *
  have HN := fun W => isDigits_any t W (by omega)
  rw [hd] at HN
  clear hd
  go_enter Tryz.func58, Tryz.ntmps58
  go_wp2_with fail
  refine HW.mono ?_
  rintro e w1 ⟨rfl, h1, t1⟩
  have HT : Hid (TK w p w1) := t1
  have HR : Hid (Rt w1 p s j) := h1
  clear t1 h1
  go_wp2_with fail
  refine (HN _).mono ?_
  rintro e w2 ⟨rfl, hb2⟩
  have HF := fail_any p j s 2 w2 (HR.out.step hb2)
  have HT2 : Hid (TK w p w2) := HT.out.trans (TK.below hb2 HR.out.lt)
  clear hb2 HT HR
  go_wp2_with fail
  refine HF.mono ?_
  rintro x w' ⟨rfl, rfl⟩
  exact ⟨rfl, rfl, HT2.out⟩
end Go.Proofs.YtaohahahhjkcdaeGreatDoor.J
