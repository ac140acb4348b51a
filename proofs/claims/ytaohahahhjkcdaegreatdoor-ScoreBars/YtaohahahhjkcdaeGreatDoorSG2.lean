/- Beats as trees; what is wrong with one, as a plain function. -/
import Derived.Test.YtaohahahhjkcdaeGreatDoorRows
import Derived.Test.YtaohahahhjkcdaeGreatDoorSG1
namespace Go.Proofs.YtaohahahhjkcdaeGreatDoor.F.M

/-- What the kids of a beat are told by: numbers; of no beat none. -/
abbrev Dom (z : Bool) : Type := match z with | true => Empty | false => Nat
/-- A beat, or (z) none. -/
structure Bt where
  of ::
  z : Bool
  k : Int
  s : Int
  n : Nat
  sub : Dom z → Bt
abbrev Bt.mk (k s : Int) (n : Nat) (kid : Nat → Bt) : Bt := ⟨false, k, s, n, kid⟩
abbrev Bt.nil : Bt := ⟨true, 0, 0, 0, fun e => Empty.elim e⟩
theorem Bt.ind {motive : Bt → Prop} (nil : ∀ k s n sub, motive ⟨true, k, s, n, sub⟩) (mk : ∀ k s n (kid : Nat → Bt), (∀ j, motive (kid j)) → motive (.mk k s n kid)) (b : Bt) : motive b := by
  induction b with
  | of z k s n sub ih =>
    cases z with
    | true => exact nil k s n sub
    | false => exact mk k s n sub ih
theorem Bt.two (b : Bt) : (∃ k s n sub, b = ⟨true, k, s, n, sub⟩) ∨ ∃ k s n kid, b = .mk k s n kid := by
  induction b using Bt.ind with
  | nil k s n sub => exact .inl ⟨k, s, n, sub, rfl⟩
  | mk k s n kid => exact .inr ⟨k, s, n, kid, rfl⟩

/-- What is wrong with a beat, whatever its kids are. -/
def al (k s : Int) (n : Nat) : Int := if s < 1 ∨ 65536 < s then 3 else if k < 1 ∨ 4 < k then 1 else if (k = 4 ∧ n = 0) ∨ (k ≠ 4 ∧ 0 < n) then 5 else 0
theorem al_share (k s : Int) (n : Nat) (h : s < 1 ∨ 65536 < s) : al k s n = 3 := if_pos h
theorem al_kind (k s : Int) (n : Nat) (h : ¬ (s < 1 ∨ 65536 < s)) (h2 : k < 1 ∨ 4 < k) : al k s n = 1 := by unfold al; rw [if_neg h, if_pos h2]
theorem al_many (k s : Int) (n : Nat) (h : ¬ (s < 1 ∨ 65536 < s)) (h2 : ¬ (k < 1 ∨ 4 < k)) (h3 : (k = 4 ∧ n = 0) ∨ (k ≠ 4 ∧ 0 < n)) : al k s n = 5 := by unfold al; rw [if_neg h, if_neg h2, if_pos h3]
theorem al_ok (k s : Int) (n : Nat) (h : ¬ (s < 1 ∨ 65536 < s)) (h2 : ¬ (k < 1 ∨ 4 < k)) (h3 : ¬ ((k = 4 ∧ n = 0) ∨ (k ≠ 4 ∧ 0 < n))) : al k s n = 0 := by unfold al; rw [if_neg h, if_neg h2, if_neg h3]

/-- Kid by kid: the first that has something wrong, and how many beats may come yet. -/
def wkids (f : Nat → Int → Int × Int) : Nat → Nat → Int → Int × Int
  | 0, _, l => (0, l)
  | c + 1, i, l => if (f i l).1 ≠ 0 then f i l else wkids f c (i + 1) (f i l).2
def wr : Bt → Int → Int → Int × Int
  | ⟨true, _, _, _, _⟩, _, l => (4, l)
  | ⟨false, k, s, n, kid⟩, lev, l => if 32 < lev ∨ l < 1 then (4, l) else if al k s n ≠ 0 then (al k s n, l - 1) else wkids (fun j l => wr (kid j) (lev + 1) l) n 0 (l - 1)

theorem wkids_bd (f : Nat → Int → Int × Int) (hf : ∀ i l, 0 ≤ l → 0 ≤ (f i l).2 ∧ (f i l).2 ≤ l) (c i : Nat) (l : Int) (h : 0 ≤ l) : 0 ≤ (wkids f c i l).2 ∧ (wkids f c i l).2 ≤ l := by
  induction c generalizing i l with
  | zero => simp [wkids]; exact h
  | succ c ih =>
    rw [wkids]
    have := hf i l h
    split
    · exact this
    · have := ih (i + 1) (f i l).2 this.1; omega
theorem wr_bd (b : Bt) : ∀ lev l : Int, 0 ≤ l → 0 ≤ (wr b lev l).2 ∧ (wr b lev l).2 ≤ l := by
  induction b using Bt.ind with
  | nil => intro lev l h; exact ⟨h, Int.le_refl _⟩
  | mk k s n kid ih =>
    intro lev l h
    rw [wr]
    split
    · exact ⟨h, Int.le_refl _⟩
    · rename_i hc
      split
      · show 0 ≤ l - 1 ∧ l - 1 ≤ l; omega
      · have := wkids_bd (fun j l => wr (kid j) (lev + 1) l) (fun i l h => ih i (lev + 1) l h) n 0 (l - 1) (by omega)
        omega
theorem wr_much (b : Bt) (lev l : Int) (h : 32 < lev ∨ l < 1) : wr b lev l = (4, l) := by
  induction b using Bt.ind with
  | nil => rfl
  | mk k s n kid => rw [wr, if_pos h]
theorem wr_al (k s : Int) (n : Nat) (kid : Nat → Bt) (lev l : Int) (h : ¬ (32 < lev ∨ l < 1)) (h2 : al k s n ≠ 0) : wr (.mk k s n kid) lev l = (al k s n, l - 1) := by
  rw [wr, if_neg h, if_pos h2]
theorem wr_kids (k s : Int) (n : Nat) (kid : Nat → Bt) (lev l : Int) (h : ¬ (32 < lev ∨ l < 1)) (h2 : al k s n = 0) : wr (.mk k s n kid) lev l = wkids (fun j l => wr (kid j) (lev + 1) l) n 0 (l - 1) := by
  rw [wr, if_neg h, if_neg (by simpa using h2)]
/-- Where the kids up to i have nothing wrong. -/
def WK (kid : Nat → Bt) (lev : Int) (n i : Nat) (l0 l : Int) : Prop := wkids (fun j l => wr (kid j) (lev + 1) l) n 0 l0 = wkids (fun j l => wr (kid j) (lev + 1) l) (n - i) i l
theorem wk_start (kid : Nat → Bt) (lev : Int) (n : Nat) (l0 : Int) : WK kid lev n 0 l0 l0 := rfl
theorem wk_step (kid : Nat → Bt) (lev : Int) (n i : Nat) (l0 l : Int) (h : WK kid lev n i l0 l) (hi : i < n) :
    ((wr (kid i) (lev + 1) l).1 ≠ 0 → wkids (fun j l => wr (kid j) (lev + 1) l) n 0 l0 = wr (kid i) (lev + 1) l) ∧ ((wr (kid i) (lev + 1) l).1 = 0 → WK kid lev n (i + 1) l0 (wr (kid i) (lev + 1) l).2) := by
  unfold WK at *
  rw [h]
  obtain ⟨c, hc⟩ : ∃ c, n - i = c + 1 := ⟨n - i - 1, by omega⟩
  have hc2 : n - (i + 1) = c := by omega
  rw [hc, hc2, wkids]
  exact ⟨fun e => if_pos e, fun e => if_neg (by simpa using e)⟩
theorem wk_end (kid : Nat → Bt) (lev : Int) (n : Nat) (l0 l : Int) (h : WK kid lev n n l0 l) : wkids (fun j l => wr (kid j) (lev + 1) l) n 0 l0 = (0, l) := by
  unfold WK at h
  rw [h, Nat.sub_self]
  rfl
end Go.Proofs.YtaohahahhjkcdaeGreatDoor.F.M

/- Beats that share time: what the program's share and the document's leaves come to, as plain functions, and that they are one. -/
namespace Go.Proofs.YtaohahahhjkcdaeGreatDoor.F.M
set_option linter.unusedVariables false

abbrev Fr := Int × Int
abbrev Sp := Fr × Fr × Bool
/-- What is told of u over d: its lowest terms, if they aren't large. -/
def tell (u d : Int) : Option Fr := if bd (lu u d) (ld u d) = true then some (lu u d, ld u d) else none
def pl (a b : Fr) : Option Fr := tell (a.1 * b.2 + b.1 * a.2) (a.2 * b.2)
/-- A part of a length: s shares of all. -/
def pr (f : Fr) (s all : Int) : Option Fr := tell (f.1 * s) (f.2 * all)
/-- A leaf is added to the spans. -/
def ad (out : List Sp) (k : Int) (st lg : Fr) : Option (List Sp) :=
  match k == 3, out.reverse with
  | true, x :: r => (pl x.2.1 lg).map fun f => ((x.1, f, x.2.2) :: r).reverse
  | _, _ => some (out ++ [(st, lg, k == 1)])

/-- How many shares the first so many kids have. -/
def sums (kid : Nat → Bt) : Nat → Int
  | 0 => 0
  | i + 1 => sums kid i + (kid i).s
def skids (f : Nat → Fr → Fr → List Sp → Option (List Sp)) (sh : Nat → Int) (all : Int) (L : Fr) : Nat → Nat → Fr → List Sp → Option (Fr × List Sp)
  | 0, _, at', out => some (at', out)
  | c + 1, i, at', out => (pr L (sh i) all).bind fun lg => (f i at' lg out).bind fun o => (pl at' lg).bind fun e => skids f sh all L c (i + 1) e o
def sh : Bt → Fr → Fr → List Sp → Option (List Sp)
  | ⟨true, _, _, _, _⟩, _, _, _ => none
  | ⟨false, k, _, n, kid⟩, at', L, out => if k = 4 then (skids (fun j a l o => sh (kid j) a l o) (fun j => (kid j).s) (sums kid n) L n 0 at' out).map (·.2) else ad out k at' L
def lkids (f : Nat → Fr → Option (List (Int × Fr))) (sh : Nat → Int) (all : Int) (L : Fr) : Nat → Nat → Option (List (Int × Fr))
  | 0, _ => some []
  | c + 1, i => (pr L (sh i) all).bind fun lg => (f i lg).bind fun l => (lkids f sh all L c (i + 1)).bind fun r => some (l ++ r)
def lvs : Bt → Fr → Option (List (Int × Fr))
  | ⟨true, _, _, _, _⟩, _ => none
  | ⟨false, k, _, n, kid⟩, L => if k = 4 then lkids (fun j l => lvs (kid j) l) (fun j => (kid j).s) (sums kid n) L n 0 else some [(k, L)]
def fold : List (Int × Fr) → Fr → List Sp → Option (Fr × List Sp)
  | [], a, out => some (a, out)
  | x :: r, a, out => (pl a x.2).bind fun e => (ad out x.1 a x.2).bind fun o => fold r e o

theorem fold_append (l r : List (Int × Fr)) (a : Fr) (out : List Sp) : fold (l ++ r) a out = (fold l a out).bind fun x => fold r x.1 x.2 := by
  induction l generalizing a out with
  | nil => rfl
  | cons x l ih =>
    simp only [List.cons_append, fold]
    cases pl a x.2 with
    | none => rfl
    | some e => cases ad out x.1 a x.2 with
      | none => rfl
      | some o => simp [ih]

/-- In lowest terms. -/
def Low (f : Fr) : Prop := 1 ≤ f.2 ∧ Int.gcd f.1 f.2 = 1
theorem tell_some {u d : Int} {f : Fr} (h : tell u d = some f) (hd : 1 ≤ d) : f = (lu u d, ld u d) ∧ Low f ∧ bd (lu u d) (ld u d) = true := by
  unfold tell at h
  split at h
  · rename_i hb
    simp only [Option.some.injEq] at h
    subst h
    exact ⟨rfl, ⟨ld_pos u d hd, cop u d hd⟩, hb⟩
  · simp at h
theorem tell_congr {a b c d : Int} (hb : 1 ≤ b) (hd : 1 ≤ d) (h : a * d = c * b) : tell a b = tell c d := by
  obtain ⟨e1, e2⟩ := low_congr a b c d hb hd h
  unfold tell; rw [e1, e2]
theorem low_val {f : Fr} (h : Low f) : lu f.1 f.2 = f.1 ∧ ld f.1 f.2 = f.2 := ⟨lu_one _ _ h.2, ld_one _ _ h.2⟩

/-- Trees whose groups share something. -/
def Fine : Bt → Prop
  | ⟨true, _, _, _, _⟩ => False
  | ⟨false, k, s, n, kid⟩ => 1 ≤ s ∧ s ≤ 65536 ∧ n ≤ 4096 ∧ (k = 4 → 0 < n) ∧ (k ≠ 4 → n = 0) ∧ 1 ≤ k ∧ k ≤ 4 ∧ ∀ j, j < n → Fine (kid j)
theorem Fine.share {b : Bt} (h : Fine b) : 1 ≤ b.s ∧ b.s ≤ 65536 := by
  induction b using Bt.ind with
  | nil => exact False.elim h
  | mk k s n kid => exact ⟨h.1, h.2.1⟩
theorem sums_bd (kid : Nat → Bt) (n : Nat) (h : ∀ j, j < n → Fine (kid j)) : (n : Int) ≤ sums kid n ∧ sums kid n ≤ 65536 * n := by
  induction n with
  | zero => simp [sums]
  | succ n ih =>
    have := ih (fun j hj => h j (by omega))
    have := (h n (by omega)).share
    rw [sums]; omega

/-- Where the kids are that have come: the place is that of all shares up to there. -/
def Plc (a L : Fr) (all S : Int) (e : Fr) : Prop := Low e ∧ e.1 * (a.2 * (L.2 * all)) = (a.1 * (L.2 * all) + S * L.1 * a.2) * e.2
theorem plc_start {a L : Fr} {all : Int} (ha : Low a) : Plc a L all 0 a := ⟨ha, by
  rw [Int.zero_mul, Int.zero_mul, Int.add_zero, Int.mul_assoc a.1, Int.mul_comm a.2]⟩
theorem plc_step {a L : Fr} {all S s : Int} {e lg e' : Fr} (h : Plc a L all S e) (ha : 1 ≤ a.2) (hL : 1 ≤ L.2) (hall : 1 ≤ all) (h1 : pr L s all = some lg) (h2 : pl e lg = some e') : Plc a L all (S + s) e' := by
  have p1 : 1 ≤ L.2 * all := mul_pos' _ _ hL hall
  obtain ⟨rfl, hlow, _⟩ := tell_some h1 p1
  have hD : 1 ≤ ld (L.1 * s) (L.2 * all) := hlow.1
  have p2 : 1 ≤ e.2 * ld (L.1 * s) (L.2 * all) := mul_pos' _ _ h.1.1 hD
  obtain ⟨rfl, hlow2, _⟩ := tell_some h2 p2
  refine ⟨hlow2, ?_⟩
  have q1 := lu_mul (L.1 * s) (L.2 * all)
  have q2 := ld_mul (L.1 * s) (L.2 * all)
  have x1 : lu (L.1 * s) (L.2 * all) * (L.2 * all) = (L.1 * s) * ld (L.1 * s) (L.2 * all) := by
    calc lu (L.1 * s) (L.2 * all) * (L.2 * all) = lu (L.1 * s) (L.2 * all) * (gi (L.1 * s) (L.2 * all) * ld (L.1 * s) (L.2 * all)) := by rw [q2]
      _ = (gi (L.1 * s) (L.2 * all) * lu (L.1 * s) (L.2 * all)) * ld (L.1 * s) (L.2 * all) := by rw [← Int.mul_assoc, Int.mul_comm _ (gi (L.1 * s) (L.2 * all))]
      _ = _ := by rw [q1]
  simp only at *
  generalize lu (L.1 * s) (L.2 * all) = pu at *
  generalize ld (L.1 * s) (L.2 * all) = pd at *
  generalize hN : e.1 * pd + pu * e.2 = N at *
  generalize hM : e.2 * pd = M at *
  have r1 := lu_mul N M
  have r2 := ld_mul N M
  have x2 : lu N M * M = N * ld N M := by
    calc lu N M * M = lu N M * (gi N M * ld N M) := by rw [r2]
      _ = (gi N M * lu N M) * ld N M := by rw [← Int.mul_assoc, Int.mul_comm _ (gi N M)]
      _ = _ := by rw [r1]
  have hM0 : M ≠ 0 := by omega
  generalize lu N M = nu at *
  generalize ld N M = nd at *
  have h' := h.2
  generalize L.2 * all = K at *
  generalize e.1 = eu at *
  generalize e.2 = ed at *
  generalize a.1 = au at *
  generalize a.2 = adn at *
  generalize L.1 = Lu at *
  apply Int.eq_of_mul_eq_mul_right hM0
  clear hlow2 hlow hM0 p1 p2 q1 q2 r1 r2 h h1 h2
  subst hN hM
  grind
theorem plc_end {a L : Fr} {all : Int} {e : Fr} (h : Plc a L all all e) (ha : 1 ≤ a.2) (hL : 1 ≤ L.2) (hall : 1 ≤ all) (hb : bd e.1 e.2 = true) : pl a L = some e := by
  have p1 : 1 ≤ a.2 * L.2 := mul_pos' _ _ ha hL
  have hx : (a.1 * L.2 + L.1 * a.2) * e.2 = e.1 * (a.2 * L.2) := by
    have h' := h.2
    have h0 : all ≠ 0 := by omega
    apply Int.eq_of_mul_eq_mul_right h0
    grind
  obtain ⟨e1, e2⟩ := low_congr _ _ _ _ p1 h.1.1 hx
  obtain ⟨f1, f2⟩ := low_val h.1
  unfold pl tell
  rw [e1, e2, f1, f2, if_pos hb]

/-- The kids' loop goes just as far as the leaves' loop over the kids' leaves. -/
theorem skids_is (kid : Nat → Bt) (all : Int) (L : Fr) (hL : 1 ≤ L.2) (hall : 1 ≤ all)
    (n : Nat) (ih : ∀ j, j < n → ∀ (a l : Fr) (o : List Sp), Low a → bd a.1 a.2 = true → Low l → (sh (kid j) a l o).bind (fun o => (pl a l).bind fun e => some (e, o)) = (lvs (kid j) l).bind fun x => fold x a o) :
    ∀ (c i : Nat) (a : Fr) (out : List Sp), i + c ≤ n → Low a → bd a.1 a.2 = true → skids (fun j a l o => sh (kid j) a l o) (fun j => (kid j).s) all L c i a out = (lkids (fun j l => lvs (kid j) l) (fun j => (kid j).s) all L c i).bind fun x => fold x a out := by
  intro c
  induction c with
  | zero => intro i a out _ _ _; rfl
  | succ c ihc =>
    intro i a out hn ha hab
    rw [skids, lkids]
    cases hp : pr L ((fun j => (kid j).s) i) all with
    | none => rfl
    | some lg =>
      have hlg : Low lg := (tell_some hp (mul_pos' _ _ hL hall)).2.1
      have hi := ih i (by omega) a lg out ha hab hlg
      simp only [Option.bind_some]
      cases hs : sh (kid i) a lg out with
      | none =>
        rw [hs] at hi
        simp only [Option.bind_none] at hi ⊢
        cases hl : lvs (kid i) lg with
        | none => rfl
        | some x =>
          rw [hl] at hi
          simp only [Option.bind_some] at hi ⊢
          cases lkids (fun j l => lvs (kid j) l) (fun j => (kid j).s) all L c (i + 1) with
          | none => rfl
          | some r => simp only [Option.bind_some]; rw [fold_append, ← hi]; rfl
      | some o =>
        rw [hs] at hi
        simp only [Option.bind_some] at hi ⊢
        cases he : pl a lg with
        | none =>
          rw [he] at hi
          simp only [Option.bind_none] at hi ⊢
          cases hl : lvs (kid i) lg with
          | none => rfl
          | some x =>
            rw [hl] at hi
            simp only [Option.bind_some] at hi ⊢
            cases lkids (fun j l => lvs (kid j) l) (fun j => (kid j).s) all L c (i + 1) with
            | none => rfl
            | some r => simp only [Option.bind_some]; rw [fold_append, ← hi]; rfl
        | some e =>
          rw [he] at hi
          simp only [Option.bind_some] at hi ⊢
          have t := tell_some he (mul_pos' _ _ ha.1 hlg.1)
          have hel : Low e := t.2.1
          have heb : bd e.1 e.2 = true := by rw [t.1]; exact t.2.2
          rw [ihc (i + 1) e o (by omega) hel heb]
          cases hl : lvs (kid i) lg with
          | none => rw [hl] at hi; simp at hi
          | some x =>
            rw [hl] at hi
            simp only [Option.bind_some] at hi ⊢
            cases lkids (fun j l => lvs (kid j) l) (fun j => (kid j).s) all L c (i + 1) with
            | none => rfl
            | some r => simp only [Option.bind_some]; rw [fold_append, ← hi]; rfl

/-- Where the kids' loop ends, all shares have come. -/
theorem skids_end (kid : Nat → Bt) (all : Int) (a L : Fr) (ha : 1 ≤ a.2) (hL : 1 ≤ L.2) (hall : 1 ≤ all) (g : Nat → Fr → Fr → List Sp → Option (List Sp)) :
    ∀ (c i : Nat) (e : Fr) (out : List Sp) (e' : Fr) (o' : List Sp), Plc a L all (sums kid i) e → bd e.1 e.2 = true → skids g (fun j => (kid j).s) all L c i e out = some (e', o') → Plc a L all (sums kid (i + c)) e' ∧ bd e'.1 e'.2 = true := by
  intro c
  induction c with
  | zero =>
    intro i e out e' o' h hb hs
    simp only [skids, Option.some.injEq, Prod.mk.injEq] at hs
    obtain ⟨rfl, _⟩ := hs
    exact ⟨h, hb⟩
  | succ c ihc =>
    intro i e out e' o' h hb hs
    rw [skids] at hs
    obtain ⟨lg, h1, hs⟩ := Option.bind_eq_some_iff.1 hs
    obtain ⟨o, _, hs⟩ := Option.bind_eq_some_iff.1 hs
    obtain ⟨e2, h2, hs⟩ := Option.bind_eq_some_iff.1 hs
    have hlg : Low lg := (tell_some h1 (mul_pos' _ _ hL hall)).2.1
    have t := tell_some h2 (mul_pos' _ _ h.1.1 hlg.1)
    have hb2 : bd e2.1 e2.2 = true := by rw [t.1]; exact t.2.2
    have := ihc (i + 1) e2 o e' o' (plc_step h ha hL hall h1 h2) hb2 hs
    rw [show i + (c + 1) = i + 1 + c by omega]
    exact this

/-- The program's share, and then the place behind it, is the document's leaves, and then their loop. -/
theorem share_is (b : Bt) : Fine b → ∀ (a L : Fr) (out : List Sp), Low a → bd a.1 a.2 = true → Low L → (sh b a L out).bind (fun o => (pl a L).bind fun e => some (e, o)) = (lvs b L).bind fun x => fold x a out := by
  induction b using Bt.ind with
  | nil => intro h; exact False.elim h
  | mk k s n kid ih =>
    intro hF a L out ha hab hL
    obtain ⟨_, _, _, h4, h5, _, _, hk⟩ := hF
    by_cases hk4 : k = 4
    · have hsm := sums_bd kid n hk
      have hn := h4 hk4
      have hall : 1 ≤ sums kid n := by omega
      have main := skids_is kid (sums kid n) L hL.1 hall n (fun j hj a l o h1 h2 h3 => ih j (hk j hj) a l o h1 h2 h3) n 0 a out (by omega) ha hab
      rw [sh, lvs, if_pos hk4, if_pos hk4, ← main]
      cases hs : skids (fun j a l o => sh (kid j) a l o) (fun j => (kid j).s) (sums kid n) L n 0 a out with
      | none => rfl
      | some x =>
        obtain ⟨e', o'⟩ := x
        obtain ⟨q1, q2⟩ := skids_end kid (sums kid n) a L ha.1 hL.1 hall _ n 0 a out e' o' (plc_start ha) hab hs
        rw [Nat.zero_add] at q1
        simp only [Option.map_some, Option.bind_some]
        rw [plc_end q1 ha.1 hL.1 hall q2]
        rfl
    · rw [sh, lvs, if_neg hk4, if_neg hk4]
      simp only [Option.bind_some, fold]
      cases pl a L with
      | none => cases ad out k a L <;> rfl
      | some e => cases ad out k a L <;> rfl

/-- The whole: what the program's Spans has in out, the document's has behind its loop. -/
theorem spans_is (b : Bt) (L : Fr) (hF : Fine b) (hL : Low L) (hb : bd L.1 L.2 = true) : sh b (0, 1) L [] = ((lvs b L).bind fun x => fold x (0, 1) []).map (·.2) := by
  have h := share_is b hF (0, 1) L [] ⟨by decide, by decide⟩ (by decide) hL
  have hp : pl (0, 1) L = some L := by
    obtain ⟨f1, f2⟩ := low_val hL
    unfold pl tell
    simp only [Int.zero_mul, Int.zero_add, Int.mul_one, Int.one_mul]
    rw [f1, f2, if_pos hb]
  rw [← h, hp]
  cases sh b (0, 1) L [] <;> rfl

/-- What has nothing wrong is fine. -/
theorem wkids_use (f : Nat → Int → Int × Int) (P : Nat → Prop) (hf : ∀ i l, 0 ≤ l → l ≤ 4096 → (f i l).1 = 0 → P i ∧ 0 ≤ (f i l).2 ∧ (f i l).2 ≤ l - 1) (c i : Nat) (l : Int) (h0 : 0 ≤ l) (h1 : l ≤ 4096) (h : (wkids f c i l).1 = 0) : (∀ j, i ≤ j → j < i + c → P j) ∧ 0 ≤ (wkids f c i l).2 ∧ (wkids f c i l).2 ≤ l - c := by
  induction c generalizing i l with
  | zero => exact ⟨fun j a b => by omega, by simpa [wkids] using h0, by simp [wkids]⟩
  | succ c ih =>
    rw [wkids] at h ⊢
    by_cases e : (f i l).1 = 0
    · rw [if_neg (by simpa using e)] at h ⊢
      obtain ⟨p1, p2, p3⟩ := hf i l h0 h1 e
      obtain ⟨q1, q2, q3⟩ := ih (i + 1) (f i l).2 p2 (by omega) h
      refine ⟨fun j a b => ?_, q2, by omega⟩
      by_cases ej : j = i
      · rw [ej]; exact p1
      · exact q1 j (by omega) (by omega)
    · rw [if_pos e] at h; exact absurd h e
theorem wr_fine (b : Bt) : ∀ lev l : Int, 0 ≤ l → l ≤ 4096 → (wr b lev l).1 = 0 → Fine b ∧ 0 ≤ (wr b lev l).2 ∧ (wr b lev l).2 ≤ l - 1 := by
  induction b using Bt.ind with
  | nil => intro lev l _ _ h; exact absurd h (show ¬ (4 : Int) = 0 by decide)
  | mk k s n kid ih =>
    intro lev l h0 h1 h
    by_cases c : 32 < lev ∨ l < 1
    · rw [wr_much _ _ _ c] at h; exact absurd h (show ¬ (4 : Int) = 0 by decide)
    · by_cases ha : al k s n = 0
      · rw [wr_kids k s n kid lev l c ha] at h ⊢
        obtain ⟨q1, q2, q3⟩ := wkids_use (fun j l => wr (kid j) (lev + 1) l) (fun j => Fine (kid j)) (fun i l a b e => ih i (lev + 1) l a b e) n 0 (l - 1) (by omega) (by omega) h
        have d0 : ¬ (s < 1 ∨ 65536 < s) := fun c => by rw [al_share k s n c] at ha; omega
        have d1 : ¬ (k < 1 ∨ 4 < k) := fun c => by rw [al_kind k s n d0 c] at ha; omega
        have d2 : ¬ ((k = 4 ∧ n = 0) ∨ (k ≠ 4 ∧ 0 < n)) := fun c => by rw [al_many k s n d0 d1 c] at ha; omega
        exact ⟨⟨by omega, by omega, by omega, by omega, by omega, by omega, by omega, fun j hj => q1 j (by omega) (by omega)⟩, q2, by omega⟩
      · rw [wr_al k s n kid lev l c ha] at h; exact absurd h ha
end Go.Proofs.YtaohahahhjkcdaeGreatDoor.F.M
