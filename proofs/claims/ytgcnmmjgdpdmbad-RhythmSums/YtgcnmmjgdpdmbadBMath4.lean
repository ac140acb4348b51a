/- The loops of share, Leaves and Spans, round by round, as plain facts. -/
import Derived.Test.YtgcnmmjgdpdmbadB10
namespace Go.Proofs.Ytgcnmmjgdpdmbad.F
set_option linter.unusedVariables false

/-- The kids' loop of share from kid i on. -/
def M.SK (kid : Nat → M.Bt) (all : Int) (L : M.Fr) (n i : Nat) (R : Option (M.Fr × List M.Sp)) (a : M.Fr) (out : List M.Sp) : Prop := R = M.skids (fun j a l o => M.sh (kid j) a l o) (fun j => (kid j).s) all L (n - i) i a out
theorem M.sk_start (kid : Nat → M.Bt) (all : Int) (L : M.Fr) (n : Nat) (a : M.Fr) (out : List M.Sp) : M.SK kid all L n 0 (M.skids (fun j a l o => M.sh (kid j) a l o) (fun j => (kid j).s) all L n 0 a out) a out := rfl
theorem M.sk_step (kid : Nat → M.Bt) (all : Int) (L : M.Fr) (n i : Nat) (R : Option (M.Fr × List M.Sp)) (a : M.Fr) (out : List M.Sp) (h : M.SK kid all L n i R a out) (hi : i < n) :
    (M.pr L (kid i).s all = none → R = none) ∧ (∀ lg, M.pr L (kid i).s all = some lg → (M.sh (kid i) a lg out = none → R = none) ∧ (∀ o, M.sh (kid i) a lg out = some o → (M.pl a lg = none → R = none) ∧ (∀ e, M.pl a lg = some e → M.SK kid all L n (i + 1) R e o))) := by
  unfold M.SK at *
  obtain ⟨c, hc⟩ : ∃ c, n - i = c + 1 := ⟨n - i - 1, by omega⟩
  have hc2 : n - (i + 1) = c := by omega
  rw [hc, M.skids] at h
  rw [hc2]
  refine ⟨fun e => by rw [h]; simp only [e]; rfl, fun lg e => ⟨fun e2 => by rw [h]; simp only [e, Option.bind_some, e2]; rfl, fun o e2 => ⟨fun e3 => by rw [h]; simp only [e, Option.bind_some, e2, e3]; rfl, fun x e3 => by rw [h]; simp only [e, Option.bind_some, e2, e3]⟩⟩⟩
theorem M.sk_end (kid : Nat → M.Bt) (all : Int) (L : M.Fr) (n : Nat) (R : Option (M.Fr × List M.Sp)) (a : M.Fr) (out : List M.Sp) (h : M.SK kid all L n n R a out) : R = some (a, out) := by
  unfold M.SK at h
  rw [h, Nat.sub_self]; rfl

/-- The kids' loop of Leaves from kid i on. -/
def M.LK (kid : Nat → M.Bt) (all : Int) (L : M.Fr) (n i : Nat) (R : Option (List (Int × M.Fr))) (out : List (Int × M.Fr)) : Prop := R = (M.lkids (fun j l => M.lvs (kid j) l) (fun j => (kid j).s) all L (n - i) i).bind fun r => some (out ++ r)
theorem M.lk_start (kid : Nat → M.Bt) (all : Int) (L : M.Fr) (n : Nat) : M.LK kid all L n 0 (M.lkids (fun j l => M.lvs (kid j) l) (fun j => (kid j).s) all L n 0) [] := by
  unfold M.LK
  cases M.lkids (fun j l => M.lvs (kid j) l) (fun j => (kid j).s) all L n 0 <;> rfl
theorem M.lk_step (kid : Nat → M.Bt) (all : Int) (L : M.Fr) (n i : Nat) (R : Option (List (Int × M.Fr))) (out : List (Int × M.Fr)) (h : M.LK kid all L n i R out) (hi : i < n) :
    (M.pr L (kid i).s all = none → R = none) ∧ (∀ lg, M.pr L (kid i).s all = some lg → (M.lvs (kid i) lg = none → R = none) ∧ (∀ l, M.lvs (kid i) lg = some l → M.LK kid all L n (i + 1) R (out ++ l))) := by
  unfold M.LK at *
  obtain ⟨c, hc⟩ : ∃ c, n - i = c + 1 := ⟨n - i - 1, by omega⟩
  have hc2 : n - (i + 1) = c := by omega
  rw [hc, M.lkids] at h
  rw [hc2]
  refine ⟨fun e => by rw [h]; simp only [e]; rfl, fun lg e => ⟨fun e2 => by rw [h]; simp only [e, Option.bind_some, e2]; rfl, fun l e2 => ?_⟩⟩
  rw [h]; simp only [e, Option.bind_some, e2]
  cases M.lkids (fun j l => M.lvs (kid j) l) (fun j => (kid j).s) all L c (i + 1) with
  | none => rfl
  | some r => simp
theorem M.lk_end (kid : Nat → M.Bt) (all : Int) (L : M.Fr) (n : Nat) (R : Option (List (Int × M.Fr))) (out : List (Int × M.Fr)) (h : M.LK kid all L n n R out) : R = some out := by
  unfold M.LK at h
  rw [h, Nat.sub_self]; simp [M.lkids]

/-- Leaves: at least one, at most as many as there are beats; their lengths are as they must be. -/
def M.LvOk (l : List (Int × M.Fr)) : Prop := ∀ x ∈ l, M.Ok x.2
theorem M.lkids_ok (kid : Nat → M.Bt) (n : Nat) (all : Int) (L : M.Fr) (hL : M.Ok L) (hall : 1 ≤ all)
    (ih : ∀ j, j < n → ∀ (l : M.Fr) (o : List (Int × M.Fr)), M.Ok l → M.lvs (kid j) l = some o → M.LvOk o ∧ 1 ≤ o.length ∧ o.length ≤ M.cnt (kid j)) :
    ∀ (c i : Nat) (o : List (Int × M.Fr)), i + c ≤ n → M.lkids (fun j l => M.lvs (kid j) l) (fun j => (kid j).s) all L c i = some o → M.LvOk o ∧ c ≤ o.length ∧ o.length + M.ckids (fun j => M.cnt (kid j)) i ≤ M.ckids (fun j => M.cnt (kid j)) (i + c) := by
  intro c
  induction c with
  | zero =>
    intro i o _ hs
    simp only [M.lkids, Option.some.injEq] at hs
    subst hs
    exact ⟨fun x hx => by simp at hx, by simp, by simp⟩
  | succ c ihc =>
    intro i o hn hs
    rw [M.lkids] at hs
    obtain ⟨lg, h1, hs⟩ := Option.bind_eq_some_iff.1 hs
    obtain ⟨l, h2, hs⟩ := Option.bind_eq_some_iff.1 hs
    obtain ⟨r, h3, hs⟩ := Option.bind_eq_some_iff.1 hs
    simp only [Option.some.injEq] at hs
    subst hs
    have hlg : M.Ok lg := M.tell_ok h1 (M.mul_pos' _ _ hL.low.1.1 hall)
    obtain ⟨q0, q1, q2⟩ := ih i (by omega) lg l hlg h2
    obtain ⟨r0, r1, r2⟩ := ihc (i + 1) r (by omega) h3
    refine ⟨fun x hx => ?_, by simp; omega, ?_⟩
    · rcases List.mem_append.1 hx with e | e
      · exact q0 x e
      · exact r0 x e
    · rw [show i + (c + 1) = i + 1 + c by omega]
      have : M.ckids (fun j => M.cnt (kid j)) (i + 1) = M.ckids (fun j => M.cnt (kid j)) i + M.cnt (kid i) := rfl
      simp only [List.length_append]
      omega
theorem M.lvs_ok (b : M.Bt) : M.Fine b → ∀ (L : M.Fr) (o : List (Int × M.Fr)), M.Ok L → M.lvs b L = some o → M.LvOk o ∧ 1 ≤ o.length ∧ o.length ≤ M.cnt b := by
  induction b using M.Bt.ind with
  | nil => intro h; exact False.elim h
  | mk k s n kid ih =>
    intro hF L o hL hs
    obtain ⟨_, _, _, h4, h5, _, _, hk⟩ := hF
    by_cases hk4 : k = 4
    · have hsm := M.sums_bd kid n hk
      have hn := h4 hk4
      rw [M.lvs, if_pos hk4] at hs
      obtain ⟨q0, q1, q2⟩ := M.lkids_ok kid n (M.sums kid n) L hL (by omega) (fun j hj l o h1 h2 => ih j (hk j hj) l o h1 h2) n 0 o (by omega) hs
      rw [Nat.zero_add] at q2
      have e0 : M.ckids (fun j => M.cnt (kid j)) 0 = 0 := rfl
      refine ⟨q0, by omega, ?_⟩
      show o.length ≤ 1 + M.ckids (fun j => M.cnt (kid j)) n
      omega
    · rw [M.lvs, if_neg hk4] at hs
      simp only [Option.some.injEq] at hs
      subst hs
      refine ⟨fun x hx => by simp at hx; rw [hx]; exact hL, by simp, ?_⟩
      show 1 ≤ 1 + M.ckids (fun j => M.cnt (kid j)) n
      omega

/-- The leaves' loop of Spans from leaf i on. -/
def M.FK (l : List (Int × M.Fr)) (i : Nat) (R : Option (M.Fr × List M.Sp)) (a : M.Fr) (out : List M.Sp) : Prop := R = M.fold (l.drop i) a out
theorem M.fk_start (l : List (Int × M.Fr)) (a : M.Fr) (out : List M.Sp) : M.FK l 0 (M.fold l a out) a out := rfl
theorem M.fk_step (l : List (Int × M.Fr)) (i : Nat) (R : Option (M.Fr × List M.Sp)) (a : M.Fr) (out : List M.Sp) (h : M.FK l i R a out) (x : Int × M.Fr) (hx : l[i]? = some x) :
    (M.pl a x.2 = none → R = none) ∧ (∀ e, M.pl a x.2 = some e → (M.ad out x.1 a x.2 = none → R = none) ∧ (∀ o, M.ad out x.1 a x.2 = some o → M.FK l (i + 1) R e o)) := by
  unfold M.FK at *
  obtain ⟨hi, rfl⟩ := List.getElem?_eq_some_iff.1 hx
  rw [List.drop_eq_getElem_cons hi, M.fold] at h
  refine ⟨fun e => by rw [h]; simp only [e]; rfl, fun e e1 => ⟨fun e2 => by rw [h]; simp only [e1, Option.bind_some, e2]; rfl, fun o e2 => by rw [h]; simp only [e1, Option.bind_some, e2]⟩⟩
theorem M.fk_end (l : List (Int × M.Fr)) (R : Option (M.Fr × List M.Sp)) (a : M.Fr) (out : List M.Sp) (h : M.FK l l.length R a out) : R = some (a, out) := by
  unfold M.FK at h
  rw [h, List.drop_length]; rfl
end Go.Proofs.Ytgcnmmjgdpdmbad.F
