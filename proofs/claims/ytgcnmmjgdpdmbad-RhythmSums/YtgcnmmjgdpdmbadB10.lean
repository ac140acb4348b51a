/- Plain facts on share: how many spans come, and that their lengths are as they must be. -/
import Derived.Test.YtgcnmmjgdpdmbadB8
namespace Go.Proofs.Ytgcnmmjgdpdmbad.F

def M.ckids (f : Nat → Nat) : Nat → Nat
  | 0 => 0
  | c + 1 => M.ckids f c + f c
/-- How many beats. -/
def M.cnt : M.Bt → Nat
  | ⟨true, _, _, _, _⟩ => 0
  | ⟨false, _, _, n, kid⟩ => 1 + M.ckids (fun j => M.cnt (kid j)) n

theorem M.skids_ok (kid : Nat → M.Bt) (n : Nat) (all : Int) (L : M.Fr) (hL : M.Ok L) (hall : 1 ≤ all)
    (ih : ∀ j, j < n → ∀ (a l : M.Fr) (out o : List M.Sp), M.Ok a → M.Ok l → M.OutOk out → M.sh (kid j) a l out = some o → M.OutOk o ∧ o.length ≤ out.length + M.cnt (kid j)) :
    ∀ (c i : Nat) (a : M.Fr) (out : List M.Sp) (e : M.Fr) (o : List M.Sp), i + c ≤ n → M.Ok a → M.OutOk out → M.skids (fun j a l o => M.sh (kid j) a l o) (fun j => (kid j).s) all L c i a out = some (e, o) → M.OutOk o ∧ o.length + M.ckids (fun j => M.cnt (kid j)) i ≤ out.length + M.ckids (fun j => M.cnt (kid j)) (i + c) := by
  intro c
  induction c with
  | zero =>
    intro i a out e o _ _ ho hs
    simp only [M.skids, Option.some.injEq, Prod.mk.injEq] at hs
    obtain ⟨_, rfl⟩ := hs
    exact ⟨ho, Nat.le_refl _⟩
  | succ c ihc =>
    intro i a out e o hn ha ho hs
    rw [M.skids] at hs
    obtain ⟨lg, h1, hs⟩ := Option.bind_eq_some_iff.1 hs
    obtain ⟨o2, h2, hs⟩ := Option.bind_eq_some_iff.1 hs
    obtain ⟨e2, h3, hs⟩ := Option.bind_eq_some_iff.1 hs
    have hlg : M.Ok lg := M.tell_ok h1 (M.mul_pos' _ _ hL.low.1.1 hall)
    have he2 : M.Ok e2 := M.tell_ok h3 (M.mul_pos' _ _ ha.low.1.1 hlg.low.1.1)
    obtain ⟨q1, q2⟩ := ih i (by omega) a lg out o2 ha hlg ho h2
    obtain ⟨r1, r2⟩ := ihc (i + 1) e2 o2 e o (by omega) he2 q1 hs
    refine ⟨r1, ?_⟩
    rw [show i + (c + 1) = i + 1 + c by omega]
    have : M.ckids (fun j => M.cnt (kid j)) (i + 1) = M.ckids (fun j => M.cnt (kid j)) i + M.cnt (kid i) := rfl
    omega
theorem M.sh_ok (b : M.Bt) : M.Fine b → ∀ (a L : M.Fr) (out o : List M.Sp), M.Ok a → M.Ok L → M.OutOk out → M.sh b a L out = some o → M.OutOk o ∧ o.length ≤ out.length + M.cnt b := by
  induction b using M.Bt.ind with
  | nil => intro h; exact False.elim h
  | mk k s n kid ih =>
    intro hF a L out o ha hL ho hs
    obtain ⟨_, _, _, h4, h5, _, _, hk⟩ := hF
    by_cases hk4 : k = 4
    · have hsm := M.sums_bd kid n hk
      have hn := h4 hk4
      rw [M.sh, if_pos hk4] at hs
      obtain ⟨x, hx, rfl⟩ := Option.map_eq_some_iff.1 hs
      obtain ⟨e, o⟩ := x
      obtain ⟨q1, q2⟩ := M.skids_ok kid n (M.sums kid n) L hL (by omega) (fun j hj a l out o h1 h2 h3 h4 => ih j (hk j hj) a l out o h1 h2 h3 h4) n 0 a out e o (by omega) ha ho hx
      refine ⟨q1, ?_⟩
      rw [Nat.zero_add] at q2
      have e0 : M.ckids (fun j => M.cnt (kid j)) 0 = 0 := rfl
      show o.length ≤ out.length + (1 + M.ckids (fun j => M.cnt (kid j)) n)
      omega
    · rw [M.sh, if_neg hk4] at hs
      obtain ⟨q1, q2⟩ := M.ad_ok ho hL hs
      refine ⟨q1, ?_⟩
      show o.length ≤ out.length + (1 + M.ckids (fun j => M.cnt (kid j)) n)
      omega

theorem M.wkids_cnt (kid : Nat → M.Bt) (lev : Int) (ih : ∀ (j : Nat) (l : Int), 0 ≤ l → l ≤ 4096 → (M.wr (kid j) (lev + 1) l).1 = 0 → (M.wr (kid j) (lev + 1) l).2 = l - (M.cnt (kid j) : Nat)) :
    ∀ (c i : Nat) (l : Int), 0 ≤ l → l ≤ 4096 → (M.wkids (fun j l => M.wr (kid j) (lev + 1) l) c i l).1 = 0 → (M.wkids (fun j l => M.wr (kid j) (lev + 1) l) c i l).2 + (M.ckids (fun j => M.cnt (kid j)) (i + c) : Nat) = l + (M.ckids (fun j => M.cnt (kid j)) i : Nat) := by
  intro c
  induction c with
  | zero => intro i l _ _ _; rfl
  | succ c ihc =>
    intro i l h0 h1 h
    rw [M.wkids] at h ⊢
    by_cases e : (M.wr (kid i) (lev + 1) l).1 = 0
    · rw [if_neg (by simpa using e)] at h ⊢
      have b := M.wr_bd (kid i) (lev + 1) l h0
      have q := ih i l h0 h1 e
      have r := ihc (i + 1) (M.wr (kid i) (lev + 1) l).2 b.1 (by omega) h
      rw [show i + (c + 1) = i + 1 + c by omega]
      have : M.ckids (fun j => M.cnt (kid j)) (i + 1) = M.ckids (fun j => M.cnt (kid j)) i + M.cnt (kid i) := rfl
      omega
    · rw [if_pos e] at h; exact absurd h e
theorem M.wr_cnt (b : M.Bt) : ∀ lev l : Int, 0 ≤ l → l ≤ 4096 → (M.wr b lev l).1 = 0 → (M.wr b lev l).2 = l - (M.cnt b : Nat) := by
  induction b using M.Bt.ind with
  | nil => intro lev l _ _ h; exact absurd h (show ¬ (4 : Int) = 0 by decide)
  | mk k s n kid ih =>
    intro lev l h0 h1 h
    by_cases c : 32 < lev ∨ l < 1
    · rw [M.wr_much _ _ _ c] at h; exact absurd h (show ¬ (4 : Int) = 0 by decide)
    · by_cases ha : M.al k s n = 0
      · rw [M.wr_kids k s n kid lev l c ha] at h ⊢
        have q := M.wkids_cnt kid lev (fun j l a b e => ih j (lev + 1) l a b e) n 0 (l - 1) (by omega) (by omega) h
        rw [Nat.zero_add] at q
        have e0 : M.ckids (fun j => M.cnt (kid j)) 0 = 0 := rfl
        have e1 : M.cnt (.mk k s n kid) = 1 + M.ckids (fun j => M.cnt (kid j)) n := rfl
        omega
      · rw [M.wr_al k s n kid lev l c ha] at h; exact absurd h ha
/-- A beat with nothing wrong has at most 4,096 beats. -/
theorem M.cnt_bd (b : M.Bt) (h : (M.wr b 1 4096).1 = 0) : M.cnt b ≤ 4096 ∧ M.Fine b := by
  have q := M.wr_cnt b 1 4096 (by omega) (by omega) h
  have r := M.wr_fine b 1 4096 (by omega) (by omega) h
  exact ⟨by omega, r.1⟩
end Go.Proofs.Ytgcnmmjgdpdmbad.F
