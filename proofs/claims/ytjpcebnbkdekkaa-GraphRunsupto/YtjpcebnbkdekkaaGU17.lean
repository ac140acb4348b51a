/- Graph.play: all nodes make their next n numbers. -/
import Derived.Test.YtjpcebnbkdekkaaGU16
namespace Go.Proofs.Ytjpcebnbkdekkaa.Gh
open Go.RowKit Go.Maps Go.Sort Fl
set_option linter.unusedVariables false
set_option linter.unusedSimpArgs false

theorem NodeL.iface {w : World} {F O : Nat → Prop} {V : Hist} {T i : Nat} {d : Nd} {ev v : Value} (h : NodeL w F O V T i d ev v) : ∃ t u, v = .iface t u := by
  rcases h.four with ⟨fv, rfl⟩ | ⟨_, b, h, D, p, g, rfl, _⟩ | ⟨_, b, rfl, _⟩ | ⟨_, b, vb, rfl, _⟩
  all_goals exact ⟨_, _, rfl⟩
/-- A node of the order, at its turn. -/
theorem P1.cx {w0 w1 : World} {s : Sx} {g : Gr} {ord : List Nat} {F : Nat → Prop} {O : Nat → Nat → Prop} {V I : Hist} {n T m i B z : Nat} {len : Nat → Nat} {P : List (List Nat)} {f : Nat → Nat}
    (hS : Sg s F O B z) (hO : Ord g ord) (hW : Wf g) (hNl : s.N = g.nodes.length) (hL : s.L ≤ 512) (hn : n ≤ s.L) (hi : ord[m]? = some i)
    (hmr : MR w1 s.A s.mb s.N s.L (fun k => if k ∈ ord.take (m + 1) then n else len k)) (hF : Fi.FR w1 s.A (s.N * s.L) f) (hf6 : ∀ j, f j < 18446744073709551616) (hf : ∀ k ∈ ord.take m, ∀ j, j < n → ab (f (k * s.L + j)) = V k (T + j))
    (hP : Fi.PL w1 B s.io P) (hil : s.il = P.length) (hic : s.il ≤ s.ic) (hIn : ∀ (p : Nat) l, P[p]? = some l → s.t + n ≤ l.length ∧ ∀ j, j < n → I p (T + j) = ab (l.getD (s.t + j) 0)) (hPi : (P.length : Int) = g.ins)
    (hsol : ∀ i, i < g.nodes.length → ∀ t, V i t = sampD (nd g i) I V i t) (hdl : ∀ d ∈ g.nodes, d.kind = 6 → (s.L : Int) ≤ d.n) (hT : T + n ≤ 4611686018427387904) :
    Cx w1 s F (O i) B P n i T f (nd g i) I V := by
  have hiN : i < g.nodes.length := hO.lt i (List.mem_of_getElem? hi)
  have hmem : nd g i ∈ g.nodes := List.mem_of_getElem? (get_nd hiN)
  obtain ⟨d1, d2, d3, d4⟩ := hW.n _ hmem
  refine ⟨hS.mA, hS.FA, fun b hb => ⟨(hS.OA i b hb).1, (hS.OA i b hb).2.1, (hS.OA i b hb).2.2.1⟩, hF, hf6, by omega, by have := hW.N; omega, hL, hn, d1, fun k hk => ?_, fun hk => ?_, hP, hil, hic, fun j _ => hsol i hiN _, fun hk => ?_, hT⟩
  · have hk2 : k ∈ (nd g i).frm := by
      unfold now at hk
      split at hk
      · cases hk
      · exact hk
    have hkm := hO.dep m i hi k hk
    obtain ⟨e1, e2⟩ := d2 k hk2
    have hkN : k.toNat < s.N := by omega
    refine ⟨e1, hkN, fun e => not_ahead hO.nd hi (e ▸ hkm), ?_, fun j hj => hf _ hkm j hj⟩
    have := World.rowIs.cell hmr hkN
    rw [this]
    show some (mvl s.A s.N s.L (fun k => if k ∈ ord.take (m + 1) then n else len k) k.toNat) = _
    unfold mvl
    dsimp only
    rw [if_pos ((take_mem hi).2 (.inl hkm))]
  · obtain ⟨e1, e2⟩ := d3 hk
    have hp : (nd g i).n.toNat < P.length := by omega
    refine ⟨(nd g i).n.toNat, P[(nd g i).n.toNat], by omega, List.getElem?_eq_getElem hp, ?_⟩
    exact hIn _ _ (List.getElem?_eq_getElem hp)
  · have := hdl _ hmem hk
    omega
/-- All have played. -/
theorem P1.all {w0 ww : World} {s : Sx} {g : Gr} {ord : List Nat} {F : Nat → Prop} {O : Nat → Nat → Prop} {V : Hist} {n T : Nat} {len : Nat → Nat} {no : Option Addr} (h : P1 w0 s g ord F O V n T s.N len no ww) (hO : Ord g ord) (hN : s.N = g.nodes.length) : P2 w0 s g F O V n T 0 no ww := by
  have ht : ord.take s.N = ord := List.take_of_length_le (by rw [hO.len, hN]; exact Nat.le_refl _)
  have hm := h.mr; have hf := h.fr; have hr := h.nr
  rw [ht] at hm hf hr
  have hin : ∀ k, k < s.N → k ∈ ord := fun k hk => hO.all k (by omega)
  refine ⟨World.rowIs.congr hm (fun k hk => ?_), ?_, ⟨fun i d hd => ?_⟩, h.k⟩
  · show Value.slice (some ⟨s.A, k * s.L, none⟩) (if k ∈ ord then n else len k) ((s.N - k) * s.L) = _
    rw [if_pos (hin k hk)]
  · obtain ⟨f, f1, f2, f3⟩ := hf
    exact ⟨f, f1, f2, fun k hk => f3 k (hin k hk)⟩
  · obtain ⟨nb, ev, v, h1, h2, h3, h4⟩ := hr.at' i d hd
    refine ⟨nb, ev, v, h1, h2, h3, ?_⟩
    rw [if_pos (hin i (by rw [hN]; exact (List.getElem?_eq_some_iff.1 hd).1))] at h4
    show NodeL ww F (O i) V (if i < 0 then T + n else tp (nd g i) T n) i d ev v
    rw [if_neg (by omega)]
    exact h4
/-- One more has heard. -/
theorem P2.step {w0 w1 w2 : World} {s : Sx} {g : Gr} {F : Nat → Prop} {O : Nat → Nat → Prop} {V : Hist} {n T m B z nb : Nat} {no : Option Addr} {ev v : Value} {d : Nd} (h : P2 w0 s g F O V n T m no w1) (hS : Sg s F O B z) (hno : no = some ⟨nb, 0, none⟩) (hF : F nb) (hc : w1.cell? ⟨nb, m, none⟩ = some v) (hd : g.nodes[m]? = some d) (hN : NodeL w2 F (O m) V (T + n) m d ev v) (hk : Kx (O m) w1 w2) : P2 w0 s g F O V n T (m + 1) no w2 := by
  have hFk : ∀ b, F b → b < w1.heap.size → w2.heap[b]? = w1.heap[b]? := fun b hb hl => hk.block b hl (fun e => (hS.OA m b e).2.2.1 hb)
  refine ⟨World.rowIs.of_block h.mr (hk.block _ (World.rowIs.lt h.mr) (fun e => (hS.OA m _ e).2.1 rfl)), ?_, ⟨fun i d' hi => ?_⟩, h.k.trans (hk.mono (fun b _ q => .inr (.inr ⟨m, q⟩)))⟩
  · obtain ⟨f, f1, f2, f3⟩ := h.fr
    exact ⟨f, World.rowIs.of_block f1 (hk.block _ (World.rowIs.lt f1) (fun e => (hS.OA m _ e).1 rfl)), f2, f3⟩
  · obtain ⟨nb', ev', v', h1, h2, h3, h4⟩ := h.nr.at' i d' hi
    by_cases e : i = m
    · subst e
      rw [hno] at h1
      cases h1
      rw [hd] at hi
      cases hi
      refine ⟨nb, ev, v, hno, hF, (World.cell?_of_block (w := w1) (w' := w2) (a := ⟨nb, i, none⟩) (hFk nb hF (lt_cell hc))).trans hc, ?_⟩
      show NodeL w2 F (O i) V (if i < i + 1 then T + n else _) i d ev v
      rw [if_pos (by omega)]
      exact hN
    · refine ⟨nb', ev', v', h1, h2, (World.cell?_of_block (w := w1) (w' := w2) (a := ⟨nb', i, none⟩) (hFk nb' h2 (lt_cell h3))).trans h3, ?_⟩
      show NodeL w2 F (O i) V (if i < m + 1 then T + n else tp (nd g i) T n) i d' ev' v'
      have e2 : (if i < m + 1 then T + n else tp (nd g i) T n) = (if i < m then T + n else tp (nd g i) T n) := by
        by_cases c : i < m
        · rw [if_pos c, if_pos (by omega)]
        · rw [if_neg c, if_neg (by omega)]
      rw [e2]
      exact h4.keep (fun b hb hl => hb.elim (fun q => hFk b q hl) (fun q => hk.block b hl (fun q2 => e (hS.OO i m b q q2)))) hk.size (fun _ h => h)
set_option maxRecDepth 8000 in
set_option maxHeartbeats 8000000 in
theorem play_any (hC : Vo.CirC) (s : Sx) (g : Gr) (ord : List Nat) (F : Nat → Prop) (O : Nat → Nat → Prop) (V I : Hist) (n T B x : Nat) (len : Nat → Nat) (P : List (List Nat)) (no oo uo : Option Addr) (nc oc uc : Nat) (w : World)
    (hX : XL w F x g ord no oo uo nc oc uc) (hO : Ord g ord) (hW : Wf g) (hNl : s.N = g.nodes.length) (hS : Sg s F O B w.heap.size) (hmr : MR w s.A s.mb s.N s.L len) (hfr : ∃ f, Fi.FR w s.A (s.N * s.L) f ∧ ∀ j, f j < 18446744073709551616) (hnr : NR w F O V (fun _ => T) g.nodes no)
    (hP : Fi.PL w B s.io P) (hil : s.il = P.length) (hic : s.il ≤ s.ic) (hB : B ≤ w.heap.size) (hIn : ∀ (p : Nat) l, P[p]? = some l → s.t + n ≤ l.length ∧ ∀ j, j < n → I p (T + j) = ab (l.getD (s.t + j) 0)) (hPi : (P.length : Int) = g.ins)
    (hsol : ∀ i, i < g.nodes.length → ∀ t, V i t = sampD (nd g i) I V i t) (hdl : ∀ d ∈ g.nodes, d.kind = 6 → (s.L : Int) ≤ d.n) (hL : s.L ≤ 512) (hn : n ≤ s.L) (hT : T + n ≤ 4611686018427387904) :
    Calls Try.prog 29 #[.pointer (some ⟨x, 0, none⟩), sv s, .int .i64 n] w fun e w' => e = .returned (.tuple #[]) ∧ P2 w s g F O V n T s.N no w' := by
  have HB : Hid (Below w.heap.size w (w.alloc (Obj.cells #[.slice s.io s.il s.ic, .int .i64 s.t, .slice (some ⟨s.mb, 0, none⟩) s.N s.N] 82))) := (sbox s w).1
  have hzB : (w.alloc (Obj.cells #[.slice s.io s.il s.ic, .int .i64 s.t, .slice (some ⟨s.mb, 0, none⟩) s.N s.N] 82)).heap.size = w.heap.size + 1 := by simp
  have b0 : (w.alloc (Obj.cells #[.slice s.io s.il s.ic, .int .i64 s.t, .slice (some ⟨s.mb, 0, none⟩) s.N s.N] 82)).cell? ⟨w.heap.size, 0, none⟩ = some (.slice s.io s.il s.ic) := by simp [go_sem]
  have b1 : (w.alloc (Obj.cells #[.slice s.io s.il s.ic, .int .i64 s.t, .slice (some ⟨s.mb, 0, none⟩) s.N s.N] 82)).cell? ⟨w.heap.size, 1, none⟩ = some (.int .i64 s.t) := by simp [go_sem]
  have b2 : (w.alloc (Obj.cells #[.slice s.io s.il s.ic, .int .i64 s.t, .slice (some ⟨s.mb, 0, none⟩) s.N s.N] 82)).cell? ⟨w.heap.size, 2, none⟩ = some (.slice (some ⟨s.mb, 0, none⟩) s.N s.N) := by simp [go_sem]
  have HX : Hid (XL (w.alloc (Obj.cells #[.slice s.io s.il s.ic, .int .i64 s.t, .slice (some ⟨s.mb, 0, none⟩) s.N s.N] 82)) F x g ord no oo uo nc oc uc) := hX.keep (fun b _ hl => HB.out.block b hl) HB.out.size
  have HP1 : Hid (P1 (w.alloc (Obj.cells #[.slice s.io s.il s.ic, .int .i64 s.t, .slice (some ⟨s.mb, 0, none⟩) s.N s.N] 82)) s g ord F O V n T 0 len no (w.alloc (Obj.cells #[.slice s.io s.il s.ic, .int .i64 s.t, .slice (some ⟨s.mb, 0, none⟩) s.N s.N] 82))) := by
    obtain ⟨f, f1, f2⟩ := hfr
    refine ⟨World.rowIs.congr (World.rowIs.alloc hmr _) (fun k _ => ?_), ⟨f, World.rowIs.alloc f1 _, f2, fun k hk => by simp at hk⟩, ⟨fun i d hd => ?_⟩, Kx.refl _ _⟩
    · unfold mvl
      dsimp only
      rw [if_neg (by simp)]
    · obtain ⟨nb, ev, v, h1, h2, h3, h4⟩ := (hnr.bel HB.out).at' i d hd
      refine ⟨nb, ev, v, h1, h2, h3, ?_⟩
      show NodeL _ F (O i) V (if i ∈ ord.take 0 then tp (nd g i) T n else T) i d ev v
      rw [if_neg (by simp)]
      exact h4
  have HPl : Hid (Fi.PL (w.alloc (Obj.cells #[.slice s.io s.il s.ic, .int .i64 s.t, .slice (some ⟨s.mb, 0, none⟩) s.N s.N] 82)) B s.io P) := hP.keep hB (fun b hbb => HB.out.block b (by omega)) HB.out.size
  have HS : Hid (Sg s F O B w.heap.size) := hS
  have Hst : Hid (Ord g ord ∧ Wf g ∧ s.il = P.length ∧ s.il ≤ s.ic ∧ (∀ (p : Nat) l, P[p]? = some l → s.t + n ≤ l.length ∧ ∀ j, j < n → I p (T + j) = ab (l.getD (s.t + j) 0)) ∧ (P.length : Int) = g.ins ∧ (∀ i, i < g.nodes.length → ∀ t, V i t = sampD (nd g i) I V i t) ∧ (∀ d ∈ g.nodes, d.kind = 6 → (s.L : Int) ≤ d.n)) := ⟨hO, hW, hil, hic, hIn, hPi, hsol, hdl⟩
  have HNl : Hid (s.N = g.nodes.length) := hNl
  have hN256 : s.N ≤ 256 := by have := hW.N; omega
  have hnM : ¬ Mx s O w.heap.size := fun q => by
    rcases q with q | q | ⟨i, q⟩
    · have := hS.Az; omega
    · have := hS.mz; omega
    · have := (hS.OA i _ q).2.2.2.1; omega
  have hxM : ∀ b, F b → ¬ Mx s O b := fun b hb q => by
    rcases q with q | q | ⟨i, q⟩
    · exact (hS.FA b hb).1 q
    · exact (hS.FA b hb).2 q
    · exact (hS.OA i _ q).2.2.1 hb
  have HxM : Hid (∀ b, F b → ¬ Mx s O b) := hxM
  have c1 := HX.out.c1
  have c2 := HX.out.c2
  have lx := lt_cell c1
  have hFx := HX.out.fx
  have hl1 := HX.out.l1
  have hl2 := HX.out.l2
  have hm2 := HX.out.m2
  have hol : ord.length = s.N := by rw [hNl]; exact hO.len
  have Hol : Hid (ord.length = s.N) := hol
  rw [hol] at c2 hl2
  rw [← hNl] at c1 hl1
  clear hX hO hW hS hmr hfr hnr hP hil hic hIn hPi hsol hdl hNl hol hxM
  go_enter Try.func29, Try.ntmps29
  go_wp2_with fail
  generalize (w.alloc (Obj.cells #[.slice s.io s.il s.ic, .int .i64 s.t, .slice (some ⟨s.mb, 0, none⟩) s.N s.N] 82)) = W1 at *
  go_loopw [15] (fun i ww => ∃ k : Nat, k ≤ s.N ∧ i = .int .i64 k ∧ Hid (P1 W1 s g ord F O V n T k len no ww)) (fun i _ => s.N - (intOf i).toNat)
  case atStart => exact ⟨0, by omega, rfl, HP1⟩
  case round =>
    obtain ⟨m, hm, rfl, hW⟩ := hrel
    by_cases hlt : m < s.N
    · obtain ⟨i, hi⟩ : ∃ i, ord[m]? = some i := ⟨_, List.getElem?_eq_getElem (by rw [Hol.out]; exact hlt)⟩
      have hiN : i < s.N := by rw [HNl.out]; exact Hst.out.1.lt i (List.mem_of_getElem? hi)
      have hK := hW.out.k
      obtain ⟨ob, oof, rfl, ho1, ho2, ho3⟩ := HX.out.zo.at' (by rw [List.length_map, Hol.out]; omega)
      have ho4 := hK.cell ho1 (HxM.out ob ho2) (ho3 m i (by rw [List.getElem?_map, hi]; rfl))
      have lob := lt_cell ho4
      have e2 := hK.cell (show w.heap.size < W1.heap.size by omega) hnM b2
      have lbx := lt_cell e2
      have y1 := World.rowIs.cell hW.out.mr hiN
      have y2 := World.rowIs.frozen hW.out.mr i
      have lmb := World.rowIs.lt hW.out.mr
      have hni := not_ahead Hst.out.1.nd hi
      unfold mvl at y1
      dsimp only at y1
      rw [if_neg hni] at y1
      obtain ⟨q, hq⟩ : ∃ q, q = i * s.L := ⟨_, rfl⟩
      obtain ⟨cp, hcp⟩ : ∃ cp, cp = (s.N - i) * s.L := ⟨_, rfl⟩
      have hncp : n ≤ cp := by rw [hcp]; exact seg_cap hiN hn
      rw [← hq, ← hcp] at y1
      have Hq : Hid (q = i * s.L ∧ cp = (s.N - i) * s.L) := ⟨hq, hcp⟩
      have s1 := run_upto (some ⟨s.A, q, none⟩) (len i) cp n hncp
      have hlt' : (m : Int) < (s.N : Int) := by omega
      have hiN' : (i : Int) < (s.N : Int) := by omega
      have w3 : IntKind.i64.wrap ((m : Int) + 1) = (m : Int) + 1 := wid (by omega) (by omega)
      have Hi : Hid (ord[m]? = some i) := hi
      clear hq hcp hi hni ho3
      go_wp2_with fail
      go_region
      obtain ⟨W3, hW3⟩ : ∃ X, X = (wr.setCell ⟨s.mb, i, none⟩ (.slice (some ⟨s.A, q, none⟩) n cp)).drew := ⟨_, rfl⟩
      rw [← hW3]
      have hK3 : Kx (· = s.mb) wr W3 := by rw [hW3]; exact (Kx.put (M := (· = s.mb)) rfl).trans ⟨rfl, rfl, rfl, Nat.le_refl _, fun _ _ _ => rfl⟩
      have hFm : ∀ b, F b → ¬ b = s.mb := fun b hb => (HS.out.FA b hb).2
      have hKW : Kx (Mx s O) W1 W3 := hK.trans (hK3.mono (fun _ _ e => .inr (.inl e)))
      have HMR : Hid (MR W3 s.A s.mb s.N s.L (fun k => if k ∈ ord.take (m + 1) then n else len k)) := by
        have h1 := World.rowIs.set hW.out.mr i (.slice (some ⟨s.A, q, none⟩) n cp)
        rw [hW3]
        refine World.rowIs.congr (World.rowIs.drew h1) (fun k _ => ?_)
        by_cases e : k = i
        · subst e
          rw [if_pos rfl, Hq.out.1, Hq.out.2]
          show Value.slice (some ⟨s.A, k * s.L, none⟩) n ((s.N - k) * s.L) = Value.slice (some ⟨s.A, k * s.L, none⟩) (if k ∈ ord.take (m + 1) then n else len k) ((s.N - k) * s.L)
          rw [if_pos ((take_mem Hi.out).2 (.inr rfl))]
        · rw [if_neg e]
          show Value.slice (some ⟨s.A, k * s.L, none⟩) (if k ∈ ord.take m then n else len k) ((s.N - k) * s.L) = Value.slice (some ⟨s.A, k * s.L, none⟩) (if k ∈ ord.take (m + 1) then n else len k) ((s.N - k) * s.L)
          congr 1
          by_cases c : k ∈ ord.take m
          · rw [if_pos c, if_pos ((take_mem Hi.out).2 (.inl c))]
          · rw [if_neg c, if_neg (fun q => ((take_mem Hi.out).1 q).elim c e)]
      obtain ⟨f, f1, f2, f3⟩ := hW.out.fr
      have HFR : Hid (Fi.FR W3 s.A (s.N * s.L) f ∧ (∀ j, f j < 18446744073709551616) ∧ ∀ k ∈ ord.take m, ∀ j, j < n → ab (f (k * s.L + j)) = V k (T + j)) := ⟨World.rowIs.of_block f1 (hK3.block _ (World.rowIs.lt f1) (fun e => HS.out.mA e.symm)), f2, f3⟩
      have HNR : Hid (NR W3 F O V (fun i => if i ∈ ord.take m then tp (nd g i) T n else T) g.nodes no) := hW.out.nr.keep (fun b hb hl => hK3.block b hl (hb.elim (fun q => hFm b q) (fun ⟨j, q⟩ => (HS.out.OA j b q).2.1))) hK3.size
      have HPl3 : Hid (Fi.PL W3 B s.io P) := HPl.out.keep (by have := HS.out.BA; have := HS.out.Az; omega) (fun b hbb => hKW.block b (by have := HS.out.BA; have := HS.out.Az; omega) (fun q => by
        rcases q with q | q | ⟨j, q⟩
        · have := HS.out.BA; omega
        · have := HS.out.Bm; omega
        · have := (HS.out.OA j b q).2.2.2.2; omega)) hKW.size
      obtain ⟨nb, ev, v, hno, hFn, hcn, hNl⟩ := HNR.out.at' i (nd g i) (get_nd (by rw [← HNl.out]; exact hiN))
      obtain ⟨t, u, rfl⟩ := hNl.iface
      subst hno
      rw [if_neg (not_ahead Hst.out.1.nd Hi.out)] at hNl
      have HNl3 : Hid (NodeL W3 F (O i) V T i (nd g i) ev (.iface t u)) := hNl
      have z0 := hKW.cell (show w.heap.size < W1.heap.size by omega) hnM b0
      have z1 := hKW.cell (show w.heap.size < W1.heap.size by omega) hnM b1
      have z2 := hKW.cell (show w.heap.size < W1.heap.size by omega) hnM b2
      have z3 := hKW.cell lx (HxM.out x hFx) c1
      have z4 : W3.cell? ⟨s.mb, i, none⟩ = some (.slice (some ⟨s.A, q, none⟩) n cp) := by rw [hW3]; exact World.cell?_setCell_same _ _ _ y1
      have lz := lt_cell z0
      have lz3 := lt_cell z3
      have lz4 := lt_cell z4
      have lz5 := lt_cell hcn
      have HKW : Hid (Kx (Mx s O) W1 W3) := hKW
      clear hW hK hK3 hKW e2 ho4 y1 y2 f1 f2 f3 hNl hW3 hFm lmb lbx lob
      go_wp2_with fail
      refine U2.wp_region_tail_read 15 (by decide) (by kernel_rfl) (by kernel_rfl) (by kernel_rfl) (by kernel_rfl) ?_
      dsimp only [List.take, List.drop]
      repeat (quiet_step (fail))
      refine wpQuiet_nil ?_
      rintro w2 ⟨nq, rfl⟩
      have hbD : Below W3.heap.size W3 (W3.drewN nq) := belD'
      have hMR4 : MR (W3.drewN nq) s.A s.mb s.N s.L (fun k => if k ∈ ord.take (m + 1) then n else len k) := HMR.out
      have hPL4 : Fi.PL (W3.drewN nq) B s.io P := HPl3.out.keep (by have := HS.out.BA; have := World.rowIs.lt HFR.out.1; omega) (fun b hbb => rfl) (Nat.le_refl _)
      obtain ⟨o1, o2, o3, o4, o5, o6, o7, o8⟩ := Hst.out
      have hcx := P1.cx (w0 := W1) (I := I) (P := P) HS.out o1 o2 HNl.out hL hn Hi.out hMR4 (show Fi.FR (W3.drewN nq) s.A (s.N * s.L) f from HFR.out.1) HFR.out.2.1 HFR.out.2.2 hPL4 o3 o4 o5 o6 o7 o8 hT
      have hpl := nplay_any hC s F (O i) B P n i T f (nd g i) I V ev (.iface t u) (W3.drewN nq) (HNl3.out.bel hbD) hcx (by have := HS.out.BA; have := World.rowIs.lt HFR.out.1; show B ≤ W3.heap.size; omega)
      have HF : Hid (∀ w', Pq (W3.drewN nq) s.A (s.N * s.L) (i * s.L) n f (fun j => V i (T + j)) (O i) w' ∧ NodeL w' F (O i) V (tp (nd g i) T n) i (nd g i) ev (.iface t u) → P1 W1 s g ord F O V n T (m + 1) len (some ⟨nb, 0, none⟩) w') := fun w' hq => P1.step (ww := W1) HS.out Hi.out o1.nd hiN hMR4 HFR.out.2.2 hn (HNR.out.bel hbD) (HKW.out.trans (Kx.bel hbD)) hq.1 rfl (Fi.keepC hbD lz5 hcn) hFn hq.2
      rw [← Hq.out.1, ← Hq.out.2] at hpl
      rcases hpl with ⟨ev', fv, hv, hcall⟩ | ⟨b, hv, hcall⟩ | ⟨ev', b, hv, hcall⟩ | ⟨b, hv, hcall⟩
      all_goals
        cases hv
        clear hcx hMR4 hPL4 o1 o2 o3 o4 o5 o6 o7 o8 z0 z1 z2 z3 z4 hcn hbD lz lz3 lz4 lz5
        go_wp2_with fail
        refine hcall.mono ?_
        rintro e w4 ⟨rfl, hq4⟩
        have HP4 : Hid (P1 W1 s g ord F O V n T (m + 1) len (some ⟨nb, 0, none⟩) w4) := HF.out w4 (by first | exact hq4 | (rw [← Hq.out.1]; exact hq4))
        clear hq4 HF hcall
        go_wp2_with fail
        exact ⟨⟨m + 1, by omega, by go_num, HP4⟩, by simp [intOf]; omega⟩
    · obtain rfl : m = s.N := by omega
      have HP0 : Hid (P2 W1 s g F O V n T 0 no wr) := hW.out.all Hst.out.1 HNl.out
      obtain ⟨w2, hw2⟩ : ∃ x, x = wr := ⟨wr, rfl⟩
      subst hw2
      have c1' := HP0.out.k.cell lx (HxM.out x hFx) c1
      have lx' := lt_cell c1'
      clear hW HP1
      go_wp2_with fail
      go_loopw [52] (fun i ww => ∃ k : Nat, k ≤ s.N ∧ i = .int .i64 k ∧ Hid (P2 W1 s g F O V n T k no ww)) (fun i _ => s.N - (intOf i).toNat)
      case atStart => exact ⟨0, by omega, rfl, HP0⟩
      case round =>
        obtain ⟨k, hk, rfl, hW⟩ := hrel
        by_cases hlt2 : k < s.N
        · have hkn : k < g.nodes.length := by rw [← HNl.out]; exact hlt2
          obtain ⟨nb, ev, v, hno, hFn, hcn, hNl⟩ := hW.out.nr.at' k (nd g k) (get_nd hkn)
          subst hno
          rw [if_neg (by omega)] at hNl
          obtain ⟨f, f1, f2, f3⟩ := hW.out.fr
          obtain ⟨o1, o2, o3, o4, o5, o6, o7, o8⟩ := Hst.out
          have hmem : nd g k ∈ g.nodes := List.mem_of_getElem? (get_nd hkn)
          obtain ⟨d1, d2, d3, d4⟩ := o2.n _ hmem
          have hq := hlate_any s F (O k) n k T f (nd g k) V ev v wr hNl (fun b hb => (HS.out.FA b hb).1) (fun b hb => ⟨(HS.out.OA k b hb).1, (HS.out.OA k b hb).2.2.1⟩) f1 f2 d1 (fun j hj => ⟨(d2 j hj).1, by have := d2 j hj; have := HNl.out; omega⟩) hN256 hL hn (fun h6 => by have := o8 _ hmem h6; omega) (fun h6 => by
            have hm0 := mem_f0 (d := nd g k) (by rw [d1.1 (.inr (.inl h6))]; omega)
            have hlt0 : f0 (nd g k) < s.N := by
              have h1 := d2 _ hm0
              have h2 := HNl.out
              show ((nd g k).frm.getD 0 0).toNat < s.N
              omega
            exact ⟨World.rowIs.cell hW.out.mr hlt0, f3 _ hlt0⟩)
          have HF : Hid (∀ w', NodeL w' F (O k) V (T + n) k (nd g k) ev v → Kx (O k) wr w' → P2 W1 s g F O V n T (k + 1) (some ⟨nb, 0, none⟩) w') := fun w' h1 h2 => hW.out.step HS.out rfl hFn hcn (get_nd hkn) h1 h2
          have hK := hW.out.k
          have z0 := hK.cell (show w.heap.size < W1.heap.size by omega) hnM b0
          have z1 := hK.cell (show w.heap.size < W1.heap.size by omega) hnM b1
          have z2 := hK.cell (show w.heap.size < W1.heap.size by omega) hnM b2
          have lz := lt_cell z0
          have lz5 := lt_cell hcn
          have hlt' : (k : Int) < (s.N : Int) := by omega
          have w3 : IntKind.i64.wrap ((k : Int) + 1) = (k : Int) + 1 := wid (by omega) (by omega)
          clear hW hNl f1 f2 f3 o1 o2 o3 o4 o5 o6 o7 o8 d1 d2 d3 d4 hmem HP0 hK c1' lx'
          go_wp2_with fail
          refine hq.mono ?_
          rintro e w4 ⟨rfl, h1, h2⟩
          have HP4 : Hid (P2 W1 s g F O V n T (k + 1) (some ⟨nb, 0, none⟩) w4) := HF.out w4 h1 h2
          clear h1 h2 HF hq
          go_wp2_with fail
          exact ⟨⟨k + 1, by omega, by go_num, HP4⟩, by simp [intOf]; omega⟩
        · obtain rfl : k = s.N := by omega
          go_wp2_with fail
          go_end0
          exact ⟨rfl, hW.out.mr, hW.out.fr, hW.out.nr, (Kx.bel HB.out).trans hW.out.k⟩
end Go.Proofs.Ytjpcebnbkdekkaa.Gh

/- What below comes to; a graph in memory; Rest. -/
namespace Go.Proofs.Ytjpcebnbkdekkaa.Gh
open Go.RowKit Go.Maps Go.Sort Fl
set_option linter.unusedVariables false
set_option linter.unusedSimpArgs false

/-- All numbers are from 0 on below most. -/
def belB (most : Int) (l : List Int) : Bool := l.all (fun x => decide (0 ≤ x) && decide (x < most))
theorem belB_no {most : Int} {l : List Int} {k : Nat} {x : Int} (h : l[k]? = some x) (hx : x < 0 ∨ most ≤ x) : belB most l = false := by
  cases hc : belB most l with
  | false => rfl
  | true =>
    unfold belB at hc
    simp only [List.all_eq_true, Bool.and_eq_true, decide_eq_true_eq] at hc
    have := hc x (List.mem_of_getElem? h)
    omega
theorem belB_yes {most : Int} {l : List Int} (h : ∀ (k : Nat) x, l[k]? = some x → 0 ≤ x ∧ x < most) : belB most l = true := by
  unfold belB
  simp only [List.all_eq_true, Bool.and_eq_true, decide_eq_true_eq]
  intro x hx
  obtain ⟨j, hj, e⟩ := List.getElem_of_mem hx
  exact h j x (by rw [List.getElem?_eq_getElem hj, e])
theorem belB_is {most : Int} {l : List Int} (h : belB most l = true) : ∀ x ∈ l, 0 ≤ x ∧ x < most := by
  unfold belB at h
  simpa only [List.all_eq_true, Bool.and_eq_true, decide_eq_true_eq] using h
theorem belB_one (most x : Int) : belB most [x] = (decide (0 ≤ x) && decide (x < most)) := by unfold belB; simp
set_option maxHeartbeats 2000000 in
theorem below_any (most : Int) (l : List Int) (S : Nat → Prop) (ao : Option Addr) (m c : Nat) (w : World) (hL : ZL w S ao l) (hm : l.length = m) (hc : m ≤ c) (hcm : c ≤ 9223372036854775807) :
    Calls Try.prog 21 #[.int .i64 most, .slice ao m c] w fun e w' => e = .returned (.bool (belB most l)) ∧ w' = w := by
  have HL : Hid (ZL w S ao l) := hL
  have Hm : Hid (l.length = m) := hm
  have HR : Hid (∀ v, belB most l = v → Ending.returned (.bool v) = .returned (.bool (belB most l))) := fun v h => by rw [h]
  have HN : Hid (∀ (k : Nat) x, l[k]? = some x → (x < 0 ∨ most ≤ x) → belB most l = false) := fun k x h hx => belB_no h hx
  have HY : Hid ((∀ (k : Nat) x, l[k]? = some x → 0 ≤ x ∧ x < most) → belB most l = true) := fun h => belB_yes h
  clear hL hm
  generalize belB most l = BB at *
  go_enter Try.func21, Try.ntmps21
  go_wp2_with fail
  go_loopw [9] (fun i ww => ∃ k : Nat, k ≤ m ∧ i = .int .i64 k ∧ ww = w ∧ Hid (∀ (j : Nat) x, j < k → l[j]? = some x → 0 ≤ x ∧ x < most)) (fun i _ => m - (intOf i).toNat)
  case atStart => exact ⟨0, by omega, rfl, rfl, fun j x hj => absurd hj (by omega)⟩
  case round =>
    obtain ⟨k, hk, rfl, hw, hA⟩ := hrel
    subst hw
    by_cases hlt : k < m
    · obtain ⟨x, hx⟩ : ∃ x, l[k]? = some x := ⟨_, List.getElem?_eq_getElem (by rw [Hm.out]; exact hlt)⟩
      obtain ⟨b, off, rfl, h1, h2, h3⟩ := HL.out.at' (by rw [Hm.out]; omega)
      have h4 := h3 k x hx
      have hlt' : (k : Int) < (m : Int) := by omega
      have w3 : IntKind.i64.wrap ((k : Int) + 1) = (k : Int) + 1 := wid (by omega) (by omega)
      have HN2 : Hid ((x < 0 ∨ most ≤ x) → BB = false) := HN.out k x hx
      have HA2 : Hid (0 ≤ x ∧ x < most → ∀ (j : Nat) x, j < k + 1 → l[j]? = some x → 0 ≤ x ∧ x < most) := fun h j x' hj hx' => by
        by_cases e : j = k
        · subst e; rw [hx] at hx'; cases hx'; exact h
        · exact hA.out j x' (by omega) hx'
      clear h3 hx hA HN HY
      by_cases c1 : x < 0
      · have hF := HN2.out (.inl c1)
        clear HN2 HA2
        go_wp2_with fail
        go_ret
        first | exact ⟨HR.out _ hF, rfl⟩ | exact ⟨rfl, rfl⟩
      · by_cases c2 : most ≤ x
        · have hF := HN2.out (.inr c2)
          clear HN2 HA2
          go_wp2_with fail
          go_ret
          first | exact ⟨HR.out _ hF, rfl⟩ | exact ⟨rfl, rfl⟩
        · have HA3 : Hid (∀ (j : Nat) x, j < k + 1 → l[j]? = some x → 0 ≤ x ∧ x < most) := HA2.out (by omega)
          clear HN2 HA2
          go_wp2_with fail
          exact ⟨⟨k + 1, by omega, by go_num, (by first | exact rfl | trivial), HA3⟩, by simp [intOf]; omega⟩
    · obtain rfl : k = m := by omega
      have hF := HY.out (fun j x hx => hA.out j x (by have := (List.getElem?_eq_some_iff.1 hx).1; have := Hm.out; omega) hx)
      clear HY HN
      go_wp2_with fail
      go_ret
      first | exact ⟨HR.out _ hF, rfl⟩ | exact ⟨rfl, rfl⟩
/-- A graph in memory that made T samples. -/
structure GS (w : World) (x : Nat) (g : Gr) (F : Nat → Prop) (O : Nat → Nat → Prop) (V : Hist) (T B : Nat) : Prop where
  ex : ∃ ord no oo uo nc oc uc, XL w F x g ord no oo uo nc oc uc ∧ Ord g ord ∧ NR w F O V (fun _ => T) g.nodes no
  O1 : ∀ i b, O i b → ¬ F b ∧ b < w.heap.size ∧ B ≤ b
  OO : ∀ i j b, O i b → O j b → i = j
  F1 : ∀ b, F b → b < w.heap.size ∧ B ≤ b
  b : T ≤ 4611686018427387904
theorem GS.keep {w w' : World} {x : Nat} {g : Gr} {F : Nat → Prop} {O : Nat → Nat → Prop} {V : Hist} {T B : Nat} (h : GS w x g F O V T B) (hk : ∀ b, (F b ∨ ∃ i, O i b) → b < w.heap.size → w'.heap[b]? = w.heap[b]?) (hz : w.heap.size ≤ w'.heap.size) : GS w' x g F O V T B := by
  obtain ⟨ord, no, oo, uo, nc, oc, uc, h1, h2, h3⟩ := h.ex
  exact ⟨⟨ord, no, oo, uo, nc, oc, uc, h1.keep (fun b hb hl => hk b (.inl hb) hl) hz, h2, h3.keep hk hz⟩, fun i b hb => ⟨(h.O1 i b hb).1, by have := (h.O1 i b hb).2.1; omega, (h.O1 i b hb).2.2⟩, h.OO, fun b hb => ⟨by have := (h.F1 b hb).1; omega, (h.F1 b hb).2⟩, h.b⟩
theorem GS.bel {w w' : World} {x : Nat} {g : Gr} {F : Nat → Prop} {O : Nat → Nat → Prop} {V : Hist} {T B : Nat} (h : GS w x g F O V T B) (hb : Below w.heap.size w w') : GS w' x g F O V T B := h.keep (fun b _ hl => hb.block b hl) hb.size
/-- While nodes come to rest. -/
structure R1 (w0 : World) (g : Gr) (F : Nat → Prop) (O O' : Nat → Nat → Prop) (V : Hist) (T m : Nat) (no : Option Addr) (ww : World) : Prop where
  up : ∀ i b, O i b → O' i b
  dn : ∀ i b, O' i b → O i b ∨ (w0.heap.size ≤ b ∧ b < ww.heap.size)
  OO : ∀ i j b, O' i b → O' j b → i = j
  nr : ∀ i d, g.nodes[i]? = some d → ∃ nb ev v, no = some ⟨nb, 0, none⟩ ∧ F nb ∧ ww.cell? ⟨nb, i, none⟩ = some v ∧ (i < m → ∀ V', NodeL ww F (O' i) V' 0 i d ev v) ∧ (m ≤ i → NodeL ww F (O i) V T i d ev v ∧ ∀ b, O' i b → O i b)
  k : Kx (fun b => ∃ i, O i b) w0 ww
theorem R1.step {w0 w1 w2 : World} {g : Gr} {F : Nat → Prop} {O O' : Nat → Nat → Prop} {V : Hist} {T m nb : Nat} {no : Option Addr} {ev v : Value} {d : Nd} (h : R1 w0 g F O O' V T m no w1) (hF0 : ∀ b, F b → b < w0.heap.size) (hO0 : ∀ i b, O i b → ¬ F b ∧ b < w0.heap.size) (hno : no = some ⟨nb, 0, none⟩) (hFn : F nb) (hc : w1.cell? ⟨nb, m, none⟩ = some v) (hd : g.nodes[m]? = some d) (hq : FgQ w1 F (O m) m d ev v w2) : ∃ O'', R1 w0 g F O O'' V T (m + 1) no w2 := by
  obtain ⟨Om, q1, q2, q3⟩ := hq.ex
  have hz := hq.k.size
  have hz0 := h.k.size
  have hFk : ∀ b, F b → b < w1.heap.size → w2.heap[b]? = w1.heap[b]? := fun b hb hl => hq.k.block b hl (fun e => (hO0 m b e).1 hb)
  have hOO : ∀ i j b, O i b → O j b → i = j := fun i j b h1 h2 => h.OO i j b (h.up i b h1) (h.up j b h2)
  refine ⟨fun i b => if i = m then Om b else O' i b, fun i b hb => ?_, fun i b hb => ?_, fun i j b hi hj => ?_, fun i d' hi => ?_, h.k.trans (hq.k.mono (fun b _ q => ⟨m, q⟩))⟩
  · by_cases e : i = m
    · simp only [if_pos e]; exact q1 b (e ▸ hb)
    · simp only [if_neg e]; exact h.up i b hb
  · by_cases e : i = m
    · simp only [if_pos e] at hb
      rcases q2 b hb with q | q
      · exact .inl (e ▸ q)
      · exact .inr (by omega)
    · simp only [if_neg e] at hb
      rcases h.dn i b hb with q | q
      · exact .inl q
      · exact .inr (by omega)
  · have key : ∀ i, i ≠ m → O' i b → Om b → False := fun i e h1 h2 => by
      rcases q2 b h2 with q | q
      · exact e (h.OO i m b h1 (h.up m b q))
      · rcases h.dn i b h1 with q' | q'
        · have := (hO0 i b q').2; omega
        · omega
    by_cases ei : i = m
    · by_cases ej : j = m
      · omega
      · simp only [if_pos ei] at hi
        simp only [if_neg ej] at hj
        exact (key j ej hj hi).elim
    · by_cases ej : j = m
      · simp only [if_neg ei] at hi
        simp only [if_pos ej] at hj
        exact (key i ei hi hj).elim
      · simp only [if_neg ei] at hi
        simp only [if_neg ej] at hj
        exact h.OO i j b hi hj
  · obtain ⟨nb', ev', v', h1, h2, h3, h4, h5⟩ := h.nr i d' hi
    by_cases e : i = m
    · subst e
      rw [hno] at h1
      cases h1
      rw [hd] at hi
      cases hi
      refine ⟨nb, ev, v, hno, hFn, (World.cell?_of_block (w := w1) (w' := w2) (a := ⟨nb, i, none⟩) (hFk nb hFn (lt_cell hc))).trans hc, fun _ V' => ?_, fun hh => by omega⟩
      have := q3 V'
      simp only [if_pos]
      exact this
    · have hkb : ∀ b, F b ∨ O' i b → b < w1.heap.size → w2.heap[b]? = w1.heap[b]? := fun b hb hl => hb.elim (fun q => hFk b q hl) (fun q => hq.k.block b hl (fun q2 => e (h.OO i m b q (h.up m b q2))))
      refine ⟨nb', ev', v', h1, h2, (World.cell?_of_block (w := w1) (w' := w2) (a := ⟨nb', i, none⟩) (hFk nb' h2 (lt_cell h3))).trans h3, fun hh V' => ?_, fun hh => ?_⟩
      · simp only [if_neg e]
        exact (h4 (by omega) V').keep hkb hz (fun _ h => h)
      · obtain ⟨a1, a2⟩ := h5 (by omega)
        simp only [if_neg e]
        exact ⟨a1.keep (fun b hb hl => hkb b (hb.imp id (fun q => h.up i b q)) hl) hz (fun _ h => h), a2⟩
/-- What Rest leaves. -/
structure RsQ (w : World) (x : Nat) (g : Gr) (F : Nat → Prop) (O : Nat → Nat → Prop) (B : Nat) (w' : World) : Prop where
  ex : ∃ O' : Nat → Nat → Prop, (∀ i b, O' i b → O i b ∨ (w.heap.size ≤ b ∧ b < w'.heap.size)) ∧ ∀ V', GS w' x g F O' V' 0 B
  k : Kx (fun b => ∃ i, O i b) w w'
set_option maxHeartbeats 2000000 in
theorem Rest_any (hC : Vo.CirC) (x : Nat) (g : Gr) (F : Nat → Prop) (O : Nat → Nat → Prop) (V : Hist) (T B : Nat) (w : World) (hG : GS w x g F O V T B) (hW : Wf g) (hB : B ≤ w.heap.size) :
    Calls Try.prog 14 #[.pointer (some ⟨x, 0, none⟩)] w fun e w' => e = .returned (.tuple #[]) ∧ RsQ w x g F O B w' := by
  obtain ⟨ord, no, oo, uo, nc, oc, uc, h1, h2, h3⟩ := hG.ex
  obtain ⟨N, hN⟩ : ∃ N, N = g.nodes.length := ⟨_, rfl⟩
  have hN256 : N ≤ 256 := by rw [hN]; exact hW.N
  have c1 := h1.c1
  have l1 := h1.l1
  rw [← hN] at c1 l1
  have lx := lt_cell c1
  have HN : Hid (N = g.nodes.length) := hN
  have HG : Hid (GS w x g F O V T B) := hG
  have HX : Hid (XL w F x g ord no oo uo nc oc uc ∧ Ord g ord) := ⟨h1, h2⟩
  have HR : Hid (∃ O', R1 w g F O O' V T 0 no w) := ⟨O, fun _ _ h => h, fun _ _ h => .inl h, hG.OO, fun i d hd => by
    obtain ⟨nb, ev, v, a1, a2, a3, a4⟩ := h3.at' i d hd
    exact ⟨nb, ev, v, a1, a2, a3, fun h => absurd h (by omega), fun _ => ⟨a4, fun _ h => h⟩⟩, Kx.refl _ _⟩
  clear hG h1 h2 h3 hN hW
  go_enter Try.func14, Try.ntmps14
  go_wp2_with fail
  go_loopw [9] (fun i ww => ∃ k : Nat, k ≤ N ∧ i = .int .i64 k ∧ Hid (∃ O', R1 w g F O O' V T k no ww)) (fun i _ => N - (intOf i).toNat)
  case atStart => exact ⟨0, by omega, rfl, HR⟩
  case round =>
    obtain ⟨k, hk, rfl, hE⟩ := hrel
    obtain ⟨O', hR⟩ := hE.out
    by_cases hlt : k < N
    · have hkn : k < g.nodes.length := by rw [← HN.out]; exact hlt
      obtain ⟨nb, ev, v, hno, a2, a3, a4, a5⟩ := hR.nr k _ (get_nd hkn)
      subst hno
      obtain ⟨b1, b2⟩ := a5 (Nat.le_refl _)
      have hq := forget_any hC F (O k) k T (nd g k) V ev v wr b1 (fun b hb => (HG.out.O1 k b hb).1)
      have HF : Hid (∀ w', FgQ wr F (O k) k (nd g k) ev v w' → ∃ O'', R1 w g F O O'' V T (k + 1) (some ⟨nb, 0, none⟩) w') := fun w' h => hR.step (fun b hb => (HG.out.F1 b hb).1) (fun i b hb => ⟨(HG.out.O1 i b hb).1, (HG.out.O1 i b hb).2.1⟩) rfl a2 a3 (get_nd hkn) h
      have lnb := lt_cell a3
      have hlt' : (k : Int) < (N : Int) := by omega
      have w3 : IntKind.i64.wrap ((k : Int) + 1) = (k : Int) + 1 := wid (by omega) (by omega)
      clear hE hR a4 a5 b1 b2 HR
      go_wp2_with fail
      refine hq.mono ?_
      rintro e w4 ⟨rfl, h1⟩
      have HP4 : Hid (∃ O'', R1 w g F O O'' V T (k + 1) (some ⟨nb, 0, none⟩) w4) := HF.out w4 h1
      clear h1 HF hq
      go_wp2_with fail
      exact ⟨⟨k + 1, by omega, by go_num, HP4⟩, by simp [intOf]; omega⟩
    · obtain rfl : k = N := by omega
      go_wp2_with fail
      go_end0
      refine ⟨rfl, ⟨O', hR.dn, fun V' => ⟨⟨ord, no, oo, uo, nc, oc, uc, HX.out.1.keep (fun b hb hl => hR.k.block b hl (fun ⟨i, q⟩ => (HG.out.O1 i b q).1 hb)) hR.k.size, HX.out.2, ⟨fun i d hd => ?_⟩⟩, fun i b hb => ?_, hR.OO, fun b hb => ⟨Nat.lt_of_lt_of_le (HG.out.F1 b hb).1 hR.k.size, (HG.out.F1 b hb).2⟩, by omega⟩⟩, hR.k⟩
      · obtain ⟨nb, ev, v, a1, a2, a3, a4, a5⟩ := hR.nr i d hd
        exact ⟨nb, ev, v, a1, a2, a3, a4 (by rw [HN.out]; exact (List.getElem?_eq_some_iff.1 hd).1) V'⟩
      · rcases hR.dn i b hb with q | q
        · exact ⟨(HG.out.O1 i b q).1, Nat.lt_of_lt_of_le (HG.out.O1 i b q).2.1 hR.k.size, (HG.out.O1 i b q).2.2⟩
        · exact ⟨fun hf => by have := (HG.out.F1 b hf).1; omega, q.2, by omega⟩
end Go.Proofs.Ytjpcebnbkdekkaa.Gh

/- Graph.Run: its lists of outs. -/
namespace Go.Proofs.Ytjpcebnbkdekkaa.Gh
open Go.RowKit Go.Maps Go.Sort Fl
set_option linter.unusedVariables false
set_option linter.unusedSimpArgs false

/-- What is wrong with a piece. -/
def er (g : Gr) (P : List (List Nat)) (n : Int) : Int := if n < 0 ∨ 65536 < n then 3 else if fitB g.ins P n = true then 0 else 8
/-- What is in a cell. -/
def cv (w : World) (b i : Nat) : Value := (w.cell? ⟨b, i, none⟩).getD undef
theorem cv_is {w : World} {b i : Nat} {v : Value} (h : w.cell? ⟨b, i, none⟩ = some v) : cv w b i = v := by unfold cv; rw [h]; rfl
/-- The lists that are told: their heads in block ob, their words in the blocks behind it. -/
structure OR (w : World) (ob U nn a : Nat) (W : Nat → Nat → Option Nat) (m a2 : Nat) : Prop where
  r : w.rowIs ob 38 U (fun u => .slice (some ⟨ob + 1 + u, 0, none⟩) nn nn)
  h : ∀ u, u < U → ∃ h, Fi.FR w (ob + 1 + u) nn h ∧ (∀ j, h j < 18446744073709551616) ∧ ∀ j, j < (if u < m then a2 else a) → ab (h j) = W u j
theorem OR.keep {w w' : World} {ob U nn a m a2 : Nat} {W : Nat → Nat → Option Nat} (h : OR w ob U nn a W m a2) (hk : ∀ b, ob ≤ b → b ≤ ob + U → w'.heap[b]? = w.heap[b]?) : OR w' ob U nn a W m a2 := by
  refine ⟨World.rowIs.of_block h.r (hk ob (Nat.le_refl _) (by omega)), fun u hu => ?_⟩
  obtain ⟨f, f1, f2, f3⟩ := h.h u hu
  exact ⟨f, World.rowIs.of_block f1 (hk _ (by omega) (by omega)), f2, f3⟩
/-- One list goes on. -/
theorem OR.step {w w' : World} {ob U nn a m n : Nat} {W : Nat → Nat → Option Nat} {cs : List Nat} {f : Nat → Nat} (h : OR w ob U nn a W m (a + n)) (hm : m < U) (hf : Fi.FR w (ob + 1 + m) nn f) (hf6 : ∀ j, f j < 18446744073709551616) (hfa : ∀ j, j < a → ab (f j) = W m j) (hl : Fi.FR w' (ob + 1 + m) nn (lay f a cs)) (hk : Kx (· = ob + 1 + m) w w') (hcl : cs.length = n) (hc6 : ∀ x ∈ cs, x < 18446744073709551616) (hc : ∀ j, j < n → ab (cs.getD j 0) = W m (a + j)) : OR w' ob U nn a W (m + 1) (a + n) := by
  refine ⟨World.rowIs.of_block h.r (hk.block ob (World.rowIs.lt h.r) (by omega)), fun u hu => ?_⟩
  by_cases e : u = m
  · subst e
    refine ⟨_, hl, lay_lt hf6 hc6, fun j hj => ?_⟩
    rw [if_pos (by omega)] at hj
    by_cases c : j < a
    · rw [lay_out _ _ _ _ (.inl c)]; exact hfa j c
    · obtain ⟨i, rfl⟩ : ∃ i, j = a + i := ⟨j - a, by omega⟩
      rw [lay_in _ _ _ _ (by omega)]
      exact hc i (by omega)
  · obtain ⟨f', f1, f2, f3⟩ := h.h u hu
    refine ⟨f', World.rowIs.of_block f1 (hk.block _ (World.rowIs.lt f1) (by omega)), f2, fun j hj => f3 j ?_⟩
    by_cases c : u < m
    · rw [if_pos c]; rw [if_pos (by omega)] at hj; exact hj
    · rw [if_neg c]; rw [if_neg (by omega)] at hj; exact hj
/-- While a graph runs: a samples are made. -/
structure ML (w0 : World) (s : Sx) (g : Gr) (ord : List Nat) (F : Nat → Prop) (O : Nat → Nat → Prop) (V : Hist) (T nn sb ob x : Nat) (no oo uo : Option Addr) (nc oc uc a : Nat) (ww : World) : Prop where
  b0 : ww.cell? ⟨sb, 0, none⟩ = some (.slice s.io s.il s.ic)
  b1 : ww.cell? ⟨sb, 1, none⟩ = some (.int .i64 a)
  b2 : ww.cell? ⟨sb, 2, none⟩ = some (.slice (some ⟨s.mb, 0, none⟩) s.N s.N)
  bf : ∀ i, ww.frozen? ⟨sb, i, none⟩ = false
  xl : XL ww F x g ord no oo uo nc oc uc
  nr : NR ww F O V (fun _ => T + min a nn) g.nodes no
  mr : ∃ len, MR ww s.A s.mb s.N s.L len
  fr : ∃ f, Fi.FR ww s.A (s.N * s.L) f ∧ ∀ j, f j < 18446744073709551616
  ou : OR ww ob g.outs.length nn (min a nn) (fun u j => V (g.outs.getD u 0).toNat (T + j)) 0 0
  k : Kx (fun b => (∃ i, O i b) ∨ w0.heap.size ≤ b) w0 ww
  z : w0.heap.size ≤ ob ∧ ob + g.outs.length < s.A ∧ s.mb = s.A + 1 ∧ sb = s.A + 2 ∧ sb < ww.heap.size
set_option maxRecDepth 8000 in
set_option maxHeartbeats 4000000 in
theorem rows_made (U nn : Nat) (hU : U ≤ 256) (hn : nn ≤ 65536) : ∀ (ob : Nat) (w : World), w.rowIs ob 38 U (fun _ => .slice none 0 0) → w.heap.size = ob + 1 → w.rowIs ob 38 U (fun u => if u < 0 then .slice (some ⟨ob + 1 + u, 0, none⟩) nn nn else .slice none 0 0) := fun ob w h _ => World.rowIs.congr h (fun u _ => (if_neg (by omega)).symm)
end Go.Proofs.Ytjpcebnbkdekkaa.Gh

/- Graph.Run. -/
namespace Go.Proofs.Ytjpcebnbkdekkaa.Gh
open Go.RowKit Go.Maps Go.Sort Fl
set_option linter.unusedVariables false
set_option linter.unusedSimpArgs false

/-- Lists of which this can be told. -/
structure OL (w : World) (S : Nat → Prop) (v : Value) (R : List (List (Option Nat))) : Prop where
  ex : ∃ ao c, v = .slice ao R.length c ∧ R.length ≤ c ∧ c ≤ 9223372036854775807 ∧ (0 < R.length → ∃ b off, ao = some ⟨b, off, none⟩ ∧ S b ∧ b < w.heap.size ∧ ∀ (j : Nat) r, R[j]? = some r → ∃ x, w.cell? ⟨b, off + j, none⟩ = some x ∧ Fi.Sl w S x r)
theorem OL.keep {w w' : World} {S S' : Nat → Prop} {v : Value} {R : List (List (Option Nat))} (h : OL w S v R) (hk : ∀ b, S b → b < w.heap.size → w'.heap[b]? = w.heap[b]?) (hz : w.heap.size ≤ w'.heap.size) (hs : ∀ b, S b → b < w.heap.size → S' b) : OL w' S' v R := by
  obtain ⟨ao, c, h1, h2, h3, h4⟩ := h.ex
  refine ⟨⟨ao, c, h1, h2, h3, fun hn => ?_⟩⟩
  obtain ⟨b, off, g1, g2, g3, g4⟩ := h4 hn
  refine ⟨b, off, g1, hs b g2 g3, by omega, fun j r hj => ?_⟩
  obtain ⟨x, x1, x2⟩ := g4 j r hj
  exact ⟨x, (World.cell?_of_block (w := w) (w' := w') (a := ⟨b, off + j, none⟩) (hk b g2 g3)).trans x1, x2.keep hk hz hs⟩
/-- What is told of n samples from T on. -/
def outR (g : Gr) (V : Hist) (T n : Nat) : List (List (Option Nat)) := g.outs.map (fun o => (List.range n).map (fun j => V o.toNat (T + j)))
theorem outR_len (g : Gr) (V : Hist) (T n : Nat) : (outR g V T n).length = g.outs.length := List.length_map _
/-- What Run answers. -/
structure RuQ (w : World) (x : Nat) (g : Gr) (F : Nat → Prop) (O : Nat → Nat → Prop) (V : Hist) (T B : Nat) (P : List (List Nat)) (n : Int) (e : Ending) (w' : World) : Prop where
  bad : er g P n ≠ 0 → e = .returned (.tuple #[.slice none 0 0, .int .i64 (er g P n)]) ∧ Below w.heap.size w w'
  ok : er g P n = 0 → ∃ v, e = .returned (.tuple #[v, .int .i64 0]) ∧ OL w' (fun b => w.heap.size ≤ b) v (outR g V T n.toNat) ∧ GS w' x g F O V (T + n.toNat) B ∧ Kx (fun b => ∃ i, O i b) w w'
theorem run_bad (x : Nat) (g : Gr) (F : Nat → Prop) (O : Nat → Nat → Prop) (V : Hist) (T B m ic : Nat) (P : List (List Nat)) (io : Option Addr) (n : Int) (w : World) (hG : GS w x g F O V T B) (hP : Fi.PL w B io P) (hm : P.length = m) (hc : m ≤ ic) (hcm : ic ≤ 9223372036854775807) (hB : B ≤ w.heap.size) (he : er g P n ≠ 0) :
    Calls Try.prog 15 #[.pointer (some ⟨x, 0, none⟩), .slice io m ic, .int .i64 n] w fun e w' => e = .returned (.tuple #[.slice none 0 0, .int .i64 (er g P n)]) ∧ Below w.heap.size w w' := by
  have hb1 : Below w.heap.size w (w.alloc (Obj.cells #[.int .i64 n] 3)) := (Below.refl _ _).alloc (Nat.le_refl _) _
  have hz : ZL (w.alloc (Obj.cells #[.int .i64 n] 3)) (fun _ => True) (some ⟨w.heap.size, 0, none⟩) [n] := ⟨fun _ => ⟨w.heap.size, 0, rfl, by simp, trivial, fun j y hj => by
    match j, hj with
    | 0, hj => simp at hj; subst hj; simp [go_sem]⟩⟩
  have hq := below_any 65537 [n] _ _ 1 1 _ hz rfl (by omega) (by omega)
  rw [belB_one] at hq
  have HB : Hid (Below w.heap.size w (w.alloc (Obj.cells #[.int .i64 n] 3))) := hb1
  obtain ⟨ord, no, oo, uo, nc, oc, uc, h1, h2, h3⟩ := hG.ex
  have hx := Fi.keepC hb1 (lt_cell h1.c0) h1.c0
  have hf := fits_any x B m ic g.ins n io P _ hx (hP.keep hB (fun b hbb => hb1.block b (by omega)) hb1.size) hm hc hcm (by have := hb1.size; omega)
  by_cases c : n < 0 ∨ 65536 < n
  · have e3 : er g P n = 3 := if_pos c
    have e4 : (decide (0 ≤ n) && decide (n < 65537)) = false := by
      rcases c with c | c
      · rw [decide_eq_false (by omega)]; rfl
      · rw [show decide (n < 65537) = false from decide_eq_false (by omega), Bool.and_false]
    rw [e3]
    rw [e4] at hq
    clear hG hP h1 h2 h3 hx hf he e3 e4 hz c hb1
    go_enter Try.func15, Try.ntmps15
    go_wp2_with fail
    refine hq.mono ?_
    rintro e w1 ⟨rfl, hw⟩
    rw [hw]
    go_wp2_with fail
    go_returns
    exact ⟨rfl, HB.out⟩
  · have e4 : (decide (0 ≤ n) && decide (n < 65537)) = true := by
      rw [decide_eq_true (by omega), decide_eq_true (by omega)]; rfl
    rw [e4] at hq
    have e5 : fitB g.ins P n = false := by
      cases hb : fitB g.ins P n with
      | false => rfl
      | true =>
        exfalso
        apply he
        unfold er
        rw [if_neg c, if_pos hb]
    have e3 : er g P n = 8 := by
      unfold er
      rw [if_neg c, if_neg (by rw [e5]; decide)]
    rw [e3]
    rw [e5] at hf
    clear hG hP h1 h2 h3 hx he e3 e4 e5 hz c hb1
    go_enter Try.func15, Try.ntmps15
    go_wp2_with fail
    refine hq.mono ?_
    rintro e w1 ⟨rfl, hw⟩
    rw [hw]
    go_wp2_with fail
    refine hf.mono ?_
    rintro e w2 ⟨rfl, hw2⟩
    rw [hw2]
    go_wp2_with fail
    go_returns
    exact ⟨rfl, HB.out⟩
/-- While rows are made. -/
structure RW (w1 : World) (ob U nn k : Nat) (ww : World) : Prop where
  r : ww.rowIs ob 38 U (fun u => if u < k then .slice (some ⟨ob + 1 + u, 0, none⟩) nn nn else .slice none 0 0)
  h : ∀ u, u < k → Fi.FR ww (ob + 1 + u) nn (fun _ => 0)
  z : ww.heap.size = ob + 1 + k
  b : Below ob w1 ww
theorem RW.step {w1 ww : World} {ob U nn k : Nat} (h : RW w1 ob U nn k ww) (hk : k < U) : RW w1 ob U nn (k + 1) ((ww.alloc (.cells (madeCells #[.float .f64 0] nn) 46)).setCell ⟨ob, k, none⟩ (.slice (some ⟨ob + 1 + k, 0, none⟩) nn nn)) := by
  have hob := World.rowIs.lt h.r
  refine ⟨?_, fun u hu => ?_, by simp [World.setCell]; have := h.z; omega, ?_⟩
  · refine World.rowIs.congr (World.rowIs.set (World.rowIs.alloc h.r _) k _) (fun u _ => ?_)
    by_cases e : u = k
    · rw [if_pos e, if_pos (by omega), e]
    · rw [if_neg e]
      by_cases c : u < k
      · rw [if_pos c, if_pos (by omega)]
      · rw [if_neg c, if_neg (by omega)]
  · by_cases e : u = k
    · subst e
      have := World.rowIs_made ww (.float .f64 0) nn 46
      rw [h.z] at this
      exact World.rowIs.setOther this (by show ob + 1 + u ≠ ob; omega) _
    · exact World.rowIs.setOther (World.rowIs.alloc (h.h u (by omega)) _) (by show ob + 1 + u ≠ ob; omega) _
  · exact (h.b.alloc (by omega) _).setCell (p := ⟨ob, k, none⟩) (Nat.le_refl _) _
theorem RW.or {w1 ww : World} {ob U nn : Nat} (h : RW w1 ob U nn U ww) (W : Nat → Nat → Option Nat) : OR ww ob U nn 0 W 0 0 :=
  ⟨World.rowIs.congr h.r (fun u hu => if_pos hu), fun u hu => ⟨_, h.h u hu, fun _ => by decide, fun j hj => by
    exfalso
    split at hj <;> omega⟩⟩
end Go.Proofs.Ytjpcebnbkdekkaa.Gh

/- Graph.Run where nothing is wrong. -/
namespace Go.Proofs.Ytjpcebnbkdekkaa.Gh
open Go.RowKit Go.Maps Go.Sort Fl
set_option linter.unusedVariables false
set_option linter.unusedSimpArgs false

theorem er_ok {g : Gr} {P : List (List Nat)} {n : Int} (h : er g P n = 0) : 0 ≤ n ∧ n ≤ 65536 ∧ (P.length : Int) = g.ins ∧ ∀ l ∈ P, (l.length : Int) = n := by
  unfold er at h
  by_cases c : n < 0 ∨ 65536 < n
  · rw [if_pos c] at h; omega
  · rw [if_neg c] at h
    by_cases d : fitB g.ins P n = true
    · obtain ⟨h1, h2⟩ := fitB_is d
      exact ⟨by omega, by omega, h1, h2⟩
    · rw [if_neg d] at h; omega
/-- Which blocks are whose while a graph runs. -/
theorem ML.sg {w0 ww : World} {s : Sx} {g : Gr} {ord : List Nat} {F : Nat → Prop} {O : Nat → Nat → Prop} {V : Hist} {T nn sb ob x B a t : Nat} {no oo uo : Option Addr} {nc oc uc : Nat} (h : ML w0 s g ord F O V T nn sb ob x no oo uo nc oc uc a ww) (hF : ∀ b, F b → b < w0.heap.size ∧ B ≤ b) (hO : ∀ i b, O i b → ¬ F b ∧ b < w0.heap.size ∧ B ≤ b) (hOO : ∀ i j b, O i b → O j b → i = j) (hB : B ≤ w0.heap.size) : Sg { s with t := t } F O B ww.heap.size := by
  have hz := h.z
  refine ⟨?_, fun b hb => ?_, fun i b hb => ?_, hOO, ?_, ?_, ?_, ?_⟩
  · show s.mb ≠ s.A; omega
  · have := (hF b hb).1; show b ≠ s.A ∧ b ≠ s.mb; omega
  · obtain ⟨h1, h2, h3⟩ := hO i b hb
    exact ⟨(show b ≠ s.A by omega), (show b ≠ s.mb by omega), h1, by omega, h3⟩
  · show B ≤ s.A; omega
  · show B ≤ s.mb; omega
  · show s.A < _; omega
  · show s.mb < _; omega
/-- A stretch is made, the lists that are told go on, and so does the place. -/
theorem ML.next {w0 ww w1 w2 : World} {s : Sx} {g : Gr} {ord : List Nat} {F : Nat → Prop} {O : Nat → Nat → Prop} {V : Hist} {T nn sb ob x B a n t : Nat} {no oo uo : Option Addr} {nc oc uc : Nat} (h : ML w0 s g ord F O V T nn sb ob x no oo uo nc oc uc a ww) (hF : ∀ b, F b → b < w0.heap.size ∧ B ≤ b) (hO : ∀ i b, O i b → ¬ F b ∧ b < w0.heap.size ∧ B ≤ b) (hN : s.N = g.nodes.length) (ha : a < nn) (hn : n = min s.L (nn - a)) (hp : P2 ww { s with t := t } g F O V n (T + a) s.N no w1) (hor : OR w2 ob g.outs.length nn a (fun u j => V (g.outs.getD u 0).toNat (T + j)) g.outs.length (a + n)) (hk : Kx (fun b => ob < b ∧ b ≤ ob + g.outs.length) w1 w2) : ML w0 s g ord F O V T nn sb ob x no oo uo nc oc uc (a + s.L) (w2.setCell ⟨sb, 1, none⟩ (.int .i64 ((a + s.L : Nat) : Int))) := by
  have hz := h.z
  have e1 : min a nn = a := by omega
  have e2 : min (a + s.L) nn = a + n := by omega
  have hK1 : Kx (Mx { s with t := t } O) ww w1 := hp.k
  have z1 := hK1.size
  have z2 := hk.size
  have hM : ∀ b, (F b ∨ b = sb ∨ (ob ≤ b ∧ b ≤ ob + g.outs.length)) → ¬ Mx { s with t := t } O b := fun b hb q => by
    rcases q with q | q | ⟨i, q⟩
    · have q' : b = s.A := q
      rcases hb with hb | hb | hb
      · have := (hF b hb).1; omega
      · omega
      · omega
    · have q' : b = s.mb := q
      rcases hb with hb | hb | hb
      · have := (hF b hb).1; omega
      · omega
      · omega
    · obtain ⟨h1, h2, h3⟩ := hO i b q
      rcases hb with hb | hb | hb
      · exact h1 hb
      · omega
      · omega
  have hks : ∀ b, b ≠ sb → (w2.setCell ⟨sb, 1, none⟩ (.int .i64 ((a + s.L : Nat) : Int))).heap[b]? = w2.heap[b]? := fun b hb => Below.heap_setCell _ _ _ _ hb
  have hkA : ∀ b, b ≠ sb → ¬ (ob < b ∧ b ≤ ob + g.outs.length) → b < w1.heap.size → (w2.setCell ⟨sb, 1, none⟩ (.int .i64 ((a + s.L : Nat) : Int))).heap[b]? = w1.heap[b]? := fun b h1 h2 h3 => (hks b h1).trans (hk.block b h3 h2)
  have hsb : w2.heap[sb]? = ww.heap[sb]? := (hk.block sb (by omega) (by omega)).trans (hK1.block sb (by omega) (hM sb (.inr (.inl rfl))))
  have hcs : ∀ i, w2.cell? ⟨sb, i, none⟩ = ww.cell? ⟨sb, i, none⟩ := fun i => World.cell?_of_block (w := ww) (w' := w2) (a := ⟨sb, i, none⟩) hsb
  have hfs : ∀ i, w2.frozen? ⟨sb, i, none⟩ = ww.frozen? ⟨sb, i, none⟩ := fun i => World.frozen?_of_block (w := ww) (w' := w2) (a := ⟨sb, i, none⟩) hsb
  have oth : ∀ i, i ≠ 1 → (w2.setCell ⟨sb, 1, none⟩ (.int .i64 ((a + s.L : Nat) : Int))).cell? ⟨sb, i, none⟩ = w2.cell? ⟨sb, i, none⟩ := fun i hi => World.cell?_setCell_other _ _ _ _ (fun e => hi (congrArg Addr.off e).symm)
  have zs : (w2.setCell ⟨sb, 1, none⟩ (.int .i64 ((a + s.L : Nat) : Int))).heap.size = w2.heap.size := by simp [World.setCell]
  have hFk : ∀ b, F b → b < ww.heap.size → (w2.setCell ⟨sb, 1, none⟩ (.int .i64 ((a + s.L : Nat) : Int))).heap[b]? = ww.heap[b]? := fun b hb hl => (hkA b (by have := (hF b hb).1; omega) (by have := (hF b hb).1; omega) (by omega)).trans (hK1.block b hl (hM b (.inl hb)))
  refine ⟨(oth 0 (by omega)).trans ((hcs 0).trans h.b0), World.cell?_setCell_same _ _ _ ((hcs 1).trans h.b1), (oth 2 (by omega)).trans ((hcs 2).trans h.b2), fun i => by rw [World.frozen?_setCell, hfs]; exact h.bf i, h.xl.keep hFk (by omega), ?_, ?_, ?_, ?_, ?_, by omega⟩
  · have h1 : NR w1 F O V (fun _ => T + min (a + s.L) nn) g.nodes no := ⟨fun i d hd => by
      obtain ⟨nb, ev, v, a1, a2, a3, a4⟩ := hp.nr.at' i d hd
      refine ⟨nb, ev, v, a1, a2, a3, ?_⟩
      rw [if_pos (show i < s.N by rw [hN]; exact (List.getElem?_eq_some_iff.1 hd).1)] at a4
      rw [e2, ← Nat.add_assoc]
      exact a4⟩
    exact h1.keep (fun b hb hl => by
      rcases hb with hb | ⟨i, hb⟩
      · exact hkA b (by have := (hF b hb).1; omega) (by have := (hF b hb).1; omega) hl
      · exact hkA b (by have := (hO i b hb).2.1; omega) (by have := (hO i b hb).2.1; omega) hl) (by omega)
  · have hlt := World.rowIs.lt hp.mr
    exact ⟨fun _ => n, World.rowIs.of_block hp.mr (hkA s.mb (by omega) (by omega) hlt)⟩
  · obtain ⟨f, f1, f2, f3⟩ := hp.fr
    have hlt := World.rowIs.lt f1
    exact ⟨f, World.rowIs.of_block f1 (hkA s.A (by omega) (by omega) hlt), f2⟩
  · rw [e2]
    have h1 := hor.keep (w' := w2.setCell ⟨sb, 1, none⟩ (.int .i64 ((a + s.L : Nat) : Int))) (fun b b1 b2 => hks b (by omega))
    refine ⟨h1.r, fun u hu => ?_⟩
    obtain ⟨f, f1, f2, f3⟩ := h1.h u hu
    refine ⟨f, f1, f2, fun j hj => f3 j ?_⟩
    rw [if_pos hu]
    rw [if_neg (by omega)] at hj
    exact hj
  · have zk := h.k.size
    refine ⟨hk.os.trans (hK1.os.trans h.k.os), hk.tape.trans (hK1.tape.trans h.k.tape), hk.output.trans (hK1.output.trans h.k.output), by omega, fun b hb hm => ?_⟩
    refine (hkA b (by omega) (by omega) (by omega)).trans ((hK1.block b (by omega) (fun q => ?_)).trans (h.k.block b hb hm))
    rcases q with q | q | q
    · have q' : b = s.A := q
      omega
    · have q' : b = s.mb := q
      omega
    · exact hm (.inl q)
set_option maxRecDepth 8000 in
set_option maxHeartbeats 8000000 in
theorem run_ok (hC : Vo.CirC) (x : Nat) (g : Gr) (F : Nat → Prop) (O : Nat → Nat → Prop) (V I : Hist) (T B m ic nn : Nat) (P : List (List Nat)) (io : Option Addr) (w : World) (hG : GS w x g F O V T B) (hW : Wf g) (hP : Fi.PL w B io P) (hm : P.length = m) (hc : m ≤ ic) (hcm : ic ≤ 9223372036854775807) (hB : B ≤ w.heap.size) (he : er g P (nn : Int) = 0)
    (hI : ∀ (p : Nat) l, P[p]? = some l → ∀ j, j < nn → I p (T + j) = ab (l.getD j 0)) (hsol : ∀ i, i < g.nodes.length → ∀ t, V i t = sampD (nd g i) I V i t) (hT : T + nn ≤ 4611686018427387904) :
    Calls Try.prog 15 #[.pointer (some ⟨x, 0, none⟩), .slice io m ic, .int .i64 (nn : Int)] w fun e w' => ∃ v, e = .returned (.tuple #[v, .int .i64 0]) ∧ OL w' (fun b => w.heap.size ≤ b) v (outR g V T nn) ∧ GS w' x g F O V (T + nn) B ∧ Kx (fun b => ∃ i, O i b) w w' := by
  obtain ⟨n0, n1, hPi, hPl⟩ := er_ok he
  have hnn : nn ≤ 65536 := by omega
  obtain ⟨W1, hW1⟩ : ∃ X, X = w.alloc (Obj.cells #[.int .i64 (nn : Int)] 3) := ⟨_, rfl⟩
  have hb1 : Below w.heap.size w W1 := by rw [hW1]; exact (Below.refl _ _).alloc (Nat.le_refl _) _
  have z1 : W1.heap.size = w.heap.size + 1 := by rw [hW1]; simp
  have hz : ZL W1 (fun _ => True) (some ⟨w.heap.size, 0, none⟩) [(nn : Int)] := ⟨fun _ => ⟨w.heap.size, 0, rfl, by omega, trivial, fun j y hj => by
    match j, hj with
    | 0, hj => simp at hj; subst hj; rw [hW1]; simp [go_sem]⟩⟩
  have hq := below_any 65537 [(nn : Int)] _ _ 1 1 _ hz rfl (by omega) (by omega)
  rw [belB_one, show (decide (0 ≤ (nn : Int)) && decide ((nn : Int) < 65537)) = true by rw [decide_eq_true (by omega), decide_eq_true (by omega)]; rfl] at hq
  obtain ⟨ord, no, oo, uo, nc, oc, uc, h1, h2, h3⟩ := hG.ex
  have hx := Fi.keepC hb1 (lt_cell h1.c0) h1.c0
  have HP1 : Hid (Fi.PL W1 B io P) := hP.keep hB (fun b hbb => hb1.block b (by omega)) hb1.size
  have hf := fits_any x B m ic g.ins (nn : Int) io P _ hx HP1.out hm hc hcm (by omega)
  rw [show fitB g.ins P (nn : Int) = true from fitB_yes hPi (fun k l h => hPl l (List.mem_of_getElem? h))] at hf
  have HG1 : Hid (GS W1 x g F O V T B) := hG.bel hb1
  have HX1 : Hid (XL W1 F x g ord no oo uo nc oc uc) := h1.keep (fun b _ hl => hb1.block b hl) hb1.size
  have HN1 : Hid (NR W1 F O V (fun _ => T) g.nodes no) := h3.bel hb1
  obtain ⟨U, hU⟩ : ∃ U, U = g.outs.length := ⟨_, rfl⟩
  obtain ⟨N, hN⟩ : ∃ N, N = g.nodes.length := ⟨_, rfl⟩
  have hU256 : U ≤ 256 := by rw [hU]; exact hW.U
  have hN256 : N ≤ 256 := by rw [hN]; exact hW.N
  have c3 := HX1.out.c3
  rw [← hU] at c3
  have l3 := HX1.out.l3
  rw [← hU] at l3
  have m3 := HX1.out.m3
  have lx := lt_cell c3
  obtain ⟨ob, hob⟩ : ∃ ob, ob = W1.heap.size := ⟨_, rfl⟩
  have mk : (Instr.makeSlice 32 (.int .i64 (U : Int)) (.int .i64 (U : Int))).run Try.prog W1 = .ok (.slice (some ⟨W1.heap.size, 0, none⟩) U U) (W1.alloc (.cells (madeCells #[.slice none 0 0] U) 38)) := run_make_row' (P := Try.prog) 32 38 (.slice none 0 0) 24 Try.underlying32 Fi.infoFs rfl .i64 .i64 U (by omega) (by omega) _
  have HRW : Hid (RW W1 W1.heap.size U nn 0 (W1.alloc (.cells (madeCells #[.slice none 0 0] U) 38))) := ⟨World.rowIs.congr (World.rowIs_made W1 (.slice none 0 0) U 38) (fun u _ => (if_neg (by omega)).symm), fun u hu => absurd hu (by omega), by simp, (Below.refl _ _).alloc (Nat.le_refl _) _⟩
  have HB1 : Hid (Below w.heap.size w W1) := hb1
  rw [← hob] at mk HRW
  have Hob : Hid (ob = W1.heap.size ∧ W1.heap.size = w.heap.size + 1) := ⟨hob, z1⟩
  have lxo : x < ob := by rw [hob]; exact lx
  have HO : Hid (Ord g ord ∧ Wf g ∧ (P.length : Int) = g.ins ∧ (∀ l ∈ P, (l.length : Int) = nn) ∧ (∀ (p : Nat) l, P[p]? = some l → ∀ j, j < nn → I p (T + j) = ab (l.getD j 0)) ∧ (∀ i, i < g.nodes.length → ∀ t, V i t = sampD (nd g i) I V i t)) := ⟨h2, hW, hPi, hPl, hI, hsol⟩
  have HU : Hid (U = g.outs.length ∧ N = g.nodes.length ∧ P.length = m) := ⟨hU, hN, hm⟩
  have hFx := h1.fx
  have HFO : Hid ((∀ b, F b → b < w.heap.size ∧ B ≤ b) ∧ (∀ i b, O i b → ¬ F b ∧ b < w.heap.size ∧ B ≤ b) ∧ ∀ i j b, O i b → O j b → i = j) := ⟨hG.F1, hG.O1, hG.OO⟩
  clear hG hP h1 h2 h3 hW hPi hPl hI hsol hU hN he hz hb1 hm hob z1
  go_enter Try.func15, Try.ntmps15
  go_wp2_with fail
  rw [← hW1]
  clear hW1
  refine hq.mono ?_
  rintro e w1 ⟨rfl, hw⟩
  rw [hw]
  clear hq hw
  go_wp2_with fail
  refine hf.mono ?_
  rintro e w2 ⟨rfl, hw2⟩
  rw [hw2]
  clear hf hw2 hx
  go_wp2_with (simp only [mk])
  generalize W1.alloc (.cells (madeCells #[.slice none 0 0] U) 38) = W2 at *
  clear mk
  go_loopw [31] (fun i ww => ∃ k : Nat, k ≤ U ∧ i = .int .i64 k ∧ Hid (RW W1 ob U nn k ww)) (fun i _ => U - (intOf i).toNat)
  case atStart => exact ⟨0, by omega, rfl, HRW⟩
  case round =>
    obtain ⟨k, hk, rfl, hR⟩ := hrel
    by_cases hlt : k < U
    · have mk2 : (Instr.makeSlice 38 (.int .i64 (nn : Int)) (.int .i64 (nn : Int))).run Try.prog wr = .ok (.slice (some ⟨wr.heap.size, 0, none⟩) nn nn) (wr.alloc (.cells (madeCells #[.float .f64 0] nn) 46)) := run_make_row' (P := Try.prog) 38 46 (.float .f64 0) 8 Try.underlying38 Fi.infoF rfl .i64 .i64 nn (by omega) (by omega) _
      have hz := hR.out.z
      rw [hz] at mk2
      have HR2 : Hid (RW W1 ob U nn (k + 1) ((wr.alloc (.cells (madeCells #[.float .f64 0] nn) 46)).setCell ⟨ob, k, none⟩ (.slice (some ⟨ob + 1 + k, 0, none⟩) nn nn))) := hR.out.step hlt
      have y1 := World.rowIs.cell (World.rowIs.alloc hR.out.r (.cells (madeCells #[.float .f64 0] nn) 46)) hlt
      have y2 := World.rowIs.frozen (World.rowIs.alloc hR.out.r (.cells (madeCells #[.float .f64 0] nn) 46)) k
      have y3 := World.rowIs.lt (World.rowIs.alloc hR.out.r (.cells (madeCells #[.float .f64 0] nn) 46))
      rw [if_neg (by omega)] at y1
      have hlt' : (k : Int) < (U : Int) := by omega
      have w3 : IntKind.i64.wrap ((k : Int) + 1) = (k : Int) + 1 := wid (by omega) (by omega)
      generalize hwa : wr.alloc (.cells (madeCells #[.float .f64 0] nn) 46) = WA at *
      clear hR hz hwa
      go_wp2_with (simp only [mk2])
      exact ⟨⟨k + 1, by omega, by go_num, HR2⟩, by simp [intOf]; omega⟩
    · obtain rfl : k = U := by omega
      obtain ⟨w3, hw3⟩ : ∃ x, x = wr := ⟨wr, rfl⟩
      subst hw3
      have hbr := hR.out.b
      have c1 := Fi.keepC hbr lxo HX1.out.c1
      rw [← HU.out.2.1] at c1
      have lx3 := lt_cell c1
      have hl1 := HX1.out.l1
      rw [← HU.out.2.1] at hl1
      have HN3 : Hid (NR w3 F O V (fun _ => T) g.nodes no) := HN1.out.keep (fun b _ hl => hbr.block b (by rw [Hob.out.1]; exact hl)) hbr.size
      have HX3 : Hid (XL w3 F x g ord no oo uo nc oc uc) := HX1.out.keep (fun b _ hl => hbr.block b (by rw [Hob.out.1]; exact hl)) hbr.size
      have hq2 := atOnce_any F O V _ g.nodes no N nc w3 HN3.out HU.out.2.1.symm hl1 hN256
      clear HRW hlt
      go_wp2_with fail
      refine hq2.mono ?_
      rintro e w4 ⟨L0, rfl, hL1, hL2, hL3, hw4⟩
      rw [hw4]
      have HL3 : Hid (∀ d ∈ g.nodes, d.kind = 6 → (L0 : Int) ≤ d.n) := hL3
      obtain ⟨L, hL⟩ : ∃ L, L = min nn L0 := ⟨_, rfl⟩
      have hmin : (if L0 < nn then (L0 : Int) else (nn : Int)) = (L : Int) := by
        rw [hL]; split <;> omega
      have HL : Hid (L = min nn L0) := hL
      clear hq2 hw4 hL3 hL
      go_wp2_with fail
      refine (rooms_any N L w3 hN256 (by omega)).mono ?_
      intro e w5 hQ
      have hex := hQ.ex
      subst hex
      obtain ⟨A, hA⟩ : ∃ A, A = w3.heap.size := ⟨_, rfl⟩
      rw [← hA]
      have hzA : A = ob + 1 + k := by rw [hA]; exact hR.out.z
      have z5 : w5.heap.size = A + 2 := by rw [hA]; exact hQ.z
      obtain ⟨W6, hW6⟩ : ∃ X, X = w5.alloc (Obj.cells #[.slice io m ic, .int .i64 0, .slice (some ⟨A + 1, 0, none⟩) N N] 82) := ⟨_, rfl⟩
      have z6 : W6.heap.size = A + 3 := by rw [hW6]; simp; omega
      have hb36 : Below A w3 W6 := by
        rw [hW6, hA]
        exact hQ.b.alloc (by omega) _
      have hb16 : Below ob W1 W6 := hbr.trans (hb36.mono (by omega))
      have d0 : W6.cell? ⟨A + 2, 0, none⟩ = some (.slice io m ic) := by rw [hW6, ← z5]; simp [go_sem]
      have d1 : W6.cell? ⟨A + 2, 1, none⟩ = some (.int .i64 0) := by rw [hW6, ← z5]; simp [go_sem]
      have d2 : W6.cell? ⟨A + 2, 2, none⟩ = some (.slice (some ⟨A + 1, 0, none⟩) N N) := by rw [hW6, ← z5]; simp [go_sem]
      have df : ∀ i, W6.frozen? ⟨A + 2, i, none⟩ = false := fun i => by rw [hW6, ← z5]; simp [go_sem]
      have HML : Hid (ML w ⟨A, A + 1, N, L, io, m, ic, 0⟩ g ord F O V T nn (A + 2) ob x no oo uo nc oc uc 0 W6) := by
        have hob := Hob.out
        have hbw : Below w.heap.size w W6 := HB1.out.trans (hb16.mono (by omega))
        refine ⟨d0, d1, d2, df, HX1.out.keep (fun b _ hl => hb16.block b (by omega)) hb16.size, ?_, ⟨fun _ => L, ?_⟩, ⟨fun _ => 0, ?_, fun _ => (show (0 : Nat) < 18446744073709551616 by decide)⟩, ?_, ?_, ?_⟩
        · rw [Nat.zero_min, Nat.add_zero]
          exact HN1.out.keep (fun b _ hl => hb16.block b (by omega)) hb16.size
        · have := hQ.m
          rw [← hA] at this
          rw [hW6]
          exact World.rowIs.alloc this _
        · have := hQ.a
          rw [← hA] at this
          rw [hW6]
          exact World.rowIs.alloc this _
        · rw [Nat.zero_min, ← HU.out.1]
          exact (hR.out.or _).keep (fun b b1 b2 => hb36.block b (by omega))
        · exact ⟨hbw.os, hbw.tape, hbw.output, hbw.size, fun b hb _ => hbw.block b hb⟩
        · refine ⟨by omega, ?_, rfl, rfl, by omega⟩
          rw [← HU.out.1]
          show ob + k < A
          omega
      have Hz : Hid (A = ob + 1 + k) := hzA
      clear hQ hR HN3 HX3 hbr c1 lx3 hl1 hb36 d0 d1 d2 df hA hzA lx lxo
      go_wp2_with fail
      rw [show w5.alloc (Obj.cells #[.slice io m ic, .int .i64 0, .slice (some ⟨A + 1, 0, none⟩) N N] 82) = W6 from hW6.symm]
      clear hW6
      have HGw : Hid ((∀ b, F b → b < w.heap.size ∧ B ≤ b) ∧ (∀ i b, O i b → ¬ F b ∧ b < w.heap.size ∧ B ≤ b) ∧ ∀ i j b, O i b → O j b → i = j) := HFO
      have HL1 : Hid (1 ≤ L0 ∧ L0 ≤ 512) := ⟨hL1, hL2⟩
      have hL512 : L ≤ 512 := by rw [HL.out]; omega
      clear z5 z6 hb16 hmin hL1 hL2
      go_loopw [56] (fun _ ww => ∃ a : Nat, a ≤ 66048 ∧ Hid (ML w ⟨A, A + 1, N, L, io, m, ic, 0⟩ g ord F O V T nn (A + 2) ob x no oo uo nc oc uc a ww)) (fun _ ww => nn - (intOf (cv ww (A + 2) 1)).toNat)
      case atStart => exact ⟨0, by omega, HML⟩
      case round =>
        obtain ⟨a, ha, hM⟩ := hrel
        have e0 := hM.out.b0
        have e1 := hM.out.b1
        have e2 := hM.out.b2
        have le := lt_cell e0
        have hcv := cv_is e1
        by_cases hlt : a < nn
        · obtain ⟨n, hn⟩ : ∃ n, n = min L (nn - a) := ⟨_, rfl⟩
          have hmin2 : (if (nn : Int) - (a : Int) < (L : Int) then (nn : Int) - (a : Int) else (L : Int)) = (n : Int) := by
            rw [hn]; split <;> omega
          have Hn : Hid (n = min L (nn - a)) := hn
          have hsub : IntKind.i64.wrap ((nn : Int) - (a : Int)) = (nn : Int) - (a : Int) := wid (by omega) (by omega)
          have hlt' : (a : Int) < (nn : Int) := by omega
          obtain ⟨len, hmr⟩ := hM.out.mr
          obtain ⟨o1, o2, o3, o4, o5, o6⟩ := HO.out
          obtain ⟨g1, g2, g3⟩ := HGw.out
          have hBw : B ≤ w.heap.size := hB
          have hPw : Fi.PL wr B io P := HP1.out.keep (by have := Hob.out; omega) (fun b hbb => by
            have h1 := hM.out.k.block b (by omega) (fun q => q.elim (fun ⟨i, q⟩ => by have := (g2 i b q).2.2; omega) (fun q => by omega))
            have h2 := HB1.out.block b (by omega)
            exact h1.trans h2.symm) (by have := hM.out.z; have := Hob.out; have := Hz.out; omega)
          have hnr : NR wr F O V (fun _ => T + a) g.nodes no := by
            have := hM.out.nr
            rw [show min a nn = a by omega] at this
            exact this
          have hpl := play_any hC ⟨A, A + 1, N, L, io, m, ic, a⟩ g ord F O V I n (T + a) B x len P no oo uo nc oc uc wr hM.out.xl o1 o2 HU.out.2.1 (hM.out.sg (t := a) g1 g2 g3 hBw) hmr hM.out.fr hnr hPw HU.out.2.2.symm hc (by have := hM.out.z; have := Hob.out; have := Hz.out; omega) (fun p l hl => by
            have hll := o4 l (List.mem_of_getElem? hl)
            refine ⟨?_, fun j hj => ?_⟩
            · show a + n ≤ l.length
              omega
            · have := o5 p l hl (a + j) (by omega)
              rw [← Nat.add_assoc] at this
              exact this) o3 o6 (fun d hd h6 => by
            have h1 := HL3.out d hd h6
            have h2 := HL.out
            show (L : Int) ≤ d.n
            omega) hL512 (show n ≤ L by omega) (by omega)
          clear hmr hPw hnr o1 o2 o3 o4 o5 o6 g1 g2 g3 hn
          go_wp2_with fail
          refine hpl.mono ?_
          rintro e w7 ⟨rfl, hP2⟩
          have HP2 : Hid (P2 wr ⟨A, A + 1, N, L, io, m, ic, a⟩ g F O V n (T + a) N no w7) := hP2
          have HnM : Hid (∀ b, (F b ∨ b = A + 2 ∨ (ob ≤ b ∧ b ≤ ob + k)) → ¬ Mx ⟨A, A + 1, N, L, io, m, ic, a⟩ O b) := fun b hb q => by
            have hz := Hz.out
            have hob := Hob.out
            rcases q with q | q | ⟨i, q⟩
            · have q' : b = A := q
              rcases hb with hb | hb | hb
              · have := (HGw.out.1 b hb).1; omega
              · omega
              · omega
            · have q' : b = A + 1 := q
              rcases hb with hb | hb | hb
              · have := (HGw.out.1 b hb).1; omega
              · omega
              · omega
            · obtain ⟨h1, h2, h3⟩ := HGw.out.2.1 i b q
              rcases hb with hb | hb | hb
              · exact h1 hb
              · omega
              · omega
          have hKp := hP2.k
          have HOR : Hid (OR w7 ob k nn a (fun u j => V (g.outs.getD u 0).toNat (T + j)) 0 (a + n)) := by
            have h1 := hM.out.ou
            rw [show min a nn = a by omega, ← HU.out.1] at h1
            have hl := World.rowIs.lt h1.r
            have h2 := h1.keep (w' := w7) (fun b b1 b2 => hKp.block b (by have := hM.out.z; have := Hz.out; omega) (HnM.out b (.inr (.inr ⟨b1, b2⟩))))
            refine ⟨h2.r, fun u hu => ?_⟩
            obtain ⟨f, f1, f2, f3⟩ := h2.h u hu
            exact ⟨f, f1, f2, fun j hj => f3 j (by rw [if_neg (by omega)] at hj ⊢; exact hj)⟩
          have y0 := hKp.cell le (HnM.out _ (.inr (.inl rfl))) e1
          have y2 := hKp.cell le (HnM.out _ (.inr (.inl rfl))) e2
          have yf := hKp.froz (o := 1) le (HnM.out _ (.inr (.inl rfl))) (hM.out.bf 1)
          have hc3 := hM.out.xl.c3
          rw [← HU.out.1] at hc3
          have y3 := hKp.cell (lt_cell hc3) (HnM.out x (.inl hFx)) hc3
          have ly := lt_cell y0
          have ly3 := lt_cell y3
          have HZ : Hid (ZL w7 F uo g.outs) := hM.out.xl.zu.keep (fun b hb hl => hKp.block b hl (HnM.out b (.inl hb))) hKp.size (fun _ h _ => h)
          clear hP2 hKp hpl hc3 e0 e1 e2 hmin2 hsub
          go_wp2_with fail
          go_loopw [79] (fun i ww => ∃ j : Nat, j ≤ k ∧ i = .int .i64 j ∧ Hid (OR ww ob k nn a (fun u j => V (g.outs.getD u 0).toNat (T + j)) j (a + n)) ∧ Hid (Kx (fun b => ob < b ∧ b ≤ ob + k) w7 ww)) (fun i _ => k - (intOf i).toNat)
          case atStart => exact ⟨0, by omega, rfl, HOR, Kx.refl _ _⟩
          case round =>
            obtain ⟨j, hj, rfl, hR, hKr⟩ := hrel
            have v1 := hKr.out.cell ly (by have := Hz.out; omega) y0
            have v2 := hKr.out.cell ly (by have := Hz.out; omega) y2
            have lv := lt_cell v1
            by_cases hjt : j < k
            · obtain ⟨o, ho⟩ : ∃ o, g.outs[j]? = some o := ⟨_, List.getElem?_eq_getElem (by rw [← HU.out.1]; exact hjt)⟩
              obtain ⟨z0, z1⟩ := HO.out.2.1.o o (List.mem_of_getElem? ho)
              obtain ⟨kq, rfl⟩ : ∃ kq : Nat, o = kq := ⟨o.toNat, by omega⟩
              have hkqN : kq < N := by rw [HU.out.2.1]; omega
              obtain ⟨ub, uof, rfl, u1, u2, u3⟩ := HZ.out.at' (by rw [← HU.out.1]; omega)
              have v3 := hKr.out.cell u1 (by have := (HGw.out.1 ub u2).1; have := Hob.out; omega) (u3 j _ ho)
              have lv3 := lt_cell v3
              have v4 := World.rowIs.cell hR.out.r hjt
              have lv4 := World.rowIs.lt hR.out.r
              have hmrw : MR wr A (A + 1) N L (fun _ => n) → True := fun _ => trivial
              have hlm := World.rowIs.lt HP2.out.mr
              have hlm' : A + 1 < w7.heap.size := hlm
              have v5 := hKr.out.cell hlm' (by have := Hz.out; omega) (World.rowIs.cell HP2.out.mr hkqN)
              have lv5 := lt_cell v5
              obtain ⟨f, f1, f2, f3⟩ := HP2.out.fr
              have hFA : Fi.FR wr A (N * L) f := World.rowIs.of_block f1 (hKr.out.block A (World.rowIs.lt f1) (by have := Hz.out; omega))
              obtain ⟨q, hq⟩ : ∃ q, q = kq * L := ⟨_, rfl⟩
              obtain ⟨cp, hcp⟩ : ∃ cp, cp = (N - kq) * L := ⟨_, rfl⟩
              have hnL : n ≤ L := by have := Hn.out; omega
              have hqf : q + n ≤ N * L := by rw [hq]; exact seg_fit hkqN hnL
              have v5' : wr.cell? ⟨A + 1, kq, none⟩ = some (.slice (some ⟨A, q, none⟩) n cp) := by rw [hq, hcp]; exact v5
              obtain ⟨h0, h01, h02, h03⟩ := hR.out.h j hjt
              have hsl := Fi.run_from (some ⟨ob + 1 + j, 0, none⟩) nn nn a (by omega)
              have hnn2 : n ≤ nn - a := by have := Hn.out; omega
              have HFA : Hid (Fi.FR wr A (N * L) f ∧ (∀ j, f j < 18446744073709551616) ∧ ∀ i, i < n → ab (f (q + i)) = V kq (T + a + i)) := ⟨hFA, f2, fun i hi => by rw [hq]; exact f3 kq hkqN i hi⟩
              have HH0 : Hid (Fi.FR wr (ob + 1 + j) nn h0 ∧ (∀ j, h0 j < 18446744073709551616) ∧ ∀ i, i < a → ab (h0 i) = V kq (T + i)) := ⟨h01, h02, fun i hi => by
                have := h03 i (by rw [if_neg (by omega)]; exact hi)
                rw [this, List.getD_eq_getElem?_getD, ho]; rfl⟩
              have Ho : Hid (g.outs.getD j 0 = (kq : Int)) := by unfold Hid; rw [List.getD_eq_getElem?_getD, ho]; rfl
              have hjt' : (j : Int) < (k : Int) := by omega
              have hkq' : (kq : Int) < (N : Int) := by omega
              have w3 : IntKind.i64.wrap ((j : Int) + 1) = (j : Int) + 1 := wid (by omega) (by omega)
              clear u3 ho z0 z1 hmrw hlm v5 f1 f2 f3 hFA hq hcp h01 h02 h03 HOR y0 y2 y3 hlm'
              go_wp2_with fail
              refine U2.wp_region_tail_read 12 (by decide) (by kernel_rfl) (by kernel_rfl) (by kernel_rfl) (by kernel_rfl) ?_
              dsimp only [List.take, List.drop]
              repeat (quiet_step (fail))
              refine wpQuiet_nil ?_
              rintro w9 ⟨nq, rfl⟩
              refine wpList_copy_fr rfl (.tmp 90) (.tmp 95) rfl _ _ _ _ _ _ rfl rfl (ob + 1 + j) a nn h0 (show Fi.FR (wr.drewN nq) (ob + 1 + j) nn h0 from HH0.out.1) (seg f q n) (by rw [seg_len]; show n = min n (nn - a); omega) (fun hpos => ?_) (by rw [seg_len]; omega) ?_
              · rw [seg_len] at hpos
                exact ⟨by rw [frm_at (by omega), Nat.zero_add], A, q, rfl, seg_cells (show Fi.FR (wr.drewN nq) A (N * L) f from HFA.out.1) hqf⟩
              · intro w10 hF10 hK10 hz10
                have HR10 : Hid (OR w10 ob k nn a (fun u j => V (g.outs.getD u 0).toNat (T + j)) (j + 1) (a + n)) := by
                  have hor : OR (wr.drewN nq) ob k nn a (fun u j => V (g.outs.getD u 0).toNat (T + j)) j (a + n) := hR.out.keep (fun _ _ _ => rfl)
                  refine hor.step hjt (show Fi.FR (wr.drewN nq) (ob + 1 + j) nn h0 from HH0.out.1) HH0.out.2.1 (fun i hi => ?_) hF10.out hK10 (seg_len _ _ _) (seg_mem HFA.out.2.1) (fun i hi => ?_)
                  · rw [Ho.out]; exact HH0.out.2.2 i hi
                  · rw [seg_getD hi, Ho.out, ← Nat.add_assoc]; exact HFA.out.2.2 i hi
                have HK10 : Hid (Kx (fun b => ob < b ∧ b ≤ ob + k) w7 w10) := hKr.out.trans ((Kx.bel belD').trans (hK10.mono (fun b _ e => by omega)))
                clear hF10 hK10 hz10 hR hKr
                go_wp2_with fail
                exact ⟨⟨j + 1, by omega, by go_num, HR10, HK10⟩, by simp [intOf]; omega⟩
            · obtain rfl : j = k := by omega
              have v6 := hKr.out.froz (o := 1) ly (by have := Hz.out; omega) yf
              have hadd : IntKind.i64.wrap ((a : Int) + (L : Int)) = (a : Int) + (L : Int) := wid (by omega) (by omega)
              have HMn : Hid (ML w ⟨A, A + 1, N, L, io, m, ic, 0⟩ g ord F O V T nn (A + 2) ob x no oo uo nc oc uc (a + L) (wr.setCell ⟨A + 2, 1, none⟩ (.int .i64 ((a : Int) + (L : Int))))) := by
                have h1 := hM.out.next (t := a) HGw.out.1 HGw.out.2.1 HU.out.2.1 hlt Hn.out HP2.out (by rw [← HU.out.1]; exact hR.out) (by rw [← HU.out.1]; exact hKr.out)
                rw [show ((a + (⟨A, A + 1, N, L, io, m, ic, 0⟩ : Sx).L : Nat) : Int) = (a : Int) + (L : Int) by show ((a + L : Nat) : Int) = _; omega] at h1
                exact h1
              have hcv2 : cv (wr.setCell ⟨A + 2, 1, none⟩ (.int .i64 ((a : Int) + (L : Int)))) (A + 2) 1 = .int .i64 ((a : Int) + (L : Int)) := cv_is (World.cell?_setCell_same _ _ _ v1)
              have hLp : 1 ≤ L := by have := HL.out; have := HL1.out.1; omega
              clear hR hKr HOR v2 HP2 HZ
              go_wp2_with fail
              refine ⟨⟨a + L, by omega, HMn⟩, ?_⟩
              rw [hcv, hcv2]
              simp [intOf]
              omega
        · have hge : min a nn = nn := by omega
          have hgt : ¬ (a : Int) < (nn : Int) := by omega
          have hob := Hob.out
          have hz := hM.out.z
          have HE : Hid (OL wr (fun b => w.heap.size ≤ b) (.slice (some ⟨ob, 0, none⟩) k k) (outR g V T nn) ∧ GS wr x g F O V (T + nn) B ∧ Kx (fun b => ∃ i, O i b) w wr) := by
            have hor := hM.out.ou
            rw [hge, ← HU.out.1] at hor
            have hnr := hM.out.nr
            rw [hge] at hnr
            have hK : Kx (fun b => ∃ i, O i b) w wr := hM.out.k.mono (fun b hb q => q.elim id (fun q => absurd q (by omega)))
            refine ⟨⟨⟨some ⟨ob, 0, none⟩, k, by rw [outR_len, ← HU.out.1], by rw [outR_len, ← HU.out.1]; exact Nat.le_refl _, by omega, fun _ => ⟨ob, 0, rfl, by omega, World.rowIs.lt hor.r, fun j r hj => ?_⟩⟩⟩, ⟨⟨ord, no, oo, uo, nc, oc, uc, hM.out.xl, HO.out.1, hnr⟩, fun i b hb => ?_, HGw.out.2.2, fun b hb => ?_, hT⟩, hK⟩
            · have hjk : j < k := by have := (List.getElem?_eq_some_iff.1 hj).1; rw [outR_len, ← HU.out.1] at this; exact this
              obtain ⟨f, f1, f2, f3⟩ := hor.h j hjk
              obtain ⟨o, ho⟩ : ∃ o, g.outs[j]? = some o := ⟨_, List.getElem?_eq_getElem (by rw [← HU.out.1]; exact hjk)⟩
              unfold outR at hj
              rw [List.getElem?_map, ho] at hj
              cases hj
              refine ⟨_, by rw [Nat.zero_add]; exact World.rowIs.cell hor.r hjk, ⟨⟨seg f 0 nn, some ⟨ob + 1 + j, 0, none⟩, nn, by rw [seg_len], by rw [seg_len]; exact Nat.le_refl _, by omega, fun q => (by cases q), ?_, ⟨fun _ => ⟨ob + 1 + j, 0, rfl, World.rowIs.lt f1, by omega, fun i y hy => ⟨seg_cells f1 (by omega) i y hy, seg_mem f2 y (List.mem_of_getElem? hy)⟩⟩⟩⟩⟩⟩
              unfold Fi.abs seg
              rw [List.map_map]
              refine List.map_congr_left fun i hi => ?_
              have := f3 i (by rw [if_neg (by omega)]; exact List.mem_range.1 hi)
              rw [List.getD_eq_getElem?_getD, ho] at this
              show ab (f (0 + i)) = _
              rw [Nat.zero_add]
              exact this
            · obtain ⟨h1, h2, h3⟩ := HGw.out.2.1 i b hb
              exact ⟨h1, by omega, h3⟩
            · obtain ⟨h1, h2⟩ := HGw.out.1 b hb
              exact ⟨by omega, h2⟩
          clear hM hz hge hob
          go_wp2_with fail
          go_returns
          exact ⟨_, rfl, HE.out⟩
end Go.Proofs.Ytjpcebnbkdekkaa.Gh

/- What listens and slices.Clone come to; closures that are made. -/
namespace Go.Proofs.Ytjpcebnbkdekkaa.Gh
open Go.RowKit Go.Maps Go.Sort Fl
set_option linter.unusedVariables false
set_option linter.unusedSimpArgs false

def isK (k : Int) : Bool := decide (1 ≤ k) && decide (k ≤ 8)
def fitK (k m : Int) : Bool := if k = 1 ∨ k = 2 ∨ k = 8 then decide (m = 0) else if k = 3 ∨ k = 6 ∨ k = 7 then decide (m = 1) else if k = 5 then decide (m = 2) else decide (k = 4)
set_option maxHeartbeats 2000000 in
theorem listens_any (k m : Int) (w : World) : Calls Try.prog 43 #[.int .i64 k, .int .i64 m] w fun e w' => e = .returned (.tuple #[.bool (isK k), .bool (fitK k m)]) ∧ w' = w := by
  rcases (show k = 1 ∨ k = 2 ∨ k = 3 ∨ k = 4 ∨ k = 5 ∨ k = 6 ∨ k = 7 ∨ k = 8 ∨ (k < 1 ∨ 8 < k) by omega) with rfl | rfl | rfl | rfl | rfl | rfl | rfl | rfl | hk
  · rw [show isK 1 = true from rfl, show fitK 1 m = decide (m = 0) from rfl]
    go_enter Try.func43, Try.ntmps43
    go_wp2_with fail
    go_returns
    exact ⟨rfl, rfl⟩
  · rw [show isK 2 = true from rfl, show fitK 2 m = decide (m = 0) from rfl]
    go_enter Try.func43, Try.ntmps43
    go_wp2_with fail
    go_returns
    exact ⟨rfl, rfl⟩
  · rw [show isK 3 = true from rfl, show fitK 3 m = decide (m = 1) from rfl]
    go_enter Try.func43, Try.ntmps43
    go_wp2_with fail
    go_returns
    exact ⟨rfl, rfl⟩
  · rw [show isK 4 = true from rfl, show fitK 4 m = true from rfl]
    go_enter Try.func43, Try.ntmps43
    go_wp2_with fail
    go_returns
    exact ⟨rfl, rfl⟩
  · rw [show isK 5 = true from rfl, show fitK 5 m = decide (m = 2) from rfl]
    go_enter Try.func43, Try.ntmps43
    go_wp2_with fail
    go_returns
    exact ⟨rfl, rfl⟩
  · rw [show isK 6 = true from rfl, show fitK 6 m = decide (m = 1) from rfl]
    go_enter Try.func43, Try.ntmps43
    go_wp2_with fail
    go_returns
    exact ⟨rfl, rfl⟩
  · rw [show isK 7 = true from rfl, show fitK 7 m = decide (m = 1) from rfl]
    go_enter Try.func43, Try.ntmps43
    go_wp2_with fail
    go_returns
    exact ⟨rfl, rfl⟩
  · rw [show isK 8 = true from rfl, show fitK 8 m = decide (m = 0) from rfl]
    go_enter Try.func43, Try.ntmps43
    go_wp2_with fail
    go_returns
    exact ⟨rfl, rfl⟩
  · have h1 : k ≠ 1 := by omega
    have h2 : k ≠ 2 := by omega
    have h3 : k ≠ 3 := by omega
    have h4 : k ≠ 4 := by omega
    have h5 : k ≠ 5 := by omega
    have h6 : k ≠ 6 := by omega
    have h7 : k ≠ 7 := by omega
    have h8 : k ≠ 8 := by omega
    have e1 : isK k = false := by
      unfold isK
      rcases hk with c | c
      · rw [decide_eq_false (by omega)]; rfl
      · rw [show decide (k ≤ 8) = false from decide_eq_false (by omega), Bool.and_false]
    have e2 : fitK k m = false := by
      unfold fitK
      rw [if_neg (by omega), if_neg (by omega), if_neg (by omega), decide_eq_false h4]
    rw [e1, e2]
    clear hk e1 e2
    go_enter Try.func43, Try.ntmps43
    go_wp2_with fail
    go_returns
    exact ⟨rfl, rfl⟩
theorem infoZ : (Try.prog.info? 3).map (fun i => (i.zero, i.size, i.bytes)) = some (some (.int .i64 0), 1, 8) := by kernel_rfl
def ils (l : List Int) : List Value := l.map (fun x => Value.int .i64 x)
theorem ils_len (l : List Int) : (ils l).length = l.length := List.length_map _
theorem wpList_append_zl {w : World} {ops : Array Oper} {rest : List Oper} {o : Oper} {a : Act} {Q : Exit → Act → World → Prop} (hgd : o.guard = none) (s y : Operand)
    (ho : o.op = .call { callee := .builtin .append, args := #[s, y], argTypes := #[23, 23] })
    (base : Nat) (v : Value) (n : Nat) (xs : List Value) (hs : a.eval s = v) (hown : w.ownsRow base 3 1 v n xs)
    (S' : Nat → Prop) (r : List Int) (rm : Nat) (hrm : r.length = rm) (ad : Addr) (xc : Nat) (hx : a.eval y = .slice (some ad) rm xc) (hf : ZL w S' (some ad) r)
    (h63 : n + rm ≤ 17592186044416) (hbase : base ≤ w.heap.size)
    (h : ∀ v' w', w'.ownsRow base 3 1 v' (n + rm) (xs ++ ils r) → Fi.Gw w w' v v' → wpList Try.prog ops Q rest (a.put o.dst v') w') :
    wpList Try.prog ops Q (o :: rest) a w := by
  obtain ⟨i, hi, hz, hz1, hz2⟩ := info_parts infoZ
  have fl : (ils r).length = rm := by rw [ils_len, hrm]
  refine wpList_append_own_at w hgd s y 23 ho base 3 i (.int .i64 0) 1 8 Try.underlying23 hi hz hz1 hz2 rfl (by omega) v n xs hs hown ad rm xc (ils r) hx (by rw [fl]; omega) ?_ ?_ (by unfold maxLen; omega) (by omega) hbase (fun v' w' k1 k2 _ k4 => h v' w' k1 ⟨k2, k4.imp id (fun e => ⟨_, e, Nat.le_refl _⟩)⟩)
  · intro j u hj
    have hjm : j < r.length := by have := (List.getElem?_eq_some_iff.1 hj).1; rw [fl] at this; omega
    obtain ⟨nb, of, k1, _, _, k3⟩ := hf.at' (by omega)
    cases k1
    have hr : r[j]? = some (r[j]'hjm) := List.getElem?_eq_getElem hjm
    unfold ils at hj
    rw [List.getElem?_map, hr] at hj
    cases hj
    have e6 : (⟨nb, of, none⟩ : Addr).add j = ⟨nb, of + j, none⟩ := by unfold Addr.add; by_cases h : j = 0 <;> simp [h]
    rw [e6]; exact k3 j _ hr
  · intro u hu
    unfold ils at hu
    obtain ⟨x, _, rfl⟩ := List.mem_map.1 hu
    rfl
theorem own_new3 (w : World) (base : Nat) (hb : base ≤ w.heap.size) : (w.alloc (Obj.cells #[] 3)).ownsRow base 3 1 (.slice (some ⟨w.heap.size, 0, none⟩) 0 0) 0 (ils []) := by
  refine ⟨rfl, .inr ⟨w.heap.size, 0, #[], rfl, hb, ?_, Nat.le_refl _, by unfold maxLen; omega, rfl, rfl⟩⟩
  show (w.heap.push _)[w.heap.size]? = _
  simp
/-- A row of whole numbers of one's own, read. -/
theorem own_ZL {w : World} {base : Nat} {v : Value} {l : List Int} (h : w.ownsRow base 3 1 v l.length (ils l)) : ∃ ao c, v = .slice ao l.length c ∧ l.length ≤ c ∧ c ≤ 9223372036854775807 ∧ ZL w (fun b => base ≤ b ∧ b < w.heap.size) ao l := by
  rcases h.2 with ⟨e1, e2⟩ | ⟨q, cap, cur, e1, e2, e3, e4, hm, rest⟩
  · exact ⟨none, 0, by rw [e1, e2], by omega, by omega, ⟨fun hn => by omega⟩⟩
  · refine ⟨some ⟨q, 0, none⟩, cap, e1, e4, by unfold maxLen at hm; omega, ⟨fun hn => ⟨q, 0, rfl, (Array.getElem?_eq_some_iff.1 e3).1, ⟨e2, (Array.getElem?_eq_some_iff.1 e3).1⟩, fun j x hj => ?_⟩⟩⟩
    subst e1
    have hjl : j < l.length := (List.getElem?_eq_some_iff.1 hj).1
    rw [Nat.zero_add, World.ownsRow.cellAt h j (by omega)]
    unfold ils
    rw [List.getElem?_map, hj]; rfl
theorem nil_yes (w : World) : (binOp .eql 23 (.slice none 0 0) (.slice none 0 0)).run Try.prog w = .ok (.bool true) w := by kernel_rfl
theorem nil_no (ad : Addr) (m c : Nat) (w : World) : (binOp .eql 23 (.slice (some ad) m c) (.slice none 0 0)).run Try.prog w = .ok (.bool false) w := by kernel_rfl
set_option maxRecDepth 20000 in
set_option maxHeartbeats 2000000 in
theorem clone_any (l : List Int) (S : Nat → Prop) (ao : Option Addr) (m c : Nat) (w : World) (hL : ZL w S ao l) (hm : l.length = m) (hc : m ≤ c) (hn : ao = none → c = 0) (hml : m ≤ 17592186044416) :
    Calls Try.prog 24 #[.slice ao m c] w fun e w' => ∃ ao' c', e = .returned (.slice ao' m c') ∧ m ≤ c' ∧ c' ≤ 9223372036854775807 ∧ ZL w' (fun b => w.heap.size ≤ b ∧ b < w'.heap.size) ao' l ∧ Below w.heap.size w w' := by
  have HL : Hid (ZL w S ao l) := hL
  have Hm : Hid (l.length = m) := hm
  have q1 := nil_yes
  have q2 := nil_no
  cases ao with
  | none =>
    have hc0 := hn rfl
    have hm0 : m = 0 := by omega
    subst hm0
    subst hc0
    clear hn
    go_enter Try.func24, Try.ntmps24
    go_wp2_with (simp only [q1])
    go_ret
    exact ⟨none, 0, rfl, by omega, by omega, ⟨fun h => by omega⟩, Below.refl _ _⟩
  | some ad =>
    have hb1 : Below w.heap.size w (w.alloc (Obj.cells #[] 3)) := (Below.refl _ _).alloc (Nat.le_refl _) _
    have HO : Hid ((w.alloc (Obj.cells #[] 3)).ownsRow w.heap.size 3 1 (.slice (some ⟨w.heap.size, 0, none⟩) 0 0) 0 (ils [])) := own_new3 w w.heap.size (Nat.le_refl _)
    have HL1 : Hid (ZL (w.alloc (Obj.cells #[] 3)) S (some ad) l) := hL.bel hb1
    have HB : Hid (Below w.heap.size w (w.alloc (Obj.cells #[] 3))) := hb1
    have hz1 : w.heap.size ≤ (w.alloc (Obj.cells #[] 3)).heap.size := hb1.size
    clear hn hL hm hb1
    go_enter Try.func24, Try.ntmps24
    go_wp2_with (first | simp only [q2] | (at_builtin; refine wpList_append_zl rfl (.tmp 5) (.tmp 6) rfl w.heap.size _ 0 (ils []) rfl HO.out S l m Hm.out ad c rfl HL1.out (by omega) hz1 ?a1))
    case a1 =>
      intro v' w' ho hg
      rw [Nat.zero_add] at ho
      have HR : Hid (∃ ao' c', v' = .slice ao' m c' ∧ m ≤ c' ∧ c' ≤ 9223372036854775807 ∧ ZL w' (fun b => w.heap.size ≤ b ∧ b < w'.heap.size) ao' l) := by
        have h1 : w'.ownsRow w.heap.size 3 1 v' l.length (ils l) := by rw [Hm.out]; exact ho
        obtain ⟨ao', c', a1, a2, a3, a4⟩ := own_ZL h1
        rw [Hm.out] at a1 a2
        exact ⟨ao', c', a1, a2, a3, a4⟩
      have HB2 : Hid (Below w.heap.size w w') := HB.out.trans (hg.bel hz1 (fun k hk => Fi.own_block HO.out k hk))
      obtain ⟨ao', c', rfl, r2, r3, r4⟩ := HR.out
      have HR4 : Hid (ZL w' (fun b => w.heap.size ≤ b ∧ b < w'.heap.size) ao' l) := r4
      clear ho hg r4 HR
      go_wp2_with fail
      go_ret
      exact ⟨ao', c', rfl, r2, r3, HR4.out, HB2.out⟩
end Go.Proofs.Ytjpcebnbkdekkaa.Gh

/- Nodes that do not remember are made. -/
namespace Go.Proofs.Ytjpcebnbkdekkaa.Gh
open Go.RowKit Go.Maps Go.Sort Fl
set_option linter.unusedVariables false
set_option linter.unusedSimpArgs false

/-- New blocks. -/
def Nb (w w' : World) (b : Nat) : Prop := w.heap.size ≤ b ∧ b < w'.heap.size
theorem input_mk (p : Int) (w : World) : Calls Try.prog 51 #[.int .i64 p] w fun e w' => ∃ cb, e = .returned (.func (.func 60) #[] #[pt cb]) ∧ Nb w w' cb ∧ w'.cell? ⟨cb, 0, none⟩ = some (.int .i64 p) ∧ Below w.heap.size w w' := by
  go_enter Try.func51, Try.ntmps51
  go_wp2_with fail
  go_ret
  exact ⟨_, rfl, ⟨Nat.le_refl _, by simp⟩, by simp [go_sem], by go_grown⟩
theorem steady_mk (x : Nat) (w : World) : Calls Try.prog 52 #[.float .f64 x] w fun e w' => ∃ cb, e = .returned (.func (.func 61) #[] #[pt cb]) ∧ Nb w w' cb ∧ w'.cell? ⟨cb, 0, none⟩ = some (.float .f64 x) ∧ Below w.heap.size w w' := by
  go_enter Try.func52, Try.ntmps52
  go_wp2_with fail
  go_ret
  exact ⟨_, rfl, ⟨Nat.le_refl _, by simp⟩, by simp [go_sem], by go_grown⟩
theorem gain_mk (x : Nat) (p : Int) (w : World) : Calls Try.prog 53 #[.float .f64 x, .int .i64 p] w fun e w' => ∃ cb cx, e = .returned (.func (.func 62) #[] #[pt cb, pt cx]) ∧ Nb w w' cb ∧ Nb w w' cx ∧ w'.cell? ⟨cb, 0, none⟩ = some (.int .i64 p) ∧ w'.cell? ⟨cx, 0, none⟩ = some (.float .f64 x) ∧ Below w.heap.size w w' := by
  go_enter Try.func53, Try.ntmps53
  go_wp2_with fail
  go_ret
  exact ⟨_, _, rfl, ⟨by omega, by simp⟩, ⟨by omega, by simp; omega⟩, by simp [go_sem], by simp [go_sem], by go_grown⟩
theorem times_mk (p q : Int) (w : World) : Calls Try.prog 54 #[.int .i64 p, .int .i64 q] w fun e w' => ∃ cb cx, e = .returned (.func (.func 63) #[] #[pt cb, pt cx]) ∧ Nb w w' cb ∧ Nb w w' cx ∧ w'.cell? ⟨cb, 0, none⟩ = some (.int .i64 p) ∧ w'.cell? ⟨cx, 0, none⟩ = some (.int .i64 q) ∧ Below w.heap.size w w' := by
  go_enter Try.func54, Try.ntmps54
  go_wp2_with fail
  go_ret
  exact ⟨_, _, rfl, ⟨by omega, by simp; omega⟩, ⟨by omega, by simp⟩, by simp [go_sem], by simp [go_sem], by go_grown⟩
theorem mix_mk0 (eo : Option Addr) (ec : Nat) (w : World) : Calls Try.prog 55 #[.slice eo 0 ec] w fun e w' => ∃ cb, e = .returned (.func (.func 61) #[] #[pt cb]) ∧ Nb w w' cb ∧ w'.cell? ⟨cb, 0, none⟩ = some (.float .f64 0) ∧ Below w.heap.size w w' := by
  have hq := fun w => steady_mk 0 w
  go_enter Try.func55, Try.ntmps55
  go_wp2_with fail
  refine (hq _).mono ?_
  rintro e w1 ⟨cb, rfl, h1, h2, h3⟩
  have hb : Below w.heap.size w w1 := Below.trans (by go_grown) (h3.mono (by simp))
  have h1' : Nb w w1 cb := ⟨by have := h1.1; simp at this; omega, h1.2⟩
  clear h1 h3
  go_wp2_with fail
  go_ret
  exact ⟨cb, rfl, h1', h2, hb⟩
theorem mix_mk1 (eo : Option Addr) (m ec : Nat) (w : World) (hm : 0 < m) : Calls Try.prog 55 #[.slice eo m ec] w fun e w' => ∃ cb, e = .returned (.func (.func 64) #[] #[pt cb]) ∧ Nb w w' cb ∧ w'.cell? ⟨cb, 0, none⟩ = some (.slice eo m ec) ∧ Below w.heap.size w w' := by
  have hm1 : ¬ m = 0 := by omega
  have hm2 : ¬ (m : Int) = 0 := by omega
  go_enter Try.func55, Try.ntmps55
  go_wp2_with fail
  go_ret
  exact ⟨_, rfl, ⟨Nat.le_refl _, by simp⟩, by simp [go_sem], by go_grown⟩
/-- A node as it is handed in. -/
@[reducible] def nc (d : Nd) (fo : Option Addr) (fc : Nat) : Array Value := #[.int .i64 d.kind, .slice fo d.frm.length fc, .int .i64 d.n, .float .f64 d.x, .float .f64 d.c.b0, .float .f64 d.c.b1, .float .f64 d.c.b2, .float .f64 d.c.a1, .float .f64 d.c.a2, .int .i64 d.p.shape, .int .u32 d.p.step, .float .f64 d.p.gain, .int .i64 d.p.atk, .int .i64 d.p.dec, .int .i64 d.p.rel, .int .i64 d.p.sus]
@[reducible] def nv (d : Nd) (fo : Option Addr) (fc : Nat) : Value := .agg (nc d fo fc)
end Go.Proofs.Ytjpcebnbkdekkaa.Gh
