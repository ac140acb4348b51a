/- What the program's heard comes to at every list of sections that is right. -/
import Derived.Test.YtaohahahhjkcdahX5
namespace Go.Proofs.Ytaohahahhjkcdah.X
open Go.RowKit Go.Maps
set_option linter.unusedVariables false
set_option linter.unusedSimpArgs false

theorem M.tots_take_le {l : List M.Sc} (h : ∀ s ∈ l, M.Ok s) (k : Nat) : 0 ≤ M.tots (l.take k) ∧ M.tots (l.take k) ≤ M.tots l := by
  have e : M.tots l = M.tots (l.take k) + M.tots (l.drop k) := by rw [← M.tots_append, List.take_append_drop]
  have h1 := (M.pls_rng (l := l.take k) (fun s hs => h s (List.mem_of_mem_take hs)) 0).1
  have h2 := (M.pls_rng (l := l.drop k) (fun s hs => h s (List.mem_of_mem_drop hs)) 0).1
  omega
/-- What heard answers. -/
def HdC (l : List M.Sc) : Prop := ∀ (start : Int) (w : World) (B : Nat) (ao : Option Addr) (c : Nat), LL w (· < B) ao l → B ≤ w.heap.size → l.length ≤ c → c ≤ 9223372036854775807 → (∀ s ∈ l, M.Ok s) → l.length ≤ 256 → 0 ≤ start → start ≤ 65536 → M.tots l ≤ 1125899906842624 →
  Calls Try.prog 22 #[.slice ao l.length c, .int .i64 start] w fun e w' => ∃ v, e = .returned (.tuple #[v, .int .i64 (start + M.tots l)]) ∧ OP w' w.heap.size v (M.hds l start) ∧ Below w.heap.size w w'

set_option maxHeartbeats 4000000 in
theorem heard_list (l : List M.Sc) (ih : ∀ s ∈ l, HdC s.kids) : HdC l := by
  intro start w B ao c hL hB hc hcm hok hlen h0 h1 htot
  have IH : Hid (∀ s ∈ l, HdC s.kids) := ih
  have HL : Hid (LL w (· < B) ao l) := hL
  have HO : Hid (∀ s ∈ l, M.Ok s) := hok
  have HT : Hid (∀ k, 0 ≤ M.tots (l.take k) ∧ M.tots (l.take k) ≤ M.tots l) := fun k => M.tots_take_le hok k
  have H0 : Hid (OP w w.heap.size (.slice none 0 0) (M.hds (l.take 0) start)) := OP.nil w _
  have E0 : Hid (start + M.tots (l.take 0) = start) := by show start + (0 : Int) = start; omega
  clear ih hL hok
  go_enter Try.func22, Try.ntmps22
  go_wp2_with fail
  go_loopw [14, 6, 1] (fun i v s wr => ∃ (k : Nat), k ≤ l.length ∧ i = .int .i64 k ∧ s = .int .i64 (start + M.tots (l.take k)) ∧ Hid (OP wr w.heap.size v (M.hds (l.take k) start)) ∧ Below w.heap.size w wr) (fun i _ _ _ => l.length - (intOf i).toNat)
  case atStart => exact ⟨0, by omega, rfl, by rw [E0.out], H0, Below.refl _ _⟩
  case round =>
    obtain ⟨k, hkn, rfl, rfl, hO, hbr⟩ := hrel
    clear H0 E0
    have zr := hbr.size
    by_cases hlt : k < l.length
    · have hlt' : (k : Int) < l.length := by omega
      obtain ⟨s, hs⟩ : ∃ s, l[k]? = some s := ⟨_, List.getElem?_eq_getElem hlt⟩
      have hmem : s ∈ l := List.mem_of_getElem? hs
      have hsok := HO.out s hmem
      have f := hsok.fine
      obtain ⟨b, off, rfl, hbB, q0⟩ := (HL.out.keep (Kp.below (hbr.mono hB))).at' (by omega)
      obtain ⟨ea, ec, ka, kc, q, hSV⟩ := q0 k s hs
      have r0 := q.c0
      have r1 := q.c1
      have r2 := q.c2
      have r3 := q.c3
      have bz : b < wr.heap.size := by omega
      have hT1 := HT.out k
      have hT2 := HT.out (k + 1)
      have eT := M.tots_take hs
      have eH := M.hds_take hs start
      have eD := M.hd_eq s (start + M.tots (l.take k))
      have hlenk : (M.hds (l.take k) start).length ≤ 256 := by
        have := M.hds_len (l.take k) start
        have := List.length_take_le k l
        omega
      have HKL : Hid ((M.hds s.kids s.l).length ≤ 256) := Nat.le_trans (M.hds_len s.kids s.l) f.many
      have eO : M.onc s = s.l + M.tots s.kids := rfl
      have eX : M.tot s = s.t * M.onc s := M.tot_eq s
      have w3 : IntKind.i64.wrap ((k : Int) + 1) = (k : Int) + 1 := wid (by omega) (by omega)
      have t0 := f.t0
      have t1 := f.t1
      have l0 := f.l0
      have l1 := f.l1
      have k0 := f.k0
      have k1 := f.k1
      have a0 := f.a0
      have a1 := f.a1
      have hev := M.ev_len hsok
      have hN := hSV.n
      have HK : ∀ (W : World), Below wr.heap.size wr W → Calls Try.prog 22 #[.slice ka s.kids.length kc, .int .i64 s.l] W fun e w' => ∃ v, e = .returned (.tuple #[v, .int .i64 (M.onc s)]) ∧ OP w' W.heap.size v (M.hds s.kids s.l) ∧ Below W.heap.size W w' := fun W hb =>
        IH.out s hmem s.l W B ka kc ((LS.keep (Kp.below (hb.mono (by omega))) s ka hSV.k).ll) (by have := hb.size; omega) hN.h3 hN.h4 f.kids f.many l0 l1 k1
      have HE : ∀ (W : World), Below wr.heap.size wr W → Calls Try.prog 28 #[.slice ea s.ev.length ec] W fun e w' => e = .returned (.slice (some ⟨W.heap.size, 0, none⟩) s.ev.length s.ev.length) ∧ w' = W.alloc (evo s.ev) := fun W hb =>
        copied_any s.ev ea ec W ((hSV.e.keep (Kp.below (hb.mono (by omega)))).le (fun j hj => by have := hb.size; omega)) hN.h1 hev
      have HA := fun W => all_any s.t (M.onc s) W (by rw [← eX]; exact a0) (by rw [← eX]; omega)
      have wT : IntKind.i64.wrap (start + M.tots (l.take k) + M.tot s) = start + M.tots (l.take k) + M.tot s := wid (by omega) (by omega)
      rw [← eX] at HA
      rw [eD] at eH
      clear q q0 hSV hmem hs IH HL HT HO f hsok eD hN eO eX
      obtain ⟨t, L, ev, kids⟩ := s
      dsimp only at *
      go_wp2_with fail
      refine (HK _ (by go_grown)).mono ?_
      rintro e w1 ⟨v1, rfl, hO1, hb1⟩
      obtain ⟨ka1, kc1, rfl, hk1, hk2, hP1⟩ := hO1.pl
      clear hO1 HK
      generalize M.hds kids L = KP at *
      generalize M.onc ⟨t, L, ev, kids⟩ = ON at *
      generalize M.tot ⟨t, L, ev, kids⟩ = TT at *
      have hb01 : Below wr.heap.size wr w1 := ((Below.refl _ wr).alloc (Nat.le_refl _) _).trans (hb1.mono (by simp))
      have x0 : w1.cell? ⟨wr.heap.size, 0, none⟩ = some (.int .i64 t) := keepC hb1 (by simp) (by simp [go_sem])
      have x2 : w1.cell? ⟨wr.heap.size, 2, none⟩ = some (.slice ea ev.length ec) := keepC hb1 (by simp) (by simp [go_sem])
      have z1 : wr.heap.size < w1.heap.size := by have := hb1.size; simp at this; omega
      have HP1 : Hid (PL w1 (fun b => wr.heap.size ≤ b ∧ b < w1.heap.size) ka1 KP) := hP1.keep (fun _ _ => rfl) (fun j hj => ⟨by have := hj.1; simp at this; omega, hj.2⟩)
      have hklen : KP.length ≤ 256 := by
        have := HKL.out; omega
      clear hb1 hP1 r0 r1 r2 r3 HKL
      have hb0 : ∀ W, Below w1.heap.size w1 W → Below wr.heap.size wr W := fun W hb => hb01.trans (hb.mono (by omega))
      by_cases ct : 0 < t ∧ 0 < ev.length + KP.length
      · rw [if_pos ct] at eH
        have ct1 : 0 < t := ct.1
        have ct2 : 0 < (ev.length : Int) + (KP.length : Int) := by have := ct.2; omega
        have ws : IntKind.i64.wrap ((ev.length : Int) + (KP.length : Int)) = (ev.length : Int) + (KP.length : Int) := wid (by omega) (by omega)
        clear ct
        go_wp2_with fail
        have hW2 : Below w1.heap.size w1 (w1.alloc (Obj.cells #[.int .i64 t, .int .i64 ON] 75)) := (Below.refl _ _).alloc (Nat.le_refl _) _
        have y0 : (w1.alloc (Obj.cells #[.int .i64 t, .int .i64 ON] 75)).cell? ⟨w1.heap.size, 0, none⟩ = some (.int .i64 t) := by simp [go_sem]
        have y1 : (w1.alloc (Obj.cells #[.int .i64 t, .int .i64 ON] 75)).cell? ⟨w1.heap.size, 1, none⟩ = some (.int .i64 ON) := by simp [go_sem]
        have z2 : w1.heap.size < (w1.alloc (Obj.cells #[.int .i64 t, .int .i64 ON] 75)).heap.size := by simp
        have x2' := keepC hW2 z1 x2
        generalize w1.alloc (Obj.cells #[.int .i64 t, .int .i64 ON] 75) = W2 at *
        have hbW2 : Below wr.heap.size wr W2 := hb0 W2 hW2
        have HE2 := HE W2.drew (hbW2.trans ((Below.refl _ _).drew))
        have hsz2 : W2.drew.heap.size = W2.heap.size := rfl
        rw [hsz2] at HE2
        obtain ⟨C, hc1, hc2, hc3⟩ := (hO.out.bel hbW2).ex
        have HC1 : Hid (W2.ownsRow w.heap.size 79 5 u6 (M.hds (l.take k) start).length (rows C (M.hds (l.take k) start).length)) := hc1
        have HC2 : Hid (∀ j, (C j).length = 5) := hc2
        have HC3 : Hid (∀ j p, (M.hds (l.take k) start)[j]? = some p → ∃ ea ka kc, C j = pcl p ea ka kc ∧ PV W2 (Sb w.heap.size W2 u6) p ea ka kc) := hc3
        have HPL : Hid (PL W2 (fun b => wr.heap.size ≤ b ∧ b < w1.heap.size) ka1 KP) := HP1.out.keep (fun j hj => hW2.block j hj.2) (fun _ h => h)
        have ho6 : ∀ j, u6.ownBlock = some j → w.heap.size ≤ j ∧ j < wr.heap.size := hO.out.lt
        clear hc1 hc2 hc3 hW2 HP1 x0 x2 hO HE hb0 hb01
        generalize M.hds (l.take k) start = PP at *
        obtain ⟨i0, hi, hz0, hz1, hz2⟩ := info_parts infoP
        have HX : Hid (∀ W, Below W2.heap.size W2 W → W.ownsRow w.heap.size 79 5 u6 PP.length (rows C PP.length)) := fun W hb => Z.own_step HC1.out (fun j hj => hb.block j (by have := ho6 j hj; have := hbW2.size; omega))
        have hXb : Below W2.heap.size W2 ((W2.drew.alloc (evo ev)).alloc (Obj.cells #[.int .i64 t, .int .i64 ON, .int .i64 (start + M.tots (l.take k)), .slice (some ⟨W2.heap.size, 0, none⟩) ev.length ev.length, .slice ka1 KP.length kc1] 79)) := (((Below.refl _ W2).drew).alloc (Nat.le_refl _) _).alloc (by simp) _
        have hzb := hbW2.size
        go_region_law (first
          | (go_simp; go_at_call 28; refine HE2.mono ?_; rintro e w5 ⟨rfl, rfl⟩)
          | (refine step_append_lies (w := (W2.drew.alloc (evo ev)).alloc (Obj.cells #[.int .i64 t, .int .i64 ON, .int .i64 (start + M.tots (l.take k)), .slice (some ⟨W2.heap.size, 0, none⟩) ev.length ev.length, .slice ka1 KP.length kc1] 79)) (by rfl) _ _ _ (by rfl) w.heap.size 79 i0 _ 5 72 Try.underlying65 hi hz0 hz1 hz2 rfl (by omega) u6 PP.length (rows C PP.length) (by rfl) (HX.out _ hXb) ⟨W2.heap.size + 1, 0, none⟩ 1 1 [.int .i64 t, .int .i64 ON, .int .i64 (start + M.tots (l.take k)), .slice (some ⟨W2.heap.size, 0, none⟩) ev.length ev.length, .slice ka1 KP.length kc1] (by rfl) (by rfl) (part_news (by simp [go_sem]) (by simp [go_sem]) (by simp [go_sem]) (by simp [go_sem]) (by simp [go_sem])) (by simp [Value.oneCell']) (by omega) (by unfold maxLen; omega) (by omega) (by simp; omega) (W2.heap.size + 2) (by simp) ?_; intro gg cap w7 hown7 hgrow hat hlt7))
        all_goals
          have hX7 : ∀ j, j < W2.heap.size → (∀ i, u6.ownBlock = some i → i ≠ j) → w7.heap[j]? = W2.heap[j]? := fun j hj hne => (hgrow.block j (by have := hXb.size; omega) (fun q => hne j q.symm rfl)).trans (hXb.block j hj)
          have hs7 : W2.heap.size + 2 ≤ w7.heap.size := by have := hgrow.size; simp at this; omega
          have hgg : gg = W2.heap.size + 2 ∨ gg < wr.heap.size := by
            rcases hat with e | e
            · exact Or.inr (ho6 gg e).2
            · exact Or.inl e
          have u0 : w7.cell? ⟨w1.heap.size, 0, none⟩ = some (.int .i64 t) := (World.cell?_of_block (w := W2) (w' := w7) (a := ⟨w1.heap.size, 0, none⟩) (hX7 w1.heap.size z2 (fun i hi => by have := ho6 i hi; omega))).trans y0
          have u1 : w7.cell? ⟨w1.heap.size, 1, none⟩ = some (.int .i64 ON) := (World.cell?_of_block (w := W2) (w' := w7) (a := ⟨w1.heap.size, 1, none⟩) (hX7 w1.heap.size z2 (fun i hi => by have := ho6 i hi; omega))).trans y1
          have hb7 : Below w.heap.size w w7 := hbr.trans ((hbW2.mono zr).trans ((hXb.mono (by omega)).grown hgrow (by simp; omega) (fun j hj => (ho6 j hj).1)))
          have hev7 : EL w7 (Sb w.heap.size w7 (.slice (some ⟨gg, 0, none⟩) (PP.length + 1) cap)) (some ⟨W2.heap.size, 0, none⟩) ev := by
            have h0 := evo_EL W2.drew ev
            refine (h0.keep (w' := w7) (fun j hj => ?_)).mono (fun j hj => ?_)
            · have hj' : j = W2.heap.size := hj
              subst hj'
              refine (hgrow.block W2.heap.size (by simp; omega) (fun q => by have := ho6 _ q.symm; omega)).trans ?_
              exact ((Below.refl (W2.heap.size + 1) (W2.drew.alloc (evo ev))).alloc (by simp) _).block _ (by omega)
            · have hj' : j = W2.heap.size := hj
              subst hj'
              exact ⟨by omega, by omega, by simp [Value.ownBlock]; omega⟩
          have hkd7 : PS w7 (Sb w.heap.size w7 (.slice (some ⟨gg, 0, none⟩) (PP.length + 1) cap)) ⟨t, ON, start + M.tots (l.take k), ev, KP⟩ ka1 := by
            refine PL.ps (HPL.out.keep (fun j hj => hX7 j (by have := hj.2; omega) (fun i hi => by have := ho6 i hi; have := hj.1; omega)) (fun j hj => ⟨by have := hj.1; omega, by have := hj.2; omega, ?_⟩))
            simp [Value.ownBlock]
            have := hj.1; have := hj.2; omega
          have HR7 : Hid (OP w7 w.heap.size (.slice (some ⟨gg, 0, none⟩) (PP.length + 1) cap) (M.hds (l.take (k + 1)) start)) := by
            show OP _ _ _ _
            rw [eH]
            refine OP.put C HC2.out HC3.out (fun j hj => ⟨hX7 j hj.2.1 (fun i hi e => hj.2.2 (by rw [← e]; exact hi.symm)), ?_⟩) (by omega) hown7 ⟨⟨hk1, hk2⟩, hev7, hkd7⟩
            rcases hat with e | e
            · rw [show (Value.slice (some ⟨gg, 0, none⟩) (PP.length + 1) cap).ownBlock = some gg from rfl, ← e]; exact hj.2.2
            · simp [Value.ownBlock]; have := hj.2.1; omega
          have z7 : w1.heap.size < w7.heap.size := by omega
          clear hev7 hkd7 hX7 hgg hat hgrow hown7 HX hXb HC1 HC2 HC3 HPL hbW2 y0 y1 x2' HE2 ho6 eH
          go_wp2_with fail
          refine (HA _).mono ?_
          rintro e w8 ⟨rfl, hb8⟩
          have HR8 : Hid (OP w8 w.heap.size (.slice (some ⟨gg, 0, none⟩) (PP.length + 1) cap) (M.hds (l.take (k + 1)) start)) := HR7.out.bel hb8
          have hb9 := hb7.trans (hb8.mono hb7.size)
          clear HR7 hb8 hb7
          go_wp2_with fail
          go_roundw
          case rel => exact ⟨k + 1, by omega, by go_num, by rw [eT, Int.add_assoc], HR8, hb9⟩
          case measure => simp [intOf]; omega
      · rw [if_neg ct, List.append_nil] at eH
        by_cases ct1 : 0 < t
        · have ct2 : ¬ 0 < (ev.length : Int) + (KP.length : Int) := by omega
          have ws : IntKind.i64.wrap ((ev.length : Int) + (KP.length : Int)) = (ev.length : Int) + (KP.length : Int) := wid (by omega) (by omega)
          clear ct
          go_wp2_with fail
          refine (HA _).mono ?_
          rintro e w5 ⟨rfl, hb5⟩
          have hb6 : Below wr.heap.size wr w5 := hb0 _ (((Below.refl _ _).alloc (Nat.le_refl _) _).trans (hb5.mono (by simp)))
          clear hb5
          have HR : Hid (OP w5 w.heap.size u6 (M.hds (l.take (k + 1)) start)) := by show OP _ _ _ _; rw [eH]; exact hO.out.bel hb6
          go_wp2_with fail
          go_roundw
          case rel => exact ⟨k + 1, by omega, by go_num, by rw [eT, Int.add_assoc], HR, hbr.trans (hb6.mono zr)⟩
          case measure => simp [intOf]; omega
        · clear ct
          go_wp2_with fail
          refine (HA _).mono ?_
          rintro e w5 ⟨rfl, hb5⟩
          have hb6 : Below wr.heap.size wr w5 := hb0 _ (((Below.refl _ _).alloc (Nat.le_refl _) _).trans (hb5.mono (by simp)))
          clear hb5
          have HR : Hid (OP w5 w.heap.size u6 (M.hds (l.take (k + 1)) start)) := by show OP _ _ _ _; rw [eH]; exact hO.out.bel hb6
          go_wp2_with fail
          go_roundw
          case rel => exact ⟨k + 1, by omega, by go_num, by rw [eT, Int.add_assoc], HR, hbr.trans (hb6.mono zr)⟩
          case measure => simp [intOf]; omega
    · obtain rfl : k = l.length := by omega
      have hlt' : ¬ ((l.length : Nat) : Int) < l.length := by omega
      have hO' := hO.out
      rw [List.take_length] at hO' ⊢
      have HO' : Hid (OP wr w.heap.size u6 (M.hds l start)) := hO'
      clear hO hO'
      go_wp2_with fail
      go_returns
      exact ⟨_, rfl, HO'.out, hbr⟩
theorem heard_any (l : List M.Sc) : HdC l := by
  suffices H : ∀ s : M.Sc, HdC s.kids from heard_list l (fun s _ => H s)
  intro s
  induction s using M.Sc.ind with
  | h t L ev kids ih => exact heard_list kids ih
end Go.Proofs.Ytaohahahhjkcdah.X
