/- The document's Bytes. -/
import Derived.Test.YtdlcnbfiklbiiaaCo31
import Derived.Test.YtdlcnbfiklbiiaaCo7
namespace Go.Proofs.Ytdlcnbfiklbiiaa.Co
open Go.RowKit Go.Maps Go.Sort
set_option linter.unusedVariables false
set_option linter.unusedSimpArgs false

/-- What the first t bits from place i on say; noughts behind the last one. -/
def vp (l : List Nat) (i : Nat) : Nat → Nat
  | 0 => 0
  | t + 1 => 2 * vp l i t + l.getD (i + t) 0
theorem vp_b8 (l : List Nat) (i : Nat) : vp l i 8 = b8 (l.drop i) := by
  have g : ∀ j, (l.drop i).getD j 0 = l.getD (i + j) 0 := fun j => by
    rw [List.getD_eq_getElem?_getD, List.getD_eq_getElem?_getD, List.getElem?_drop]
  unfold b8
  simp only [g, vp]
  omega
theorem vp_lt (l : List Nat) (h : ∀ x ∈ l, x < 2) (i t : Nat) : vp l i t < 2 ^ t := by
  induction t with
  | zero => simp [vp]
  | succ t ih =>
    have := getD_lt2 l h (i + t)
    simp only [vp, Nat.pow_succ]; omega
theorem OB.conv' {w : World} {base : Nat} {v : Value} {xs : List Nat} (h : OB w base v xs) : ∃ a c, v = .slice a xs.length c ∧ (convert 61 9 (.slice a xs.length c)).run Try.prog w = .ok (.string (bt xs)) w := by
  unfold OB at h
  rcases h.2 with ⟨h1, h2⟩ | ⟨g, cap, cur, h1, h2, h3, rest⟩
  · have hx : xs = [] := List.length_eq_zero_iff.1 h2
    subst hx
    refine ⟨none, 0, h1, ?_⟩
    have := run_convert_bytes_nil (P := Try.prog) w 61 5 Try.underlying61 Try.underlying5 0 0 9 Try.underlying9
    exact this
  · refine ⟨some ⟨g, 0, none⟩, cap, h1, ?_⟩
    subst h1
    refine run_convert_bytes_arg (P := Try.prog) w 61 5 Try.underlying61 Try.underlying5 g 0 xs.length cap (xs.map fun n : Nat => (n : Int)) (by simp) (fun i hi => ?_) 9 Try.underlying9
    have hc := World.ownsRow.cellAt h i (by omega)
    rw [Nat.zero_add, hc]
    simp [bc, List.getD, hi]
set_option maxRecDepth 8000 in
set_option maxHeartbeats 8000000 in
theorem bytes_any (l : List Nat) (S : Nat → Prop) (xa : Option Addr) (n c : Nat) (w : World) (hI : IL w S xa (nts l)) (hS : ∀ b, S b → b < w.heap.size) (hn : l.length = n) (hc : n ≤ c) (hc2 : c ≤ 9223372036854775807) (hr : ∀ x ∈ l, x < 2) (hn2 : n ≤ 1099511627776) :
    Calls Try.prog 39 #[.slice xa n c] w fun e w' => e = .returned (.string (bt (pk l))) ∧ Below w.heap.size w w' := by
  have HI : Hid (IL w S xa (nts l)) := hI
  have HR : Hid (∀ x ∈ l, x < 2) := hr
  have HN : Hid (l.length = n) := hn
  have HQ : Hid ((pk l).length = (n + 7) / 8) := by show _ = _; rw [pk_len, hn]
  clear hI hr hn hS
  go_enter Try.func39, Try.ntmps39
  go_wp2_with fail
  go_loopw [4, 3] (fun i v wr => ∃ (q : Nat), q ≤ (n + 7) / 8 ∧ i = .int .i64 ((8 * q : Nat) : Int) ∧ Hid (wr.ownsRow w.heap.size 5 1 v q (((pk l).take q).map bc)) ∧ Hid (Below w.heap.size w wr)) (fun i _ _ => n + 8 - (intOf i).toNat)
  case atStart => exact ⟨0, by omega, rfl, World.ownsRow_nil _ _ _ _, Below.refl _ _⟩
  case round =>
    obtain ⟨q, hq, rfl, hO, hB⟩ := hrel
    obtain ⟨I, hI⟩ : ∃ I, I = 8 * q := ⟨_, rfl⟩
    have HII : Hid (I = 8 * q) := hI
    by_cases hlt : 8 * q < n
    · rw [← hI] at hlt ⊢
      have hlt' : (I : Int) < (n : Int) := by omega
      have hIb := HI.out.bel hB.out
      have hpkq : Hid ((pk l)[q]? = some (vp l I 8)) := by
        show _ = _
        rw [vp_b8, HII.out]
        exact pk_get l q (by rw [HN.out]; omega)
      obtain ⟨w7, hw7⟩ : ∃ y, y = wr := ⟨wr, rfl⟩
      have HI7 : Hid (IL w7 S xa (nts l)) := by rw [hw7]; exact hIb
      have HO7 : Hid (w7.ownsRow w.heap.size 5 1 u3 q (((pk l).take q).map bc)) := by rw [hw7]; exact hO
      have HB7 : Hid (Below w.heap.size w w7) := by rw [hw7]; exact hB
      obtain ⟨v3, hv3⟩ : ∃ y, y = u3 := ⟨_, rfl⟩
      rw [← hv3] at HO7 ⊢
      rw [← hw7]
      clear hw7 hIb hO hB hv3
      have w8' : IntKind.i64.wrap ((I : Int) + 8) = ((I + 8 : Nat) : Int) := by rw [wid (by omega) (by omega)]; omega
      obtain ⟨J, hJ⟩ : ∃ J, J = I + 8 := ⟨_, rfl⟩
      rw [← hJ] at w8'
      clear hI
      go_wp2_with fail
      go_loopw [6, 5] (fun i a wr => ∃ (t V : Nat), t ≤ 8 ∧ i = .int .i64 ((I + t : Nat) : Int) ∧ a = .int .i64 (V : Int) ∧ Hid (V = vp l I t) ∧ wr = w7) (fun i _ _ => I + 8 - (intOf i).toNat)
      case atStart => exact ⟨0, 0, by omega, rfl, rfl, rfl, rfl⟩
      case round =>
        obtain ⟨t, V, ht, rfl, rfl, hV, hwr⟩ := hrel
        subst hwr
        have hVb : V < 512 := by
          rw [hV.out]
          have h1 := vp_lt l HR.out I t
          have h2 : 2 ^ t ≤ 2 ^ 8 := Nat.pow_le_pow_right (by omega) ht
          omega
        obtain ⟨K, hK⟩ : ∃ K, K = I + t := ⟨_, rfl⟩
        have hVs : Hid (2 * V + l.getD K 0 = vp l I (t + 1)) := by show _ = _; rw [hV.out, hK]; rfl
        rw [← hK]
        have HK : Hid (K = I + t) := hK
        by_cases htl : t < 8
        · have htl' : (K : Int) < (J : Int) := by omega
          have w1' : IntKind.i64.wrap (2 * (V : Int)) = 2 * (V : Int) := wid (by omega) (by omega)
          have w2' : IntKind.i64.wrap ((K : Int) + 1) = (K : Int) + 1 := wid (by omega) (by omega)
          by_cases hkn : K < n
          · have hkn' : (K : Int) < (n : Int) := by omega
            obtain ⟨x, hx⟩ : ∃ x, l[K]? = some x := ⟨_, List.getElem?_eq_getElem (by rw [HN.out]; exact hkn)⟩
            have hx2 := HR.out x (List.mem_of_getElem? hx)
            obtain ⟨b, off, rfl, lb, _, cc⟩ := HI7.out.at' (by rw [nts_len, HN.out]; omega)
            have cx := cc K (x : Int) (by unfold nts; rw [List.getElem?_map, hx]; rfl)
            have hgd : l.getD K 0 = x := by rw [List.getD_eq_getElem?_getD, hx]; rfl
            rw [hgd] at hVs
            have w3' : IntKind.i64.wrap (2 * (V : Int) + (x : Int)) = 2 * (V : Int) + (x : Int) := wid (by omega) (by omega)
            clear cc hx hgd hV hK hJ
            go_wp2_with fail
            go_roundw
            case rel => exact ⟨t + 1, 2 * V + x, by omega, by rw [HK.out]; go_num, by go_num, hVs, by first | rfl | trivial⟩
            case measure => have := HK.out; simp [intOf]; omega
          · have hkn' : ¬ (K : Int) < (n : Int) := by omega
            have hgd : l.getD K 0 = 0 := by rw [List.getD_eq_getElem?_getD, List.getElem?_eq_none (by rw [HN.out]; omega)]; rfl
            rw [hgd, Nat.add_zero] at hVs
            clear hgd hV hK hJ
            go_wp2_with fail
            go_roundw
            case rel => exact ⟨t + 1, 2 * V, by omega, by rw [HK.out]; go_num, by go_num, hVs, by first | rfl | trivial⟩
            case measure => have := HK.out; simp [intOf]; omega
        · have e8 : t = 8 := by omega
          subst e8
          have htl' : ¬ (K : Int) < (J : Int) := by omega
          have hV8 : V < 256 := by
            rw [hV.out]
            have h1 := vp_lt l HR.out I 8
            omega
          have wV : IntKind.u8.wrap (V : Int) = (V : Int) := by rw [IntKind.wrap_u8]; omega
          have hpk2 : Hid ((pk l)[q]? = some V) := by rw [hV.out]; exact hpkq
          have hst : Hid (((pk l).take (q + 1)).map bc = ((pk l).take q).map bc ++ [.int .u8 (V : Int)]) := by
            show _ = _
            rw [List.take_add_one, hpk2.out, List.map_append]; rfl
          obtain ⟨w9, hw9⟩ : ∃ y, y = wr := ⟨wr, rfl⟩
          subst hw9
          have hb1 : Below w9.heap.size w9 (w9.alloc (.cells #[.int .u8 (V : Int)] 5)) := (Below.refl _ _).alloc (Nat.le_refl _) _
          have hO1 := own_step (w' := w9.alloc (.cells #[.int .u8 (V : Int)] 5)) HO7.out (fun j hj => hb1.block j (own_lt HO7.out j hj))
          have hz0 := HB7.out.size
          have w10 : IntKind.i64.wrap ((I : Int) + 8) = ((8 * (q + 1) : Nat) : Int) := by have := HII.out; rw [wid (by omega) (by omega)]; omega
          clear hV hVs hK hVb
          go_wp2_with (at_builtin; refine wpList_append_1 61 5 (.int .u8 0) 1 Try.underlying61 infoY rfl rfl (.tmp 32) (.tmp 35) rfl w.heap.size _ _ _ rfl hO1 w9.heap.size (.int .u8 (V : Int)) rfl (by simp [go_sem]) rfl (by omega) (by omega) (by simp; omega) ?_; intro v6 w6 k1 k2; have HO6 : Hid (w6.ownsRow w.heap.size 5 1 v6 (q + 1) (((pk l).take (q + 1)).map bc)) := (by show World.ownsRow _ _ _ _ _ _ _; rw [hst.out]; exact k1); have HB6 : Hid (Below w.heap.size w w6) := (HB7.out.trans (hb1.mono hz0)).trans (k2.bel (by simp; omega) (fun q hq => own_block hO1 q hq)); clear k1 k2 hb1 hO1)
          exact ⟨⟨q + 1, by have := HII.out; omega, by rw [HII.out]; go_num, HO6, HB6⟩, by simp [intOf]; omega⟩
    · have hqe : q = (n + 7) / 8 := by omega
      have hlt' : ¬ ((8 * q : Nat) : Int) < (n : Int) := by omega
      have e : (pk l).take q = pk l := List.take_of_length_le (by rw [HQ.out]; omega)
      have hOB : OB wr w.heap.size u3 (pk l) := by
        unfold OB
        have := hO.out
        rw [e, hqe, ← HQ.out] at this; exact this
      obtain ⟨a3, c3, hv3, hcv⟩ := hOB.conv'
      clear hOB e hO hI HII hqe
      obtain ⟨PK, hPK⟩ : ∃ PK, PK = pk l := ⟨_, rfl⟩
      rw [← hPK] at hv3 hcv
      have HPK : Hid (Value.string (bt PK) = .string (bt (pk l))) := by show _ = _; rw [hPK]
      clear hPK
      subst hv3
      go_wp2_with fail
      go_ret
      exact ⟨congrArg Ending.returned HPK.out, hB.out⟩
end Go.Proofs.Ytdlcnbfiklbiiaa.Co
