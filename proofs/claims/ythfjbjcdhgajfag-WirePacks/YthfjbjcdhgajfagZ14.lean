/- What the document's Pack comes to. -/
import Derived.Test.YthfjbjcdhgajfagZ3
import Derived.Test.YthfjbjcdhgajfagZ13
namespace Go.Proofs.Ythfjbjcdhgajfag.Z
open Go.RowKit Go.Maps
set_option linter.unusedVariables false
set_option linter.unusedSimpArgs false

theorem bs_len (l : List Nat) : (bs l).size = l.length := by unfold bs; rw [strOfNums_size]; simp
theorem bs_app (a b : List Nat) : bs a ++ bs b = bs (a ++ b) := by
  unfold bs strOfNums
  apply ByteArray.ext
  rw [ByteArray.data_append]
  simp
theorem bs_one {x : Nat} {X : Int} (h : X = (x : Int)) (w : World) (b : Nat) (hc : w.cell? ⟨b, 0, none⟩ = some (.int .u8 X)) : (convert 65 9 (.slice (some ⟨b, 0, none⟩) 1 1)).run Try.prog w = .ok (.string (bs [x])) w := by
  subst h
  refine run_convert_bytes_arg (P := Try.prog) w 65 5 Try.underlying65 Try.underlying5 b 0 1 1 ([x].map fun n : Nat => (n : Int)) rfl (fun i hi => ?_) 9 Try.underlying9
  obtain rfl : i = 0 := by omega
  simpa using hc
/-- Events are told anew but where the one ahead says the same. -/
def M.kb (ah e : M.Ev) : List Nat := if e.k = ah.k ∧ e.c = ah.c then [] else [(16 * e.k + e.c).toNat]
def M.bb (e : M.Ev) : List Nat := if e.k = 12 then [] else [e.b.toNat]
theorem M.eb_parts (ah e : M.Ev) : M.eb ah e = M.wt (e.t - ah.t).toNat ++ (M.kb ah e ++ (e.a.toNat :: M.bb e)) := rfl
theorem ub' {x : Int} (h0 : 0 ≤ x) (h1 : x ≤ 255) : IntKind.u8.wrap x = x := by
  rw [IntKind.wrap_u8]; omega

set_option maxRecDepth 20000 in
set_option maxHeartbeats 8000000 in
theorem refPack_any (l : List M.Ev) (ao : Option Addr) (c : Nat) (w : World) (hp : LE w ao l) (hc : l.length ≤ c) (hcm : c ≤ 9223372036854775807) (hbd : ∀ e ∈ l, e.t ≤ 9223372036854775807) :
    Calls Try.prog 21 #[.slice ao l.length c] w fun e w' => e = .returned (.tuple #[.string (pa l), .int .i64 (M.wr l)]) ∧ Below w.heap.size w w' := by
  have HW := refWrong_any l ao c w hp hc hcm hbd
  by_cases hok : M.wr l = 0
  · have hpa : pa l = bs (M.pk M.z0 l) := if_pos hok
    have hlen : l.length ≤ 4096 := by
      by_cases h : 4096 < l.length
      · unfold M.wr at hok; rw [if_pos h] at hok; omega
      · omega
    have hwl : Hid (M.wl 0 l = 0) := by show _ = _; unfold M.wr at hok; rw [if_neg (by omega)] at hok; exact hok
    rw [hpa, hok]
    rw [hok] at HW
    clear hpa hok
    obtain ⟨PK, hPK⟩ : ∃ P, P = bs (M.pk M.z0 l) := ⟨_, rfl⟩
    rw [← hPK]
    have HPK : Hid (PK = bs (M.pk M.z0 (l.take l.length))) := by show _ = _; rw [List.take_length]; exact hPK
    clear hPK
    have HD := Data_any
    go_enter Try.func21, Try.ntmps21
    go_wp2_with fail
    refine HW.mono ?_
    rintro e w1 ⟨rfl, hb1⟩
    have z1 := hb1.size
    clear HW
    go_wp2_with fail
    go_loopw [17, 5] (fun i o wr => ∃ (k : Nat) (S : ByteArray), k ≤ l.length ∧ i = .int .i64 k ∧ o = .string S ∧ Hid (S = bs (M.pk M.z0 (l.take k))) ∧ Below w.heap.size w wr) (fun i _ _ => l.length - (intOf i).toNat)
    case atStart => exact ⟨0, _, by omega, rfl, rfl, rfl, hb1⟩
    case round =>
      obtain ⟨k, S, hkn, rfl, rfl, hS, hbr⟩ := hrel
      by_cases hlt : k < l.length
      · have hlt' : (k : Int) < l.length := by omega
        obtain ⟨b, off, rfl, hbl, q0⟩ := (hp.step hbr).at' (by omega)
        obtain ⟨e, he⟩ : ∃ e, l[k]? = some e := ⟨_, List.getElem?_eq_getElem hlt⟩
        have q := q0 k e he
        have r0 := q.c0
        have r1 := q.c1
        have r2 := q.c2
        have r3 := q.c3
        have r4 := q.c4
        have w3 : IntKind.i64.wrap ((k : Int) + 1) = (k : Int) + 1 := wid (by omega) (by omega)
        obtain ⟨e1, e2⟩ := M.wl_each hwl.out he
        have hth := hbd e (List.mem_of_getElem? he)
        have hSz : S.size ≤ 28672 := by
          rw [hS.out, bs_len]
          have := M.pk_len M.z0 (l.take k); rw [List.length_take] at this; omega
        have HS2 : Hid (S ++ (bs (M.wt (e.t - (M.lst M.z0 (l.take k)).t).toNat)) ++ bs (M.kb (M.lst M.z0 (l.take k)) e) ++ bs [e.a.toNat] ++ bs (M.bb e) = bs (M.pk M.z0 (l.take (k + 1)))) := by
          show _ = _
          rw [M.pk_take he, M.eb_parts, hS.out, bs_app, bs_app, bs_app, bs_app]
          congr 1
          simp
        have hlast : Hid ((¬ 0 < k ∧ M.lst M.z0 (l.take k) = M.z0) ∨ ∃ j, Hid (k = j + 1) ∧ 0 < k ∧ E5 wr b (off + j * 5) (M.lst M.z0 (l.take k)) ∧ IntKind.i64.wrap ((k : Int) - 1) = (j : Int) ∧ j < l.length) := by
          show _ ∨ _
          by_cases h0 : k = 0
          · subst h0; exact Or.inl ⟨by omega, rfl⟩
          · obtain ⟨j, rfl⟩ : ∃ j, k = j + 1 := ⟨k - 1, by omega⟩
            obtain ⟨e', he'⟩ : ∃ e, l[j]? = some e := ⟨_, List.getElem?_eq_getElem (by omega)⟩
            refine Or.inr ⟨j, rfl, by omega, ?_, by rw [wid (by omega) (by omega)]; omega, by omega⟩
            rw [M.lst_take2 he']
            exact q0 j e' he'
        generalize M.lst M.z0 (l.take k) = AH at *
        obtain ⟨q1, ⟨q2, q3, q4, q5⟩, q6, q7⟩ := M.we_ok.1 e1
        have hkk := M.isK_cases q1
        have HDk := HD e.k
        have hD2 : (M.dt e.k == 2) = (e.k != 12) := by
          rcases hkk with h | h | h | h | h <;> rw [h] <;> decide
        generalize M.dt e.k = D at *
        have HKB : Hid ((e.k = AH.k ∧ e.c = AH.c) → M.kb AH e = []) := fun h => if_pos h
        have HKN : Hid (¬ (e.k = AH.k ∧ e.c = AH.c) → M.kb AH e = [(16 * e.k + e.c).toNat]) := fun h => if_neg h
        have HBB : Hid (e.k = 12 → M.bb e = []) := fun h => if_pos h
        have HBN : Hid (¬ e.k = 12 → M.bb e = [e.b.toNat]) := fun h => if_neg h
        generalize M.kb AH e = KB at *
        generalize M.bb e = BB at *
        have hz0 : AH = M.z0 → ¬ (e.k = AH.k ∧ e.c = AH.c) := fun h => by rw [h]; rintro ⟨h1, _⟩; simp only at h1; omega
        have hz0' : Hid (AH = M.z0 → ¬ (e.k = AH.k ∧ e.c = AH.c)) := hz0
        clear q q0 he e1 hS hz0
        obtain ⟨et, ek, ec', ea', eb'⟩ := e
        obtain ⟨at', ak, ac, aa, ab⟩ := AH
        simp only at *
        have wd : IntKind.i64.wrap (et - at') = et - at' := wid (by omega) (by omega)
        obtain ⟨n, hn⟩ : ∃ n : Nat, et - at' = (n : Int) := ⟨(et - at').toNat, by omega⟩
        have hnn : (et - at').toNat = n := by omega
        have hn2 : n ≤ 268435455 := by omega
        have HWt := fun w => Wait_any n hn2 w
        have wl := M.wt_len n
        rw [hnn] at HS2
        have hWz : (bs (M.wt n)).size ≤ 4 := by rw [bs_len]; omega
        have u1 : IntKind.u8.wrap (16 * ek + ec') = 16 * ek + ec' := ub' (by omega) (by omega)
        have u2 : IntKind.u8.wrap ea' = ea' := ub' (by omega) (by omega)
        have u3 : IntKind.u8.wrap eb' = eb' := ub' (by omega) (by omega)
        have v1 : Hid (16 * ek + ec' = ((16 * ek + ec').toNat : Nat)) := by show _ = _; omega
        have v2 : Hid (ea' = (ea'.toNat : Nat)) := by show _ = _; omega
        have v3 : Hid (eb' = (eb'.toNat : Nat)) := by show _ = _; omega
        have hkb : 8 ≤ ek ∧ ek ≤ 14 := by omega
        have hcb : 0 ≤ ec' ∧ ec' ≤ 15 := q2
        have hb4 : ∀ (W : World) os, Below W.heap.size W (W.alloc os) := fun W os => by go_grown
        clear q1 q2 q3 q4 q5 hkk hnn wl
        rcases hlast.out with ⟨hk0, hah⟩ | ⟨j, hkj, hk0, e5, wj, hj⟩
        · have hk0' : ¬ (0 : Int) < (k : Int) := by omega
          have hnot := hz0'.out hah
          obtain ⟨rfl, rfl, rfl, rfl, rfl⟩ : at' = 0 ∧ ak = 0 ∧ ac = 0 ∧ aa = 0 ∧ ab = 0 := by cases hah; exact ⟨rfl, rfl, rfl, rfl, rfl⟩
          have hbA : Hid (∀ (os : Obj) (n : Nat), Below w.heap.size w (wr.alloc os)) := fun os n => hbr.alloc hbr.size _
          clear hah hz0' hk0 hlast
          go_wp2_with (simp only [hn])
          refine (HWt _).mono ?_
          rintro x w5 ⟨⟨v, rfl, ho⟩, hb5⟩
          have z5 := hb5.size
          simp at z5
          have z5' : wr.heap.size < w5.heap.size := by omega
          have hb6 : Below w.heap.size w w5 := by
            have h7 := (hbA.out _ 0).trans (hb5.mono (hbA.out _ 0).size)
            exact h7
          have a1 : w5.cell? ⟨wr.heap.size, 1, none⟩ = some (.int .i64 ek) := keepC hb5 (by simp) (by simp [go_sem])
          have a2 : w5.cell? ⟨wr.heap.size, 2, none⟩ = some (.int .i64 ec') := keepC hb5 (by simp) (by simp [go_sem])
          have a3 : w5.cell? ⟨wr.heap.size, 3, none⟩ = some (.int .i64 ea') := keepC hb5 (by simp) (by simp [go_sem])
          have a4 : w5.cell? ⟨wr.heap.size, 4, none⟩ = some (.int .i64 eb') := keepC hb5 (by simp) (by simp [go_sem])
          obtain ⟨va, vc, rfl, hcv⟩ := ho.conv
          generalize bs (M.wt n) = WT at *
          have hs1 : ¬ 9223372036854775807 < S.size + WT.size := by omega
          clear ho hb5 HWt hbA
          obtain ⟨S1, hS1, hS1z⟩ : ∃ X, S ++ WT = X ∧ X.size ≤ 28676 := ⟨_, rfl, by rw [ByteArray.size_append]; omega⟩
          have f1 : (convert 65 9 (.slice (some ⟨w5.heap.size, 0, none⟩) 1 1)).run Try.prog (w5.alloc (.cells #[.int .u8 (16 * ek + ec')] 5)) = .ok (.string (bs [(16 * ek + ec').toNat])) (w5.alloc (.cells #[.int .u8 (16 * ek + ec')] 5)) := bs_one v1.out _ _ (by simp [go_sem])
          rw [HKN.out hnot] at HS2
          have f2 : (convert 65 9 (.slice (some ⟨w5.heap.size + 1, 0, none⟩) 1 1)).run Try.prog ((w5.alloc (.cells #[.int .u8 (16 * ek + ec')] 5)).alloc (.cells #[.int .u8 ea'] 5)) = .ok (.string (bs [ea'.toNat])) ((w5.alloc (.cells #[.int .u8 (16 * ek + ec')] 5)).alloc (.cells #[.int .u8 ea'] 5)) := bs_one v2.out _ _ (by simp [go_sem])
          have f3 : (convert 65 9 (.slice (some ⟨w5.heap.size + 1 + 1, 0, none⟩) 1 1)).run Try.prog (((w5.alloc (.cells #[.int .u8 (16 * ek + ec')] 5)).alloc (.cells #[.int .u8 ea'] 5)).alloc (.cells #[.int .u8 eb'] 5)) = .ok (.string (bs [eb'.toNat])) (((w5.alloc (.cells #[.int .u8 (16 * ek + ec')] 5)).alloc (.cells #[.int .u8 ea'] 5)).alloc (.cells #[.int .u8 eb'] 5)) := bs_one v3.out _ _ (by simp [go_sem])
          have y1 : (bs [(16 * ek + ec').toNat]).size = 1 := bs_len _
          generalize bs [(16 * ek + ec').toNat] = B1 at *
          have y2 : (bs [ea'.toNat]).size = 1 := bs_len _
          have y3 : (bs [eb'.toNat]).size = 1 := bs_len _
          have HN3 : Hid (BB = [eb'.toNat] → bs BB = bs [eb'.toNat]) := fun h => by rw [h]
          have HN0 : Hid (BB = [] → bs BB = ⟨#[]⟩) := fun h => by rw [h]; rfl
          generalize bs [ea'.toNat] = B2 at *
          generalize bs [eb'.toNat] = B3 at *
          generalize bs BB = BV at *
          obtain ⟨S2, hS2, hS2z⟩ : ∃ X, S1 ++ B1 = X ∧ X.size ≤ 28677 := ⟨_, rfl, by rw [ByteArray.size_append]; omega⟩
          have hs2 : ¬ 9223372036854775807 < S1.size + B1.size := by omega
          have hE2 : Hid (S ++ WT ++ B1 = S2) := by show _ = _; rw [hS1, hS2]
          obtain ⟨S3, hS3, hS3z⟩ : ∃ X, S2 ++ B2 = X ∧ X.size ≤ 28678 := ⟨_, rfl, by rw [ByteArray.size_append]; omega⟩
          have hs3 : ¬ 9223372036854775807 < S2.size + B2.size := by omega
          obtain ⟨S4, hS4, hS4z⟩ : ∃ X, S3 ++ B3 = X ∧ X.size ≤ 28679 := ⟨_, rfl, by rw [ByteArray.size_append]; omega⟩
          have hs4 : ¬ 9223372036854775807 < S3.size + B3.size := by omega
          have HF : Hid (S3 ++ BV = bs (M.pk M.z0 (l.take (k + 1)))) := by show _ = _; rw [← hS3, ← hE2.out]; exact HS2.out
          clear HS2 hE2 HKN HKB y1 y2 y3 hS1z v1 v2 v3
          go_wp2_with fail
          refine (HDk _).mono ?_
          rintro x w9 ⟨rfl, hw9⟩
          rw [hw9]
          clear hw9
          by_cases ck : ek = 12
          · have hd : (D == 2) = false := by rw [hD2, ck]; decide
            have hBV := HN0.out (HBB.out ck)
            have HF2 : Hid (S3 = bs (M.pk M.z0 (l.take (k + 1)))) := by show _ = _; rw [← HF.out, hBV]; exact ByteArray.append_empty.symm
            clear HF HN0 HN3 HBB HBN hBV hD2 ck hS4 f3
            go_wp2_with fail
            go_roundw
            case rel => exact ⟨k + 1, S3, by omega, by go_num, rfl, HF2, ((hb6.alloc (by first | exact hb6.size | (simp; have := hb6.size; omega)) _).alloc (by first | exact hb6.size | (simp; have := hb6.size; omega)) _)⟩
            case measure => simp [intOf]; omega
          · have hd : (D == 2) = true := by rw [hD2]; simp [ck]
            have hBV := HN3.out (HBN.out ck)
            have HF2 : Hid (S4 = bs (M.pk M.z0 (l.take (k + 1)))) := by show _ = _; rw [← HF.out, hBV, hS4]
            clear HF HN0 HN3 HBB HBN hBV hD2 ck
            go_wp2_with fail
            go_roundw
            case rel => exact ⟨k + 1, S4, by omega, by go_num, rfl, HF2, (((hb6.alloc (by first | exact hb6.size | (simp; have := hb6.size; omega)) _).alloc (by first | exact hb6.size | (simp; have := hb6.size; omega)) _).alloc (by first | exact hb6.size | (simp; have := hb6.size; omega)) _)⟩
            case measure => simp [intOf]; omega
        · have hk0' : (0 : Int) < (k : Int) := by omega
          have hbA : Hid (∀ (os : Obj) (n : Nat), Below w.heap.size w ((wr.alloc os).drewN n)) := fun os n => (hbr.alloc hbr.size os).trans ⟨rfl, rfl, rfl, Nat.le_refl _, fun _ _ => rfl⟩
          have g0 := e5.c0
          have g1 := e5.c1
          have g2 := e5.c2
          simp only at g0 g1 g2
          clear hz0' hk0 hlast e5
          by_cases htold : ek = ak ∧ ec' = ac
          · obtain ⟨rfl, rfl⟩ := htold
            have hKB0 : Hid (KB = []) := HKB.out ⟨rfl, rfl⟩
            have ht2 : (ek == ek) = true := by simp
            have ht3 : (ec' == ec') = true := by simp
            go_wp2_with (simp only [hn])
            go_quiet (fail)
            go_wp2_with (simp only [hn])
            refine (HWt _).mono ?_
            rintro x w5 ⟨⟨v, rfl, ho⟩, hb5⟩
            have z5 := hb5.size
            simp at z5
            have z5' : wr.heap.size < w5.heap.size := by omega
            have hb6 : Below w.heap.size w w5 := by
              have h7 := (hbA.out _ nq).trans (hb5.mono (hbA.out _ nq).size)
              exact h7
            have a1 : w5.cell? ⟨wr.heap.size, 1, none⟩ = some (.int .i64 ek) := keepC hb5 (by simp) (by simp [go_sem])
            have a2 : w5.cell? ⟨wr.heap.size, 2, none⟩ = some (.int .i64 ec') := keepC hb5 (by simp) (by simp [go_sem])
            have a3 : w5.cell? ⟨wr.heap.size, 3, none⟩ = some (.int .i64 ea') := keepC hb5 (by simp) (by simp [go_sem])
            have a4 : w5.cell? ⟨wr.heap.size, 4, none⟩ = some (.int .i64 eb') := keepC hb5 (by simp) (by simp [go_sem])
            obtain ⟨va, vc, rfl, hcv⟩ := ho.conv
            generalize bs (M.wt n) = WT at *
            have hs1 : ¬ 9223372036854775807 < S.size + WT.size := by omega
            clear ho hb5 HWt hbA
            obtain ⟨S1, hS1, hS1z⟩ : ∃ X, S ++ WT = X ∧ X.size ≤ 28676 := ⟨_, rfl, by rw [ByteArray.size_append]; omega⟩
            rw [hKB0.out] at HS2
            have f2 : (convert 65 9 (.slice (some ⟨w5.heap.size, 0, none⟩) 1 1)).run Try.prog (w5.alloc (.cells #[.int .u8 ea'] 5)) = .ok (.string (bs [ea'.toNat])) (w5.alloc (.cells #[.int .u8 ea'] 5)) := bs_one v2.out _ _ (by simp [go_sem])
            have f3 : (convert 65 9 (.slice (some ⟨w5.heap.size + 1, 0, none⟩) 1 1)).run Try.prog ((w5.alloc (.cells #[.int .u8 ea'] 5)).alloc (.cells #[.int .u8 eb'] 5)) = .ok (.string (bs [eb'.toNat])) ((w5.alloc (.cells #[.int .u8 ea'] 5)).alloc (.cells #[.int .u8 eb'] 5)) := bs_one v3.out _ _ (by simp [go_sem])
            have y1 : (bs ([] : List Nat)).size = 0 := bs_len _
            generalize bs ([] : List Nat) = B1 at *
            have y2 : (bs [ea'.toNat]).size = 1 := bs_len _
            have y3 : (bs [eb'.toNat]).size = 1 := bs_len _
            have HN3 : Hid (BB = [eb'.toNat] → bs BB = bs [eb'.toNat]) := fun h => by rw [h]
            have HN0 : Hid (BB = [] → bs BB = ⟨#[]⟩) := fun h => by rw [h]; rfl
            generalize bs [ea'.toNat] = B2 at *
            generalize bs [eb'.toNat] = B3 at *
            generalize bs BB = BV at *
            obtain ⟨S2, hS2, hS2z⟩ : ∃ X, X = S1 ∧ X.size ≤ 28677 := ⟨_, rfl, by omega⟩
            have hB1 : B1 = ⟨#[]⟩ := by apply ByteArray.ext; exact Array.eq_empty_of_size_eq_zero y1
            have hE2 : Hid (S ++ WT ++ B1 = S2) := by show _ = _; rw [hS1, hS2, hB1]; exact ByteArray.append_empty
            subst hS2
            clear hB1
            obtain ⟨S3, hS3, hS3z⟩ : ∃ X, S2 ++ B2 = X ∧ X.size ≤ 28678 := ⟨_, rfl, by rw [ByteArray.size_append]; omega⟩
            have hs3 : ¬ 9223372036854775807 < S2.size + B2.size := by omega
            obtain ⟨S4, hS4, hS4z⟩ : ∃ X, S3 ++ B3 = X ∧ X.size ≤ 28679 := ⟨_, rfl, by rw [ByteArray.size_append]; omega⟩
            have hs4 : ¬ 9223372036854775807 < S3.size + B3.size := by omega
            have HF : Hid (S3 ++ BV = bs (M.pk M.z0 (l.take (k + 1)))) := by show _ = _; rw [← hS3, ← hE2.out]; exact HS2.out
            clear HS2 hE2 HKN HKB y1 y2 y3 hS1z v1 v2 v3
            go_wp2_with fail
            refine (HDk _).mono ?_
            rintro x w9 ⟨rfl, hw9⟩
            rw [hw9]
            clear hw9
            by_cases ck : ek = 12
            · have hd : (D == 2) = false := by rw [hD2, ck]; decide
              have hBV := HN0.out (HBB.out ck)
              have HF2 : Hid (S3 = bs (M.pk M.z0 (l.take (k + 1)))) := by show _ = _; rw [← HF.out, hBV]; exact ByteArray.append_empty.symm
              clear HF HN0 HN3 HBB HBN hBV hD2 ck hS4 f3
              go_wp2_with fail
              go_roundw
              case rel => exact ⟨k + 1, S3, by omega, by go_num, rfl, HF2, (hb6.alloc (by first | exact hb6.size | (simp; have := hb6.size; omega)) _)⟩
              case measure => simp [intOf]; omega
            · have hd : (D == 2) = true := by rw [hD2]; simp [ck]
              have hBV := HN3.out (HBN.out ck)
              have HF2 : Hid (S4 = bs (M.pk M.z0 (l.take (k + 1)))) := by show _ = _; rw [← HF.out, hBV, hS4]
              clear HF HN0 HN3 HBB HBN hBV hD2 ck
              go_wp2_with fail
              go_roundw
              case rel => exact ⟨k + 1, S4, by omega, by go_num, rfl, HF2, ((hb6.alloc (by first | exact hb6.size | (simp; have := hb6.size; omega)) _).alloc (by first | exact hb6.size | (simp; have := hb6.size; omega)) _)⟩
              case measure => simp [intOf]; omega
          · have hnot := htold
            by_cases h1 : ak = ek
            · have ht1 : decide (ak = ek) = true := by simp [h1]
              have ht2 : (ak == ek) = true := by simp [h1]
              have ht3 : (ac == ec') = false := by
                have : ¬ ac = ec' := fun q => htold ⟨h1.symm, q.symm⟩
                simp [this]
              clear htold h1
              have hnot' : Hid (¬(ek = ak ∧ ec' = ac)) := hnot
              clear hnot
              go_wp2_with (simp only [hn])
              go_quiet (fail)
              go_wp2_with (simp only [hn])
              have hnot := hnot'.out
              clear hnot'
              refine (HWt _).mono ?_
              rintro x w5 ⟨⟨v, rfl, ho⟩, hb5⟩
              have z5 := hb5.size
              simp at z5
              have z5' : wr.heap.size < w5.heap.size := by omega
              have hb6 : Below w.heap.size w w5 := by
                have h7 := (hbA.out _ nq).trans (hb5.mono (hbA.out _ nq).size)
                exact h7
              have a1 : w5.cell? ⟨wr.heap.size, 1, none⟩ = some (.int .i64 ek) := keepC hb5 (by simp) (by simp [go_sem])
              have a2 : w5.cell? ⟨wr.heap.size, 2, none⟩ = some (.int .i64 ec') := keepC hb5 (by simp) (by simp [go_sem])
              have a3 : w5.cell? ⟨wr.heap.size, 3, none⟩ = some (.int .i64 ea') := keepC hb5 (by simp) (by simp [go_sem])
              have a4 : w5.cell? ⟨wr.heap.size, 4, none⟩ = some (.int .i64 eb') := keepC hb5 (by simp) (by simp [go_sem])
              obtain ⟨va, vc, rfl, hcv⟩ := ho.conv
              generalize bs (M.wt n) = WT at *
              have hs1 : ¬ 9223372036854775807 < S.size + WT.size := by omega
              clear ho hb5 HWt hbA
              obtain ⟨S1, hS1, hS1z⟩ : ∃ X, S ++ WT = X ∧ X.size ≤ 28676 := ⟨_, rfl, by rw [ByteArray.size_append]; omega⟩
              have f1 : (convert 65 9 (.slice (some ⟨w5.heap.size, 0, none⟩) 1 1)).run Try.prog (w5.alloc (.cells #[.int .u8 (16 * ek + ec')] 5)) = .ok (.string (bs [(16 * ek + ec').toNat])) (w5.alloc (.cells #[.int .u8 (16 * ek + ec')] 5)) := bs_one v1.out _ _ (by simp [go_sem])
              rw [HKN.out hnot] at HS2
              have f2 : (convert 65 9 (.slice (some ⟨w5.heap.size + 1, 0, none⟩) 1 1)).run Try.prog ((w5.alloc (.cells #[.int .u8 (16 * ek + ec')] 5)).alloc (.cells #[.int .u8 ea'] 5)) = .ok (.string (bs [ea'.toNat])) ((w5.alloc (.cells #[.int .u8 (16 * ek + ec')] 5)).alloc (.cells #[.int .u8 ea'] 5)) := bs_one v2.out _ _ (by simp [go_sem])
              have f3 : (convert 65 9 (.slice (some ⟨w5.heap.size + 1 + 1, 0, none⟩) 1 1)).run Try.prog (((w5.alloc (.cells #[.int .u8 (16 * ek + ec')] 5)).alloc (.cells #[.int .u8 ea'] 5)).alloc (.cells #[.int .u8 eb'] 5)) = .ok (.string (bs [eb'.toNat])) (((w5.alloc (.cells #[.int .u8 (16 * ek + ec')] 5)).alloc (.cells #[.int .u8 ea'] 5)).alloc (.cells #[.int .u8 eb'] 5)) := bs_one v3.out _ _ (by simp [go_sem])
              have y1 : (bs [(16 * ek + ec').toNat]).size = 1 := bs_len _
              generalize bs [(16 * ek + ec').toNat] = B1 at *
              have y2 : (bs [ea'.toNat]).size = 1 := bs_len _
              have y3 : (bs [eb'.toNat]).size = 1 := bs_len _
              have HN3 : Hid (BB = [eb'.toNat] → bs BB = bs [eb'.toNat]) := fun h => by rw [h]
              have HN0 : Hid (BB = [] → bs BB = ⟨#[]⟩) := fun h => by rw [h]; rfl
              generalize bs [ea'.toNat] = B2 at *
              generalize bs [eb'.toNat] = B3 at *
              generalize bs BB = BV at *
              obtain ⟨S2, hS2, hS2z⟩ : ∃ X, S1 ++ B1 = X ∧ X.size ≤ 28677 := ⟨_, rfl, by rw [ByteArray.size_append]; omega⟩
              have hs2 : ¬ 9223372036854775807 < S1.size + B1.size := by omega
              have hE2 : Hid (S ++ WT ++ B1 = S2) := by show _ = _; rw [hS1, hS2]
              obtain ⟨S3, hS3, hS3z⟩ : ∃ X, S2 ++ B2 = X ∧ X.size ≤ 28678 := ⟨_, rfl, by rw [ByteArray.size_append]; omega⟩
              have hs3 : ¬ 9223372036854775807 < S2.size + B2.size := by omega
              obtain ⟨S4, hS4, hS4z⟩ : ∃ X, S3 ++ B3 = X ∧ X.size ≤ 28679 := ⟨_, rfl, by rw [ByteArray.size_append]; omega⟩
              have hs4 : ¬ 9223372036854775807 < S3.size + B3.size := by omega
              have HF : Hid (S3 ++ BV = bs (M.pk M.z0 (l.take (k + 1)))) := by show _ = _; rw [← hS3, ← hE2.out]; exact HS2.out
              clear HS2 hE2 HKN HKB y1 y2 y3 hS1z v1 v2 v3
              go_wp2_with fail
              refine (HDk _).mono ?_
              rintro x w9 ⟨rfl, hw9⟩
              rw [hw9]
              clear hw9
              by_cases ck : ek = 12
              · have hd : (D == 2) = false := by rw [hD2, ck]; decide
                have hBV := HN0.out (HBB.out ck)
                have HF2 : Hid (S3 = bs (M.pk M.z0 (l.take (k + 1)))) := by show _ = _; rw [← HF.out, hBV]; exact ByteArray.append_empty.symm
                clear HF HN0 HN3 HBB HBN hBV hD2 ck hS4 f3
                go_wp2_with fail
                go_roundw
                case rel => exact ⟨k + 1, S3, by omega, by go_num, rfl, HF2, ((hb6.alloc (by first | exact hb6.size | (simp; have := hb6.size; omega)) _).alloc (by first | exact hb6.size | (simp; have := hb6.size; omega)) _)⟩
                case measure => simp [intOf]; omega
              · have hd : (D == 2) = true := by rw [hD2]; simp [ck]
                have hBV := HN3.out (HBN.out ck)
                have HF2 : Hid (S4 = bs (M.pk M.z0 (l.take (k + 1)))) := by show _ = _; rw [← HF.out, hBV, hS4]
                clear HF HN0 HN3 HBB HBN hBV hD2 ck
                go_wp2_with fail
                go_roundw
                case rel => exact ⟨k + 1, S4, by omega, by go_num, rfl, HF2, (((hb6.alloc (by first | exact hb6.size | (simp; have := hb6.size; omega)) _).alloc (by first | exact hb6.size | (simp; have := hb6.size; omega)) _).alloc (by first | exact hb6.size | (simp; have := hb6.size; omega)) _)⟩
                case measure => simp [intOf]; omega
            · have ht1 : decide (ak = ek) = false := by simp [h1]
              have ht2 : (ak == ek) = false := by simp [h1]
              clear htold h1
              have hnot' : Hid (¬(ek = ak ∧ ec' = ac)) := hnot
              clear hnot
              go_wp2_with (simp only [hn])
              go_quiet (fail)
              go_wp2_with (simp only [hn])
              have hnot := hnot'.out
              clear hnot'
              refine (HWt _).mono ?_
              rintro x w5 ⟨⟨v, rfl, ho⟩, hb5⟩
              have z5 := hb5.size
              simp at z5
              have z5' : wr.heap.size < w5.heap.size := by omega
              have hb6 : Below w.heap.size w w5 := by
                have h7 := (hbA.out _ nq).trans (hb5.mono (hbA.out _ nq).size)
                exact h7
              have a1 : w5.cell? ⟨wr.heap.size, 1, none⟩ = some (.int .i64 ek) := keepC hb5 (by simp) (by simp [go_sem])
              have a2 : w5.cell? ⟨wr.heap.size, 2, none⟩ = some (.int .i64 ec') := keepC hb5 (by simp) (by simp [go_sem])
              have a3 : w5.cell? ⟨wr.heap.size, 3, none⟩ = some (.int .i64 ea') := keepC hb5 (by simp) (by simp [go_sem])
              have a4 : w5.cell? ⟨wr.heap.size, 4, none⟩ = some (.int .i64 eb') := keepC hb5 (by simp) (by simp [go_sem])
              obtain ⟨va, vc, rfl, hcv⟩ := ho.conv
              generalize bs (M.wt n) = WT at *
              have hs1 : ¬ 9223372036854775807 < S.size + WT.size := by omega
              clear ho hb5 HWt hbA
              obtain ⟨S1, hS1, hS1z⟩ : ∃ X, S ++ WT = X ∧ X.size ≤ 28676 := ⟨_, rfl, by rw [ByteArray.size_append]; omega⟩
              have f1 : (convert 65 9 (.slice (some ⟨w5.heap.size, 0, none⟩) 1 1)).run Try.prog (w5.alloc (.cells #[.int .u8 (16 * ek + ec')] 5)) = .ok (.string (bs [(16 * ek + ec').toNat])) (w5.alloc (.cells #[.int .u8 (16 * ek + ec')] 5)) := bs_one v1.out _ _ (by simp [go_sem])
              rw [HKN.out hnot] at HS2
              have f2 : (convert 65 9 (.slice (some ⟨w5.heap.size + 1, 0, none⟩) 1 1)).run Try.prog ((w5.alloc (.cells #[.int .u8 (16 * ek + ec')] 5)).alloc (.cells #[.int .u8 ea'] 5)) = .ok (.string (bs [ea'.toNat])) ((w5.alloc (.cells #[.int .u8 (16 * ek + ec')] 5)).alloc (.cells #[.int .u8 ea'] 5)) := bs_one v2.out _ _ (by simp [go_sem])
              have f3 : (convert 65 9 (.slice (some ⟨w5.heap.size + 1 + 1, 0, none⟩) 1 1)).run Try.prog (((w5.alloc (.cells #[.int .u8 (16 * ek + ec')] 5)).alloc (.cells #[.int .u8 ea'] 5)).alloc (.cells #[.int .u8 eb'] 5)) = .ok (.string (bs [eb'.toNat])) (((w5.alloc (.cells #[.int .u8 (16 * ek + ec')] 5)).alloc (.cells #[.int .u8 ea'] 5)).alloc (.cells #[.int .u8 eb'] 5)) := bs_one v3.out _ _ (by simp [go_sem])
              have y1 : (bs [(16 * ek + ec').toNat]).size = 1 := bs_len _
              generalize bs [(16 * ek + ec').toNat] = B1 at *
              have y2 : (bs [ea'.toNat]).size = 1 := bs_len _
              have y3 : (bs [eb'.toNat]).size = 1 := bs_len _
              have HN3 : Hid (BB = [eb'.toNat] → bs BB = bs [eb'.toNat]) := fun h => by rw [h]
              have HN0 : Hid (BB = [] → bs BB = ⟨#[]⟩) := fun h => by rw [h]; rfl
              generalize bs [ea'.toNat] = B2 at *
              generalize bs [eb'.toNat] = B3 at *
              generalize bs BB = BV at *
              obtain ⟨S2, hS2, hS2z⟩ : ∃ X, S1 ++ B1 = X ∧ X.size ≤ 28677 := ⟨_, rfl, by rw [ByteArray.size_append]; omega⟩
              have hs2 : ¬ 9223372036854775807 < S1.size + B1.size := by omega
              have hE2 : Hid (S ++ WT ++ B1 = S2) := by show _ = _; rw [hS1, hS2]
              obtain ⟨S3, hS3, hS3z⟩ : ∃ X, S2 ++ B2 = X ∧ X.size ≤ 28678 := ⟨_, rfl, by rw [ByteArray.size_append]; omega⟩
              have hs3 : ¬ 9223372036854775807 < S2.size + B2.size := by omega
              obtain ⟨S4, hS4, hS4z⟩ : ∃ X, S3 ++ B3 = X ∧ X.size ≤ 28679 := ⟨_, rfl, by rw [ByteArray.size_append]; omega⟩
              have hs4 : ¬ 9223372036854775807 < S3.size + B3.size := by omega
              have HF : Hid (S3 ++ BV = bs (M.pk M.z0 (l.take (k + 1)))) := by show _ = _; rw [← hS3, ← hE2.out]; exact HS2.out
              clear HS2 hE2 HKN HKB y1 y2 y3 hS1z v1 v2 v3
              go_wp2_with fail
              refine (HDk _).mono ?_
              rintro x w9 ⟨rfl, hw9⟩
              rw [hw9]
              clear hw9
              by_cases ck : ek = 12
              · have hd : (D == 2) = false := by rw [hD2, ck]; decide
                have hBV := HN0.out (HBB.out ck)
                have HF2 : Hid (S3 = bs (M.pk M.z0 (l.take (k + 1)))) := by show _ = _; rw [← HF.out, hBV]; exact ByteArray.append_empty.symm
                clear HF HN0 HN3 HBB HBN hBV hD2 ck hS4 f3
                go_wp2_with fail
                go_roundw
                case rel => exact ⟨k + 1, S3, by omega, by go_num, rfl, HF2, ((hb6.alloc (by first | exact hb6.size | (simp; have := hb6.size; omega)) _).alloc (by first | exact hb6.size | (simp; have := hb6.size; omega)) _)⟩
                case measure => simp [intOf]; omega
              · have hd : (D == 2) = true := by rw [hD2]; simp [ck]
                have hBV := HN3.out (HBN.out ck)
                have HF2 : Hid (S4 = bs (M.pk M.z0 (l.take (k + 1)))) := by show _ = _; rw [← HF.out, hBV, hS4]
                clear HF HN0 HN3 HBB HBN hBV hD2 ck
                go_wp2_with fail
                go_roundw
                case rel => exact ⟨k + 1, S4, by omega, by go_num, rfl, HF2, (((hb6.alloc (by first | exact hb6.size | (simp; have := hb6.size; omega)) _).alloc (by first | exact hb6.size | (simp; have := hb6.size; omega)) _).alloc (by first | exact hb6.size | (simp; have := hb6.size; omega)) _)⟩
                case measure => simp [intOf]; omega
      · obtain rfl : k = l.length := by omega
        have hlt' : ¬ ((l.length : Nat) : Int) < l.length := by omega
        have hS' : S = PK := by rw [hS.out, HPK.out]
        subst hS'
        clear hS HPK
        go_wp2_with fail
        go_returns
        exact ⟨rfl, hbr⟩
  · have hpa : pa l = ⟨#[]⟩ := if_neg hok
    rw [hpa]
    generalize M.wr l = X at *
    have hx : (X != 0) = true := by simp [hok]
    clear hok hpa
    go_enter Try.func21, Try.ntmps21
    go_wp2_with fail
    refine HW.mono ?_
    rintro e w1 ⟨rfl, hb1⟩
    go_wp2_with fail
    go_returns
    exact ⟨rfl, hb1⟩
end Go.Proofs.Ythfjbjcdhgajfag.Z
