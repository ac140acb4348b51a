/- What the document's Data and Wrong come to. -/
import Derived.Test.YtaohahahhjkcdahZ1
namespace Go.Proofs.Ytaohahahhjkcdah.Z
open Go.RowKit
set_option linter.unusedVariables false
set_option linter.unusedSimpArgs false

/-- How many numbers a kind has. -/
def M.dt (k : Int) : Int := if k = 12 then 1 else if M.isK k = true then 2 else 0
theorem M.dt_none {k : Int} (h : M.isK k = false) : M.dt k = 0 := by
  unfold M.dt; rw [if_neg (by rintro rfl; revert h; decide), if_neg (by simp [h])]
theorem Data_any (k : Int) (w : World) : Calls Try.prog 27 #[.int .i64 k] w fun e w' => e = .returned (.int .i64 (M.dt k)) ∧ w' = w := by
  by_cases h : k = 8 ∨ k = 9 ∨ k = 11 ∨ k = 14
  · have e : M.dt k = 2 := by
      rcases h with rfl | rfl | rfl | rfl <;> decide
    rw [e]
    rcases h with rfl | rfl | rfl | rfl
    all_goals
      go_enter Try.func27, Try.ntmps27
      go_wp2_with fail
      go_ret
      exact ⟨rfl, rfl⟩
  · have h1 : (k == 8) = false := by simp; omega
    have h2 : (k == 9) = false := by simp; omega
    have h3 : (k == 11) = false := by simp; omega
    have h5 : (k == 14) = false := by simp; omega
    by_cases h4 : k = 12
    · subst h4
      go_enter Try.func27, Try.ntmps27
      go_wp2_with fail
      go_ret
      exact ⟨rfl, rfl⟩
    · have e : M.dt k = 0 := M.dt_none (by
        cases hk : M.isK k
        · rfl
        · exact absurd (M.isK_cases hk) (by omega))
      rw [e]
      have h6 : (k == 12) = false := by simp [h4]
      clear h e h4
      go_enter Try.func27, Try.ntmps27
      go_wp2_with fail
      go_ret
      exact ⟨rfl, rfl⟩

theorem M.wl_drop' {l : List M.Ev} {k : Nat} {e : M.Ev} (h : l[k]? = some e) (ah : Int) : M.wl ah (l.drop k) = if M.we e ah = 0 then M.wl e.t (l.drop (k + 1)) else M.we e ah := by
  obtain ⟨hk, he⟩ := List.getElem?_eq_some_iff.1 h
  rw [List.drop_eq_getElem_cons hk, he, M.wl_cons]
theorem M.lst_take {l : List M.Ev} {k : Nat} {e : M.Ev} (h : l[k]? = some e) (z : M.Ev) : M.lst z (l.take (k + 1)) = e := by
  rw [List.take_add_one, h]; exact M.lst_snoc _ _ _
theorem M.we_parts (e : M.Ev) (ah : Int) : (M.isK e.k = false → M.we e ah = 1) ∧ (M.isK e.k = true → (e.c < 0 ∨ 15 < e.c ∨ e.a < 0 ∨ 127 < e.a ∨ e.b < 0 ∨ 127 < e.b) → M.we e ah = 3) ∧
    (M.isK e.k = true → ¬ (e.c < 0 ∨ 15 < e.c ∨ e.a < 0 ∨ 127 < e.a ∨ e.b < 0 ∨ 127 < e.b) → M.we e ah = if e.k = 12 ∧ e.b ≠ 0 then 3 else if e.t < ah then 8 else if 268435455 < e.t - ah then 4 else 0) := by
  refine ⟨fun h => ?_, fun h h2 => ?_, fun h h2 => ?_⟩
  · unfold M.we; rw [if_pos h]
  · unfold M.we; rw [if_neg (by simp [h]), if_pos h2]
  · unfold M.we; rw [if_neg (by simp [h]), if_neg h2]

set_option maxHeartbeats 4000000 in
theorem refWrong_any (l : List M.Ev) (ao : Option Addr) (c : Nat) (w : World) (hp : LE w ao l) (hc : l.length ≤ c) (hcm : c ≤ 9223372036854775807) (hbd : ∀ e ∈ l, e.t ≤ 9223372036854775807) :
    Calls Try.prog 21 #[.slice ao l.length c] w fun e w' => e = .returned (.int .i64 (M.wr l)) ∧ Below w.heap.size w w' := by
  by_cases hm : 4096 < l.length
  · have e : M.wr l = 5 := by unfold M.wr; rw [if_pos hm]
    rw [e]
    have hm' : (4096 : Int) < l.length := by omega
    go_enter Try.func21, Try.ntmps21
    go_wp2_with fail
    go_ret
    exact ⟨rfl, by go_grown⟩
  have hm' : ¬ (4096 : Int) < l.length := by omega
  have e : M.wr l = M.wl (M.lst M.z0 (l.take 0)).t (l.drop 0) := by unfold M.wr; rw [if_neg hm]; rfl
  obtain ⟨V, hV⟩ : ∃ V, V = M.wl (M.lst M.z0 (l.take 0)).t (l.drop 0) := ⟨_, rfl⟩
  rw [e, ← hV]
  have HV : Hid (V = M.wl (M.lst M.z0 (l.take 0)).t (l.drop 0)) := hV
  have HD := Data_any
  clear e hV
  go_enter Try.func21, Try.ntmps21
  go_wp2_with fail
  go_loopw [11] (fun i wr => ∃ (k : Nat), k ≤ l.length ∧ i = .int .i64 k ∧ Hid (0 ≤ (M.lst M.z0 (l.take k)).t) ∧ Hid (V = M.wl (M.lst M.z0 (l.take k)).t (l.drop k)) ∧ Below w.heap.size w wr) (fun i _ => l.length - (intOf i).toNat)
  case atStart => exact ⟨0, by omega, rfl, Int.le_refl _, HV, Below.refl _ _⟩
  case round =>
    obtain ⟨k, hkn, rfl, hah, hk, hbr⟩ := hrel
    clear HV
    by_cases hlt : k < l.length
    · have hlt' : (k : Int) < l.length := by omega
      obtain ⟨b, off, rfl, hbl, q0⟩ := (hp.step hbr).at' (by omega)
      obtain ⟨e, he⟩ : ∃ e, l[k]? = some e := ⟨_, List.getElem?_eq_getElem hlt⟩
      have q := q0 k e he
      have r0 := q.c0
      have r1 := q.c1
      have r2 := q.c2
      have r3 := q.c3
      have r4 := q.c4
      have w3 : IntKind.i64.wrap ((k : Int) + 1) = (k : Int) + 1 := wid (by omega) (by omega)
      have hth : e.t ≤ 9223372036854775807 := hbd e (List.mem_of_getElem? he)
      obtain ⟨ah, hah2⟩ : ∃ ah, ah = (M.lst M.z0 (l.take k)).t := ⟨_, rfl⟩
      have hE : Hid (V = if M.we e ah = 0 then M.wl e.t (l.drop (k + 1)) else M.we e ah) := by show V = _; rw [hk.out, ← hah2]; exact M.wl_drop' he ah
      have hah0 : 0 ≤ ah := by rw [hah2]; exact hah.out
      have HE1 : Hid (M.lst M.z0 (l.take (k + 1)) = e) := M.lst_take he _
      have hmn : Hid (M.we e ah = 0 → 0 ≤ e.t) := fun h => by have := M.we_ok.1 h; omega
      obtain ⟨g1, g2, g3⟩ := M.we_parts e ah
      have G1 : Hid (M.isK e.k = false → M.we e ah = 1) := g1
      have G2 : Hid (M.isK e.k = true → (e.c < 0 ∨ 15 < e.c ∨ e.a < 0 ∨ 127 < e.a ∨ e.b < 0 ∨ 127 < e.b) → M.we e ah = 3) := g2
      have G3 : Hid (M.isK e.k = true → ¬ (e.c < 0 ∨ 15 < e.c ∨ e.a < 0 ∨ 127 < e.a ∨ e.b < 0 ∨ 127 < e.b) → M.we e ah = if e.k = 12 ∧ e.b ≠ 0 then 3 else if e.t < ah then 8 else if 268435455 < e.t - ah then 4 else 0) := g3
      have hlast : (¬ 0 < k ∧ ah = 0) ∨ ∃ j, Hid (k = j + 1) ∧ 0 < k ∧ wr.cell? ⟨b, off + j * 5, none⟩ = some (.int .i64 ah) ∧ IntKind.i64.wrap ((k : Int) - 1) = (j : Int) ∧ j < l.length := by
        by_cases h0 : k = 0
        · subst h0; exact Or.inl ⟨by omega, hah2⟩
        · obtain ⟨j, rfl⟩ : ∃ j, k = j + 1 := ⟨k - 1, by omega⟩
          obtain ⟨e', he'⟩ : ∃ e, l[j]? = some e := ⟨_, List.getElem?_eq_getElem (by omega)⟩
          have q' := q0 j e' he'
          refine Or.inr ⟨j, rfl, by omega, ?_, by rw [wid (by omega) (by omega)]; omega, by omega⟩
          rw [hah2, M.lst_take he']
          exact q'.c0
      have HDk := HD e.k
      have HK0 : Hid (M.isK e.k = false → M.dt e.k = 0) := M.dt_none
      have HK2 : Hid (M.isK e.k = true → M.dt e.k = if e.k = 12 then 1 else 2) := fun h => by unfold M.dt; split <;> simp_all
      clear q q0 hk he g1 g2 g3 hah hah2 HD hbd
      generalize M.we e ah = X at *
      obtain ⟨et, ek, ec, ea', eb'⟩ := e
      simp only at *
      generalize M.dt ek = D at *
      generalize M.isK ek = K at *
      cases K
      · have hX : X = 1 := G1.out rfl
        have hD : D = 0 := HK0.out rfl
        subst hX hD
        have hV := hE.out
        rw [if_neg (by decide)] at hV
        subst hV
        clear G1 G2 G3 HK0 HK2 hE hmn HE1 hlast
        go_wp2_with fail
        refine (HDk _).mono ?_
        rintro x w1 ⟨rfl, rfl⟩
        go_wp2_with fail
        go_ret
        exact ⟨rfl, hbr.alloc hbr.size _⟩
      clear G1 HK0
      have hD := HK2.out rfl
      have hD0 : (D == 0) = false := by rw [hD]; split <;> rfl
      by_cases c1 : ec < 0
      · have hX : X = 3 := G2.out rfl (by omega)
        subst hX
        have hV := hE.out
        rw [if_neg (by decide)] at hV
        subst hV
        clear G2 G3 HK2 hE hmn HE1 hlast hD
        go_wp2_with fail
        refine (HDk _).mono ?_
        rintro x w1 ⟨rfl, rfl⟩
        go_wp2_with fail
        go_ret
        exact ⟨rfl, hbr.alloc hbr.size _⟩
      by_cases c2 : 15 < ec
      · have hX : X = 3 := G2.out rfl (by omega)
        subst hX
        have hV := hE.out
        rw [if_neg (by decide)] at hV
        subst hV
        clear G2 G3 HK2 hE hmn HE1 hlast hD
        go_wp2_with fail
        refine (HDk _).mono ?_
        rintro x w1 ⟨rfl, rfl⟩
        go_wp2_with fail
        go_ret
        exact ⟨rfl, hbr.alloc hbr.size _⟩
      by_cases c3 : ea' < 0
      · have hX : X = 3 := G2.out rfl (by omega)
        subst hX
        have hV := hE.out
        rw [if_neg (by decide)] at hV
        subst hV
        clear G2 G3 HK2 hE hmn HE1 hlast hD
        go_wp2_with fail
        refine (HDk _).mono ?_
        rintro x w1 ⟨rfl, rfl⟩
        go_wp2_with fail
        go_ret
        exact ⟨rfl, hbr.alloc hbr.size _⟩
      by_cases c4 : 127 < ea'
      · have hX : X = 3 := G2.out rfl (by omega)
        subst hX
        have hV := hE.out
        rw [if_neg (by decide)] at hV
        subst hV
        clear G2 G3 HK2 hE hmn HE1 hlast hD
        go_wp2_with fail
        refine (HDk _).mono ?_
        rintro x w1 ⟨rfl, rfl⟩
        go_wp2_with fail
        go_ret
        exact ⟨rfl, hbr.alloc hbr.size _⟩
      by_cases c5 : eb' < 0
      · have hX : X = 3 := G2.out rfl (by omega)
        subst hX
        have hV := hE.out
        rw [if_neg (by decide)] at hV
        subst hV
        clear G2 G3 HK2 hE hmn HE1 hlast hD
        go_wp2_with fail
        refine (HDk _).mono ?_
        rintro x w1 ⟨rfl, rfl⟩
        go_wp2_with fail
        go_ret
        exact ⟨rfl, hbr.alloc hbr.size _⟩
      by_cases c6 : 127 < eb'
      · have hX : X = 3 := G2.out rfl (by omega)
        subst hX
        have hV := hE.out
        rw [if_neg (by decide)] at hV
        subst hV
        clear G2 G3 HK2 hE hmn HE1 hlast hD
        go_wp2_with fail
        refine (HDk _).mono ?_
        rintro x w1 ⟨rfl, rfl⟩
        go_wp2_with fail
        go_ret
        exact ⟨rfl, hbr.alloc hbr.size _⟩
      have hX := G3.out rfl (by omega)
      clear G2 G3 HK2
      by_cases hr : ek = 12 ∧ eb' ≠ 0
      · rw [if_pos hr] at hX
        subst hX
        have hV := hE.out
        rw [if_neg (by decide)] at hV
        subst hV
        have hD1 : D = 1 := by rw [hD, if_pos hr.1]
        subst hD1
        have hb0 : 0 < eb' := by omega
        clear hE hmn HE1 hlast hD hr
        go_wp2_with fail
        refine (HDk _).mono ?_
        rintro x w1 ⟨rfl, rfl⟩
        go_wp2_with fail
        refine (HDk _).mono ?_
        rintro x w1 ⟨rfl, rfl⟩
        go_wp2_with fail
        go_ret
        exact ⟨rfl, hbr.alloc hbr.size _⟩
      rw [if_neg hr] at hX
      have hrr : ((D == 1) = false) ∨ ((D == 1) = true ∧ ¬ 0 < eb') := by
        by_cases h : ek = 12
        · refine Or.inr ⟨by rw [hD, if_pos h]; rfl, ?_⟩
          by_cases h2 : eb' = 0
          · omega
          · exact absurd ⟨h, h2⟩ hr
        · exact Or.inl (by rw [hD, if_neg h]; rfl)
      clear hD hr
      have wd : ah ≤ et → IntKind.i64.wrap (et - ah) = et - ah := fun h => wid (by omega) (by omega)
      have hX2 : (et < ah ∧ X = 8) ∨ (¬ et < ah ∧ IntKind.i64.wrap (et - ah) = et - ah ∧ 268435455 < et - ah ∧ X = 4) ∨ (¬ et < ah ∧ IntKind.i64.wrap (et - ah) = et - ah ∧ ¬ 268435455 < et - ah ∧ X = 0) := by
        by_cases h1 : et < ah
        · rw [if_pos h1] at hX; exact Or.inl ⟨h1, hX⟩
        · rw [if_neg h1] at hX
          by_cases h2 : 268435455 < et - ah
          · rw [if_pos h2] at hX; exact Or.inr (Or.inl ⟨h1, wd (by omega), h2, hX⟩)
          · rw [if_neg h2] at hX; exact Or.inr (Or.inr ⟨h1, wd (by omega), h2, hX⟩)
      clear hX wd
      rcases hlast with ⟨hk0, hah3⟩ | ⟨j, hkj, hk0, rj, wj, hj⟩
      · have hk0' : ¬ (0 : Int) < (k : Int) := by omega
        subst hah3
        rcases hrr with hr1 | ⟨hr1, hr2⟩
        · rcases hX2 with ⟨p1, rfl⟩ | ⟨p1, p2, p3, rfl⟩ | ⟨p1, p2, p3, rfl⟩
          · have hV := hE.out
            rw [if_neg (by decide)] at hV
            subst hV
            clear hE hmn
            go_wp2_with fail
            refine (HDk _).mono ?_
            rintro x w1 ⟨rfl, rfl⟩
            go_wp2_with fail
            refine (HDk _).mono ?_
            rintro x w1 ⟨rfl, rfl⟩
            go_wp2_with fail
            go_ret
            exact ⟨rfl, hbr.alloc hbr.size _⟩
          · have hV := hE.out
            rw [if_neg (by decide)] at hV
            subst hV
            clear hE hmn
            go_wp2_with fail
            refine (HDk _).mono ?_
            rintro x w1 ⟨rfl, rfl⟩
            go_wp2_with fail
            refine (HDk _).mono ?_
            rintro x w1 ⟨rfl, rfl⟩
            go_wp2_with fail
            go_ret
            exact ⟨rfl, hbr.alloc hbr.size _⟩
          · have hV := hE.out
            rw [if_pos rfl] at hV
            have h0 := hmn.out rfl
            have hV' : Hid (V = M.wl et (l.drop (k + 1))) := hV
            clear hE hV hmn
            go_wp2_with fail
            refine (HDk _).mono ?_
            rintro x w1 ⟨rfl, rfl⟩
            go_wp2_with fail
            refine (HDk _).mono ?_
            rintro x w1 ⟨rfl, rfl⟩
            go_wp2_with fail
            go_roundw
            case rel => exact ⟨k + 1, by omega, by go_num, by show 0 ≤ _; rw [HE1.out]; exact h0, by show V = _; rw [HE1.out]; exact hV'.out, hbr.alloc hbr.size _⟩
            case measure => simp [intOf]; omega
        · rcases hX2 with ⟨p1, rfl⟩ | ⟨p1, p2, p3, rfl⟩ | ⟨p1, p2, p3, rfl⟩
          · have hV := hE.out
            rw [if_neg (by decide)] at hV
            subst hV
            clear hE hmn
            go_wp2_with fail
            refine (HDk _).mono ?_
            rintro x w1 ⟨rfl, rfl⟩
            go_wp2_with fail
            refine (HDk _).mono ?_
            rintro x w1 ⟨rfl, rfl⟩
            go_wp2_with fail
            go_ret
            exact ⟨rfl, hbr.alloc hbr.size _⟩
          · have hV := hE.out
            rw [if_neg (by decide)] at hV
            subst hV
            clear hE hmn
            go_wp2_with fail
            refine (HDk _).mono ?_
            rintro x w1 ⟨rfl, rfl⟩
            go_wp2_with fail
            refine (HDk _).mono ?_
            rintro x w1 ⟨rfl, rfl⟩
            go_wp2_with fail
            go_ret
            exact ⟨rfl, hbr.alloc hbr.size _⟩
          · have hV := hE.out
            rw [if_pos rfl] at hV
            have h0 := hmn.out rfl
            have hV' : Hid (V = M.wl et (l.drop (k + 1))) := hV
            clear hE hV hmn
            go_wp2_with fail
            refine (HDk _).mono ?_
            rintro x w1 ⟨rfl, rfl⟩
            go_wp2_with fail
            refine (HDk _).mono ?_
            rintro x w1 ⟨rfl, rfl⟩
            go_wp2_with fail
            go_roundw
            case rel => exact ⟨k + 1, by omega, by go_num, by show 0 ≤ _; rw [HE1.out]; exact h0, by show V = _; rw [HE1.out]; exact hV'.out, hbr.alloc hbr.size _⟩
            case measure => simp [intOf]; omega
      · have hk0' : (0 : Int) < (k : Int) := by omega
        rcases hrr with hr1 | ⟨hr1, hr2⟩
        · rcases hX2 with ⟨p1, rfl⟩ | ⟨p1, p2, p3, rfl⟩ | ⟨p1, p2, p3, rfl⟩
          · have hV := hE.out
            rw [if_neg (by decide)] at hV
            subst hV
            clear hE hmn
            go_wp2_with fail
            refine (HDk _).mono ?_
            rintro x w1 ⟨rfl, rfl⟩
            go_wp2_with fail
            refine (HDk _).mono ?_
            rintro x w1 ⟨rfl, rfl⟩
            go_wp2_with fail
            go_ret
            exact ⟨rfl, hbr.alloc hbr.size _⟩
          · have hV := hE.out
            rw [if_neg (by decide)] at hV
            subst hV
            clear hE hmn
            go_wp2_with fail
            refine (HDk _).mono ?_
            rintro x w1 ⟨rfl, rfl⟩
            go_wp2_with fail
            refine (HDk _).mono ?_
            rintro x w1 ⟨rfl, rfl⟩
            go_wp2_with fail
            go_ret
            exact ⟨rfl, hbr.alloc hbr.size _⟩
          · have hV := hE.out
            rw [if_pos rfl] at hV
            have h0 := hmn.out rfl
            have hV' : Hid (V = M.wl et (l.drop (k + 1))) := hV
            clear hE hV hmn
            go_wp2_with fail
            refine (HDk _).mono ?_
            rintro x w1 ⟨rfl, rfl⟩
            go_wp2_with fail
            refine (HDk _).mono ?_
            rintro x w1 ⟨rfl, rfl⟩
            go_wp2_with fail
            go_roundw
            case rel => exact ⟨k + 1, by omega, by go_num, by show 0 ≤ _; rw [HE1.out]; exact h0, by show V = _; rw [HE1.out]; exact hV'.out, hbr.alloc hbr.size _⟩
            case measure => simp [intOf]; omega
        · rcases hX2 with ⟨p1, rfl⟩ | ⟨p1, p2, p3, rfl⟩ | ⟨p1, p2, p3, rfl⟩
          · have hV := hE.out
            rw [if_neg (by decide)] at hV
            subst hV
            clear hE hmn
            go_wp2_with fail
            refine (HDk _).mono ?_
            rintro x w1 ⟨rfl, rfl⟩
            go_wp2_with fail
            refine (HDk _).mono ?_
            rintro x w1 ⟨rfl, rfl⟩
            go_wp2_with fail
            go_ret
            exact ⟨rfl, hbr.alloc hbr.size _⟩
          · have hV := hE.out
            rw [if_neg (by decide)] at hV
            subst hV
            clear hE hmn
            go_wp2_with fail
            refine (HDk _).mono ?_
            rintro x w1 ⟨rfl, rfl⟩
            go_wp2_with fail
            refine (HDk _).mono ?_
            rintro x w1 ⟨rfl, rfl⟩
            go_wp2_with fail
            go_ret
            exact ⟨rfl, hbr.alloc hbr.size _⟩
          · have hV := hE.out
            rw [if_pos rfl] at hV
            have h0 := hmn.out rfl
            have hV' : Hid (V = M.wl et (l.drop (k + 1))) := hV
            clear hE hV hmn
            go_wp2_with fail
            refine (HDk _).mono ?_
            rintro x w1 ⟨rfl, rfl⟩
            go_wp2_with fail
            refine (HDk _).mono ?_
            rintro x w1 ⟨rfl, rfl⟩
            go_wp2_with fail
            go_roundw
            case rel => exact ⟨k + 1, by omega, by go_num, by show 0 ≤ _; rw [HE1.out]; exact h0, by show V = _; rw [HE1.out]; exact hV'.out, hbr.alloc hbr.size _⟩
            case measure => simp [intOf]; omega
    · obtain rfl : k = l.length := by omega
      have hV : V = 0 := by rw [hk.out, List.drop_length]; rfl
      subst hV
      clear hk
      go_wp2_with fail
      go_ret
      exact ⟨rfl, hbr⟩
end Go.Proofs.Ytaohahahhjkcdah.Z
