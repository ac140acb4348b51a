/- What the program's wrongEvent comes to. -/
import Derived.Test.YtaohahahhjkcdahZ1
namespace Go.Proofs.Ytaohahahhjkcdah.Z
open Go.RowKit
set_option linter.unusedVariables false
set_option linter.unusedSimpArgs false

theorem M.we_kind {e : M.Ev} {ah : Int} (h : M.isK e.k = false) : M.we e ah = 1 := by unfold M.we; rw [if_pos h]
theorem M.we_range {e : M.Ev} {ah : Int} (h : M.isK e.k = true) (h2 : e.c < 0 ∨ 15 < e.c ∨ M.ip e.a = false ∨ M.ip e.b = false) : M.we e ah = 3 := by
  unfold M.we; rw [if_neg (by simp [h]), if_pos]
  rcases h2 with h | h | h | h
  · exact Or.inl h
  · exact Or.inr (Or.inl h)
  · have : ¬ (0 ≤ e.a ∧ e.a ≤ 127) := fun q => by rw [M.ip_is.2 q] at h; cases h
    omega
  · have : ¬ (0 ≤ e.b ∧ e.b ≤ 127) := fun q => by rw [M.ip_is.2 q] at h; cases h
    omega
theorem M.we_rest {e : M.Ev} {ah : Int} (h : M.isK e.k = true) (h0 : 0 ≤ e.c) (h1 : e.c ≤ 15) (h2 : M.ip e.a = true) (h3 : M.ip e.b = true) :
    M.we e ah = if e.k = 12 ∧ e.b ≠ 0 then 3 else if e.t < ah then 8 else if 268435455 < e.t - ah then 4 else 0 := by
  have g2 := M.ip_is.1 h2
  have g3 := M.ip_is.1 h3
  unfold M.we
  rw [if_neg (by simp [h]), if_neg (by omega)]

set_option maxHeartbeats 2000000 in
theorem wrongEvent_any (e : M.Ev) (ah : Int) (w : World) (hlo : 0 ≤ ah) (hhi : e.t ≤ 9223372036854775807) :
    Calls Try.prog 33 #[ea e, .int .i64 ah] w fun x w' => x = .returned (.int .i64 (M.we e ah)) ∧ Below w.heap.size w w' := by
  have HK := isKind_any
  have HP := isPart_any
  have HB := hasB_any
  have H1 : Hid (M.isK e.k = false → M.we e ah = 1) := M.we_kind
  have H2 : Hid (M.isK e.k = true → (e.c < 0 ∨ 15 < e.c ∨ M.ip e.a = false ∨ M.ip e.b = false) → M.we e ah = 3) := M.we_range
  have H3 : Hid (M.isK e.k = true → 0 ≤ e.c → e.c ≤ 15 → M.ip e.a = true → M.ip e.b = true → M.we e ah = if e.k = 12 ∧ e.b ≠ 0 then 3 else if e.t < ah then 8 else if 268435455 < e.t - ah then 4 else 0) := M.we_rest
  generalize M.we e ah = V at *
  obtain ⟨et, ek, ec, ea', eb'⟩ := e
  simp only at *
  have HKk := HK ek
  have HPa := HP ea'
  have HPb := HP eb'
  have HBk := HB ek
  clear HK HP HB
  generalize M.isK ek = K at *
  generalize M.ip ea' = A at *
  generalize M.ip eb' = B at *
  cases K
  · have hV : V = 1 := H1.out rfl
    subst hV
    clear H1 H2 H3
    go_enter Try.func33, Try.ntmps33
    go_wp2_with fail
    refine (HKk _).mono ?_
    rintro e w1 ⟨rfl, rfl⟩
    go_wp2_with fail
    go_ret
    exact ⟨rfl, by go_grown⟩
  clear H1
  by_cases c1 : ec < 0
  · have hV : V = 3 := H2.out rfl (Or.inl c1)
    subst hV
    clear H2 H3
    go_enter Try.func33, Try.ntmps33
    go_wp2_with fail
    refine (HKk _).mono ?_
    rintro e w1 ⟨rfl, rfl⟩
    go_wp2_with fail
    go_ret
    exact ⟨rfl, by go_grown⟩
  by_cases c2 : 15 < ec
  · have hV : V = 3 := H2.out rfl (Or.inr (Or.inl c2))
    subst hV
    clear H2 H3
    go_enter Try.func33, Try.ntmps33
    go_wp2_with fail
    refine (HKk _).mono ?_
    rintro e w1 ⟨rfl, rfl⟩
    go_wp2_with fail
    go_ret
    exact ⟨rfl, by go_grown⟩
  cases A
  · have hV : V = 3 := H2.out rfl (Or.inr (Or.inr (Or.inl rfl)))
    subst hV
    clear H2 H3
    go_enter Try.func33, Try.ntmps33
    go_wp2_with fail
    refine (HKk _).mono ?_
    rintro e w1 ⟨rfl, rfl⟩
    go_wp2_with fail
    refine (HPa _).mono ?_
    rintro e w1 ⟨rfl, rfl⟩
    go_wp2_with fail
    go_ret
    exact ⟨rfl, by go_grown⟩
  cases B
  · have hV : V = 3 := H2.out rfl (Or.inr (Or.inr (Or.inr rfl)))
    subst hV
    clear H2 H3
    go_enter Try.func33, Try.ntmps33
    go_wp2_with fail
    refine (HKk _).mono ?_
    rintro e w1 ⟨rfl, rfl⟩
    go_wp2_with fail
    refine (HPa _).mono ?_
    rintro e w1 ⟨rfl, rfl⟩
    go_wp2_with fail
    refine (HPb _).mono ?_
    rintro e w1 ⟨rfl, rfl⟩
    go_wp2_with fail
    go_ret
    exact ⟨rfl, by go_grown⟩
  have H4 := H3.out rfl (by omega) (by omega) rfl rfl
  clear H2 H3
  by_cases c3 : ek = 12
  · subst c3
    by_cases c4 : eb' = 0
    · subst c4
      rw [if_neg (by simp)] at H4
      by_cases c5 : et < ah
      · rw [if_pos c5] at H4
        subst H4
        go_enter Try.func33, Try.ntmps33
        go_wp2_with fail
        refine (HKk _).mono ?_
        rintro e w1 ⟨rfl, rfl⟩
        go_wp2_with fail
        refine (HPa _).mono ?_
        rintro e w1 ⟨rfl, rfl⟩
        go_wp2_with fail
        refine (HPb _).mono ?_
        rintro e w1 ⟨rfl, rfl⟩
        go_wp2_with fail
        refine (HBk _).mono ?_
        rintro e w1 ⟨rfl, rfl⟩
        go_wp2_with fail
        go_ret
        exact ⟨rfl, by go_grown⟩
      · rw [if_neg c5] at H4
        have wd : IntKind.i64.wrap (et - ah) = et - ah := wid (by omega) (by omega)
        by_cases c6 : 268435455 < et - ah
        · rw [if_pos c6] at H4
          subst H4
          have c7 : ¬ (et - ah < 268435456) := by omega
          go_enter Try.func33, Try.ntmps33
          go_wp2_with fail
          refine (HKk _).mono ?_
          rintro e w1 ⟨rfl, rfl⟩
          go_wp2_with fail
          refine (HPa _).mono ?_
          rintro e w1 ⟨rfl, rfl⟩
          go_wp2_with fail
          refine (HPb _).mono ?_
          rintro e w1 ⟨rfl, rfl⟩
          go_wp2_with fail
          refine (HBk _).mono ?_
          rintro e w1 ⟨rfl, rfl⟩
          go_wp2_with fail
          go_ret
          exact ⟨rfl, by go_grown⟩
        · rw [if_neg c6] at H4
          subst H4
          have c7 : (et - ah < 268435456) := by omega
          go_enter Try.func33, Try.ntmps33
          go_wp2_with fail
          refine (HKk _).mono ?_
          rintro e w1 ⟨rfl, rfl⟩
          go_wp2_with fail
          refine (HPa _).mono ?_
          rintro e w1 ⟨rfl, rfl⟩
          go_wp2_with fail
          refine (HPb _).mono ?_
          rintro e w1 ⟨rfl, rfl⟩
          go_wp2_with fail
          refine (HBk _).mono ?_
          rintro e w1 ⟨rfl, rfl⟩
          go_wp2_with fail
          go_ret
          exact ⟨rfl, by go_grown⟩
    · rw [if_pos ⟨rfl, c4⟩] at H4
      subst H4
      have c8 : (eb' != 0) = true := by simp [c4]
      clear c4
      go_enter Try.func33, Try.ntmps33
      go_wp2_with fail
      refine (HKk _).mono ?_
      rintro e w1 ⟨rfl, rfl⟩
      go_wp2_with fail
      refine (HPa _).mono ?_
      rintro e w1 ⟨rfl, rfl⟩
      go_wp2_with fail
      refine (HPb _).mono ?_
      rintro e w1 ⟨rfl, rfl⟩
      go_wp2_with fail
      refine (HBk _).mono ?_
      rintro e w1 ⟨rfl, rfl⟩
      go_wp2_with fail
      go_ret
      exact ⟨rfl, by go_grown⟩
  · rw [if_neg (fun q => c3 q.1)] at H4
    have c8 : (ek != 12) = true := by simp [c3]
    clear c3
    rw [c8] at HBk
    by_cases c5 : et < ah
    · rw [if_pos c5] at H4
      subst H4
      go_enter Try.func33, Try.ntmps33
      go_wp2_with fail
      refine (HKk _).mono ?_
      rintro e w1 ⟨rfl, rfl⟩
      go_wp2_with fail
      refine (HPa _).mono ?_
      rintro e w1 ⟨rfl, rfl⟩
      go_wp2_with fail
      refine (HPb _).mono ?_
      rintro e w1 ⟨rfl, rfl⟩
      go_wp2_with fail
      refine (HBk _).mono ?_
      rintro e w1 ⟨rfl, rfl⟩
      go_wp2_with fail
      go_ret
      exact ⟨rfl, by go_grown⟩
    · rw [if_neg c5] at H4
      have wd : IntKind.i64.wrap (et - ah) = et - ah := wid (by omega) (by omega)
      by_cases c6 : 268435455 < et - ah
      · rw [if_pos c6] at H4
        subst H4
        have c7 : ¬ (et - ah < 268435456) := by omega
        go_enter Try.func33, Try.ntmps33
        go_wp2_with fail
        refine (HKk _).mono ?_
        rintro e w1 ⟨rfl, rfl⟩
        go_wp2_with fail
        refine (HPa _).mono ?_
        rintro e w1 ⟨rfl, rfl⟩
        go_wp2_with fail
        refine (HPb _).mono ?_
        rintro e w1 ⟨rfl, rfl⟩
        go_wp2_with fail
        refine (HBk _).mono ?_
        rintro e w1 ⟨rfl, rfl⟩
        go_wp2_with fail
        go_ret
        exact ⟨rfl, by go_grown⟩
      · rw [if_neg c6] at H4
        subst H4
        have c7 : (et - ah < 268435456) := by omega
        go_enter Try.func33, Try.ntmps33
        go_wp2_with fail
        refine (HKk _).mono ?_
        rintro e w1 ⟨rfl, rfl⟩
        go_wp2_with fail
        refine (HPa _).mono ?_
        rintro e w1 ⟨rfl, rfl⟩
        go_wp2_with fail
        refine (HPb _).mono ?_
        rintro e w1 ⟨rfl, rfl⟩
        go_wp2_with fail
        refine (HBk _).mono ?_
        rintro e w1 ⟨rfl, rfl⟩
        go_wp2_with fail
        go_ret
        exact ⟨rfl, by go_grown⟩

theorem M.wl_drop {l : List M.Ev} {k : Nat} {e : M.Ev} (h : l[k]? = some e) (ah : Int) : M.wl ah (l.drop k) = if M.we e ah = 0 then M.wl e.t (l.drop (k + 1)) else M.we e ah := by
  obtain ⟨hk, he⟩ := List.getElem?_eq_some_iff.1 h
  rw [List.drop_eq_getElem_cons hk, he, M.wl_cons]

set_option maxHeartbeats 2000000 in
theorem Wrong_any (l : List M.Ev) (ao : Option Addr) (c : Nat) (w : World) (hp : LE w ao l) (hc : l.length ≤ c) (hcm : c ≤ 9223372036854775807) (hbd : ∀ e ∈ l, e.t ≤ 9223372036854775807) :
    Calls Try.prog 30 #[.slice ao l.length c] w fun e w' => e = .returned (.int .i64 (M.wr l)) ∧ Below w.heap.size w w' := by
  by_cases hm : 4096 < l.length
  · have e : M.wr l = 5 := by unfold M.wr; rw [if_pos hm]
    rw [e]
    have hm' : (4096 : Int) < l.length := by omega
    go_enter Try.func30, Try.ntmps30
    go_wp2_with fail
    go_ret
    exact ⟨rfl, by go_grown⟩
  have hm' : ¬ (4096 : Int) < l.length := by omega
  have e : M.wr l = M.wl 0 (l.drop 0) := by unfold M.wr; rw [if_neg hm]; rfl
  obtain ⟨V, hV⟩ : ∃ V, V = M.wl 0 (l.drop 0) := ⟨_, rfl⟩
  rw [e, ← hV]
  have HV : Hid (V = M.wl 0 (l.drop 0)) := hV
  clear e hV
  go_enter Try.func30, Try.ntmps30
  go_wp2_with fail
  go_loopw [12, 3] (fun i a wr => ∃ (k : Nat) (ah : Int), k ≤ l.length ∧ i = .int .i64 k ∧ a = .int .i64 ah ∧ 0 ≤ ah ∧ Hid (V = M.wl ah (l.drop k)) ∧ Below w.heap.size w wr) (fun i _ _ => l.length - (intOf i).toNat)
  case atStart => exact ⟨0, 0, by omega, rfl, rfl, by omega, HV, Below.refl _ _⟩
  case round =>
    obtain ⟨k, ah, hkn, rfl, rfl, hah, hk, hbr⟩ := hrel
    clear HV
    by_cases hlt : k < l.length
    · obtain ⟨b, off, rfl, hbl, q0⟩ := (hp.step hbr).at' (by omega)
      obtain ⟨e, he⟩ : ∃ e, l[k]? = some e := ⟨_, List.getElem?_eq_getElem hlt⟩
      have q := q0 k e he
      have r0 := q.c0
      have r1 := q.c1
      have r2 := q.c2
      have r3 := q.c3
      have r4 := q.c4
      have w3 : IntKind.i64.wrap ((k : Int) + 1) = (k : Int) + 1 := wid (by omega) (by omega)
      have hE : Hid (V = if M.we e ah = 0 then M.wl e.t (l.drop (k + 1)) else M.we e ah) := by show V = _; rw [hk.out]; exact M.wl_drop he ah
      have HW := fun W => wrongEvent_any e ah W hah (hbd e (List.mem_of_getElem? he))
      have hmn : Hid (M.we e ah = 0 → 0 ≤ e.t) := fun h => by have := M.we_ok.1 h; omega
      clear q q0 hk he
      generalize M.we e ah = X at *
      obtain ⟨et, ek, ec, ea', eb'⟩ := e
      simp only at *
      go_wp2_with fail
      refine (HW _).mono ?_
      rintro x w1 ⟨rfl, hb1⟩
      have hb2 : Below w.heap.size w w1 := Below.trans (hbr.alloc hbr.size _) (hb1.mono (by have := hbr.size; simp; omega))
      have d0 : w1.cell? ⟨wr.heap.size, 0, none⟩ = some (.int .i64 et) := keepC hb1 (by simp) (by simp [go_sem])
      have d1 := hb1.size
      simp at d1
      clear hb1
      by_cases hx : X = 0
      · subst hx
        have hV := hE.out
        rw [if_pos rfl] at hV
        have h0 := hmn.out rfl
        have hV' : Hid (V = M.wl et (l.drop (k + 1))) := hV
        clear hE hV hmn
        go_wp2_with fail
        go_roundw
        case rel => exact ⟨k + 1, et, by omega, by go_num, rfl, h0, hV', hb2⟩
        case measure => simp [intOf]; omega
      · have hV := hE.out
        rw [if_neg hx] at hV
        subst hV
        have hx' : (V != 0) = true := by simp [hx]
        clear hE hmn hx
        go_wp2_with fail
        go_ret
        exact ⟨rfl, hb2⟩
    · obtain rfl : k = l.length := by omega
      have hV : V = 0 := by rw [hk.out, List.drop_length]; rfl
      subst hV
      clear hk
      go_wp2_with fail
      go_ret
      exact ⟨rfl, hbr⟩
end Go.Proofs.Ytaohahahhjkcdah.Z
