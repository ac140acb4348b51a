/- The law WireTurns: its walk. -/
import Derived.Test.YthfjbjcdhgajfagZ12
import Derived.Test.YthfjbjcdhgajfagZL1
namespace Go.Proofs.Ythfjbjcdhgajfag.Z
open Go.RowKit Go.Maps
set_option linter.unusedVariables false
set_option linter.unusedSimpArgs false

set_option maxRecDepth 20000 in
set_option maxHeartbeats 4000000 in
theorem Same_yes (l : List M.Ev) (ao bo : Option Addr) (c d : Nat) (w : World) (hp : LE w ao l) (hc : l.length ≤ c) (hcm : c ≤ 9223372036854775807) (hq : LE w bo l) (hd : l.length ≤ d) (hdm : d ≤ 9223372036854775807) :
    Calls Try.prog 24 #[.slice ao l.length c, .slice bo l.length d] w fun e w' => e = .returned (.bool true) ∧ Below w.heap.size w w' := by
  go_enter Try.func24, Try.ntmps24
  go_wp2_with fail
  go_loopw [13] (fun i wr => ∃ (k : Nat), k ≤ l.length ∧ i = .int .i64 k ∧ Below w.heap.size w wr) (fun i _ => l.length - (intOf i).toNat)
  case atStart => exact ⟨0, by omega, rfl, Below.refl _ _⟩
  case round =>
    obtain ⟨k, hkn, rfl, hbr⟩ := hrel
    by_cases hlt : k < l.length
    · have hlt' : (k : Int) < l.length := by omega
      obtain ⟨b, off, rfl, hbl, q0⟩ := (hp.step hbr).at' (by omega)
      obtain ⟨b2, off2, rfl, hbl2, p0⟩ := (hq.step hbr).at' (by omega)
      obtain ⟨e, he⟩ : ∃ e, l[k]? = some e := ⟨_, List.getElem?_eq_getElem hlt⟩
      have q := q0 k e he
      have p := p0 k e he
      have r0 := q.c0
      have r1 := q.c1
      have r2 := q.c2
      have r3 := q.c3
      have r4 := q.c4
      have s0 := p.c0
      have s1 := p.c1
      have s2 := p.c2
      have s3 := p.c3
      have s4 := p.c4
      have w3 : IntKind.i64.wrap ((k : Int) + 1) = (k : Int) + 1 := wid (by omega) (by omega)
      clear q p q0 p0 he
      obtain ⟨et, ek, ec, ea', eb'⟩ := e
      simp only at *
      go_wp2_with fail
      go_quiet (fail)
      go_wp2_with fail
      go_roundw
      case rel => exact ⟨k + 1, by omega, by go_num, hbr.trans ⟨rfl, rfl, rfl, Nat.le_refl _, fun _ _ => rfl⟩⟩
      case measure => simp [intOf]; omega
    · obtain rfl : k = l.length := by omega
      have hlt' : ¬ ((l.length : Nat) : Int) < l.length := by omega
      go_wp2_with fail
      go_ret
      exact ⟨rfl, hbr⟩
theorem tx_bs {l : List Nat} (h : ∀ x ∈ l, x < 256) : tx (bs l) = l := by
  unfold tx bs
  rw [strOfNums_data, List.map_map, List.map_map]
  refine (List.map_congr_left (g := id) (fun x hx => ?_)).trans (List.map_id l)
  have := h x hx
  simp [Function.comp]
  omega
theorem bs_tx (s : ByteArray) : bs (tx s) = s := by
  unfold tx bs strOfNums
  rw [List.map_map, List.map_map]
  have : (List.map (((fun n : Int => UInt8.ofNat n.toNat) ∘ fun n : Nat => (n : Int)) ∘ fun x : UInt8 => x.toNat) s.data.toList) = s.data.toList := by
    refine (List.map_congr_left (g := id) (fun x hx => ?_)).trans (List.map_id _)
    simp [Function.comp]
  rw [this]
theorem M.wl_hi {ah : Int} {l : List M.Ev} (h : M.wl ah l = 0) : ∀ e ∈ l, e.t ≤ ah + 268435455 * (l.length : Int) := by
  induction l generalizing ah with
  | nil => intro e he; simp at he
  | cons x t ih =>
    obtain ⟨h1, h2⟩ := M.wl_ok.1 h
    obtain ⟨_, _, q3, q4⟩ := M.we_ok.1 h1
    intro e he
    rcases List.mem_cons.1 he with rfl | he
    · simp only [List.length_cons]; push_cast; omega
    · have := ih h2 e he
      simp only [List.length_cons]; push_cast; omega

set_option maxRecDepth 20000 in
set_option maxHeartbeats 4000000 in
theorem turns_walk (l : List M.Ev) (ao : Option Addr) (c : Nat) (b : ByteArray) (w : World) (hp : LE w ao l) (hc : l.length ≤ c) (hcm : c ≤ 9223372036854775807) (hbd : ∀ e ∈ l, e.t ≤ 9223372036854775807) (hs : b.size ≤ maxLen) :
    Calls Try.prog 7 #[.slice ao l.length c, .string b] w fun e w' => e = .returned (.bool true) ∧ Below w.heap.size w w' := by
  have HP := fun w hp => Pack_any l ao c w hp hc hcm hbd
  have HU := fun w => Unpack_any b w hs
  have HQ : Hid ((M.un 4096 M.z0 (tx b)).2.1 = 0 → M.wr (M.un 4096 M.z0 (tx b)).1 = 0 ∧ pa (M.un 4096 M.z0 (tx b)).1 = b ∧ ∀ e ∈ (M.un 4096 M.z0 (tx b)).1, e.t ≤ 9223372036854775807) := fun h => by
    rcases hq : M.un 4096 M.z0 (tx b) with ⟨es, er, r⟩
    rw [hq] at h
    simp only at h
    subst h
    obtain ⟨g1, g2, g3⟩ := M.un_back (tx_lt b) (fun h => absurd h (by decide)) hq
    have hw : M.wr es = 0 := M.wr_ok.2 ⟨g3, g2⟩
    refine ⟨hw, ?_, fun e he => ?_⟩
    · unfold pa
      simp only
      rw [if_pos hw, ← g1, bs_tx]
    · have g4 : M.wl 0 es = 0 := g2
      have := M.wl_hi g4 e he
      omega
  generalize M.un 4096 M.z0 (tx b) = U at *
  obtain ⟨es, er, r⟩ := U
  simp only at HQ HU
  by_cases hok : M.wr l = 0
  · obtain ⟨k1, k2⟩ := M.wr_ok.1 hok
    have hpa : pa l = bs (M.pk M.z0 l) := if_pos hok
    have hby := M.pk_bytes (ah := M.z0) (M.wl_at k2 (Int.le_refl _))
    have hun : M.un 4096 M.z0 (tx (pa l)) = (l, 0, []) := by rw [hpa, tx_bs hby]; exact M.un_pk k2 k1
    have hsz : (pa l).size ≤ maxLen := by rw [hpa, bs_size]; have := M.pk_len M.z0 l; unfold maxLen; omega
    have HV := fun w => Unpack_any (pa l) w hsz
    rw [hun] at HV
    have hfz : fa (pa l) (l, 0, []) = 0 := rfl
    rw [hfz] at HV
    rw [hok] at HP
    generalize pa l = S at *
    clear hpa hby hun hsz k1 k2 hfz hok
    by_cases her : er = 0
    · subst her
      obtain ⟨n1, n2, n3⟩ := HQ.out rfl
      have HPx := fun ao c w hp hc hcm => Pack_any es ao c w hp hc hcm n3
      rw [n1, n2] at HPx
      clear HQ n1 n2 n3
      go_enter Try.func7, Try.ntmps7
      go_wp2_with fail
      refine (alive_any _).mono ?_
      rintro e w1 ⟨rfl, k1⟩
      go_wp2_with fail
      refine (HP _ (hp.step k1)).mono ?_
      rintro e w2 ⟨rfl, hb2⟩
      have k2 : Below w.heap.size w w2 := k1.trans (hb2.mono k1.size)
      clear HP hb2 k1
      go_wp2_with fail
      refine (HV _).mono ?_
      rintro e w3 ⟨⟨v, rfl, ho⟩, hb3⟩
      have k3 : Below w.heap.size w w3 := k2.trans (hb3.mono k2.size)
      obtain ⟨xo, xc, rfl, x1, x2, hle⟩ := ho.le
      have hb4 : ∀ os, Below w3.heap.size w3 (w3.alloc os) := fun os => by go_grown
      clear HV hb3 k2 ho
      go_wp2_with fail
      refine (Same_yes l xo ao xc c _ (hle.step (hb4 _)) x1 x2 (hp.step (k3.trans ((hb4 _).mono k3.size))) hc hcm).mono ?_
      rintro e w5 ⟨rfl, hb5⟩
      have k5 : Below w.heap.size w w5 := k3.trans (((hb4 _).mono k3.size).trans (hb5.mono (by simp; have := k3.size; omega)))
      clear hb5 hb4 hle k3
      go_wp2_with fail
      refine (HU _).mono ?_
      rintro e w6 ⟨⟨v, rfl, ho⟩, hb6⟩
      have k6 : Below w.heap.size w w6 := k5.trans (hb6.mono k5.size)
      obtain ⟨yo, yc, rfl, y1, y2, hly⟩ := ho.le
      have hb7 : ∀ os, Below w6.heap.size w6 (w6.alloc os) := fun os => by go_grown
      clear HU hb6 k5 ho
      go_wp2_with fail
      refine (HPx _ _ _ (hly.step (hb7 _)) y1 y2).mono ?_
      rintro e w8 ⟨rfl, hb8⟩
      have k8 : Below w.heap.size w w8 := k6.trans (((hb7 _).mono k6.size).trans (hb8.mono (by simp; have := k6.size; omega)))
      clear hb8 hb7 hly k6
      go_wp2_with fail
      go_ret
      exact ⟨rfl, k8⟩
    · have her' : (er != 0) = true := by simp [her]
      clear HQ her
      go_enter Try.func7, Try.ntmps7
      go_wp2_with fail
      refine (alive_any _).mono ?_
      rintro e w1 ⟨rfl, k1⟩
      go_wp2_with fail
      refine (HP _ (hp.step k1)).mono ?_
      rintro e w2 ⟨rfl, hb2⟩
      have k2 : Below w.heap.size w w2 := k1.trans (hb2.mono k1.size)
      clear HP hb2 k1
      go_wp2_with fail
      refine (HV _).mono ?_
      rintro e w3 ⟨⟨v, rfl, ho⟩, hb3⟩
      have k3 : Below w.heap.size w w3 := k2.trans (hb3.mono k2.size)
      obtain ⟨xo, xc, rfl, x1, x2, hle⟩ := ho.le
      have hb4 : ∀ os, Below w3.heap.size w3 (w3.alloc os) := fun os => by go_grown
      clear HV hb3 k2 ho
      go_wp2_with fail
      refine (Same_yes l xo ao xc c _ (hle.step (hb4 _)) x1 x2 (hp.step (k3.trans ((hb4 _).mono k3.size))) hc hcm).mono ?_
      rintro e w5 ⟨rfl, hb5⟩
      have k5 : Below w.heap.size w w5 := k3.trans (((hb4 _).mono k3.size).trans (hb5.mono (by simp; have := k3.size; omega)))
      clear hb5 hb4 hle k3
      go_wp2_with fail
      refine (HU _).mono ?_
      rintro e w6 ⟨⟨v, rfl, ho⟩, hb6⟩
      have k6 : Below w.heap.size w w6 := k5.trans (hb6.mono k5.size)
      obtain ⟨yo, yc, rfl, y1, y2, hly⟩ := ho.le
      clear HU hb6 k5 ho
      go_wp2_with fail
      go_ret
      exact ⟨rfl, k6.alloc k6.size _⟩
  · have hok' : (M.wr l == 0) = false := by simp [hok]
    generalize M.wr l = X at *
    by_cases her : er = 0
    · subst her
      obtain ⟨n1, n2, n3⟩ := HQ.out rfl
      have HPx := fun ao c w hp hc hcm => Pack_any es ao c w hp hc hcm n3
      rw [n1, n2] at HPx
      clear HQ n1 n2 n3
      go_enter Try.func7, Try.ntmps7
      go_wp2_with fail
      refine (alive_any _).mono ?_
      rintro e w1 ⟨rfl, k1⟩
      go_wp2_with fail
      refine (HP _ (hp.step k1)).mono ?_
      rintro e w2 ⟨rfl, hb2⟩
      have k5 : Below w.heap.size w w2 := k1.trans (hb2.mono k1.size)
      clear HP hb2 k1
      go_wp2_with fail
      refine (HU _).mono ?_
      rintro e w6 ⟨⟨v, rfl, ho⟩, hb6⟩
      have k6 : Below w.heap.size w w6 := k5.trans (hb6.mono k5.size)
      obtain ⟨yo, yc, rfl, y1, y2, hly⟩ := ho.le
      have hb7 : ∀ os, Below w6.heap.size w6 (w6.alloc os) := fun os => by go_grown
      clear HU hb6 k5 ho
      go_wp2_with fail
      refine (HPx _ _ _ (hly.step (hb7 _)) y1 y2).mono ?_
      rintro e w8 ⟨rfl, hb8⟩
      have k8 : Below w.heap.size w w8 := k6.trans (((hb7 _).mono k6.size).trans (hb8.mono (by simp; have := k6.size; omega)))
      clear hb8 hb7 hly k6
      go_wp2_with fail
      go_ret
      exact ⟨rfl, k8⟩
    · have her' : (er != 0) = true := by simp [her]
      clear HQ her
      go_enter Try.func7, Try.ntmps7
      go_wp2_with fail
      refine (alive_any _).mono ?_
      rintro e w1 ⟨rfl, k1⟩
      go_wp2_with fail
      refine (HP _ (hp.step k1)).mono ?_
      rintro e w2 ⟨rfl, hb2⟩
      have k5 : Below w.heap.size w w2 := k1.trans (hb2.mono k1.size)
      clear HP hb2 k1
      go_wp2_with fail
      refine (HU _).mono ?_
      rintro e w6 ⟨⟨v, rfl, ho⟩, hb6⟩
      have k6 : Below w.heap.size w w6 := k5.trans (hb6.mono k5.size)
      obtain ⟨yo, yc, rfl, y1, y2, hly⟩ := ho.le
      clear HU hb6 k5 ho
      go_wp2_with fail
      go_ret
      exact ⟨rfl, k6.alloc k6.size _⟩
end Go.Proofs.Ythfjbjcdhgajfag.Z
