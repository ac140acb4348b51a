/- The statement FracField: the walk of its text. -/
import Derived.Test.YtnlbkklndlgojaaW13
import Derived.Test.YtnlbkklndlgojaaMath5
namespace Go.Proofs.Ytnlbkklndlgojaa
open Go.RowKit
set_option linter.unusedVariables false

theorem two_any (p : Bool) (a b c d : Int) (w : World) (h1 : -9223372036854775808 ≤ a) (h2 : a ≤ 9223372036854775807) (h3 : -9223372036854775808 ≤ b) (h4 : b ≤ 9223372036854775807) (h5 : -9223372036854775808 ≤ c) (h6 : c ≤ 9223372036854775807) (h7 : -9223372036854775808 ≤ d) (h8 : d ≤ 9223372036854775807) :
    Calls Try.prog 24 #[.bool p, .agg #[.int .i64 a, .int .i64 b], .agg #[.int .i64 c, .int .i64 d]] w fun e w' => e = .returned (.tuple #[.agg #[.int .i64 (M.tU p a b c d), .int .i64 (M.tD p a b c d)], .bool (M.tB p a b c d)]) ∧ Below w.heap.size w w' := by
  cases p
  · exact two_times a b c d w h1 h2 h3 h4 h5 h6 h7 h8
  · exact two_plus a b c d w h1 h2 h3 h4 h5 h6 h7 h8

/-- Three fractions that came in, and the row of two truths that is walked. -/
structure Kl (w W : World) (n : Nat) (a b c d e f : Int) : Prop where
  kp : Kp w W a b c d e f
  sn : n < W.heap.size
  c0 : W.cell? ⟨n, 0, none⟩ = some (.bool false)
  c1 : W.cell? ⟨n, 1, none⟩ = some (.bool true)

theorem Kl.step {w W W' : World} {n : Nat} {a b c d e f : Int} (h : Kl w W n a b c d e f) (hb : Below W.heap.size W W') : Kl w W' n a b c d e f :=
  ⟨h.kp.step hb, Nat.lt_of_lt_of_le h.sn hb.size, keepC hb h.sn h.c0, keepC hb h.sn h.c1⟩
theorem Kl.lay {w W : World} {n : Nat} {a b c d e f : Int} (h : Kl w W n a b c d e f) (o : Obj) : Kl w (W.alloc o) n a b c d e f := h.step (by go_grown)

set_option maxRecDepth 100000 in
set_option maxHeartbeats 4000000 in
theorem field_walk (a b c d e f : Int) (w : World) (h1 : -9223372036854775808 ≤ a) (h2 : a ≤ 9223372036854775807) (h3 : -9223372036854775808 ≤ b) (h4 : b ≤ 9223372036854775807) (h5 : -9223372036854775808 ≤ c) (h6 : c ≤ 9223372036854775807) (h7 : -9223372036854775808 ≤ d) (h8 : d ≤ 9223372036854775807) (h9 : -9223372036854775808 ≤ e) (h10 : e ≤ 9223372036854775807) (h11 : -9223372036854775808 ≤ f) (h12 : f ≤ 9223372036854775807) :
    Calls Try.prog 5 #[.agg #[.int .i64 a, .int .i64 b], .agg #[.int .i64 c, .int .i64 d], .agg #[.int .i64 e, .int .i64 f]] w fun e w' => e = .returned (.bool true) ∧ Below w.heap.size w w' := by
  go_enter Try.func5, Try.ntmps5
  go_wp2_with fail
  refine (alive_any _).mono ?_
  rintro e' w1 ⟨rfl, hb⟩
  have kp := Kp.mk3 hb
  clear hb
  go_wp2_with fail
  have kl0 : Kl w (w1.alloc (Obj.cells #[Value.bool false, Value.bool true] 4)) w1.heap.size a b c d e f := ⟨kp.lay _, by simp, by simp, by simp⟩
  clear kp
  go_loopw [39] (fun i wr => ∃ k : Int, (k = 0 ∨ k = 1 ∨ k = 2) ∧ i = .int .i64 k ∧ Kl w wr w1.heap.size a b c d e f) (fun i _ => (2 - intOf i).toNat)
  case atStart => exact ⟨0, by omega, rfl, kl0⟩
  case round =>
    clear kl0
    obtain ⟨k, hk, rfl, kl⟩ := hrel
    rcases hk with rfl | rfl | rfl
    · have kk := kl
      obtain ⟨⟨_, ks, s0, s1, x0, x1, y0, y1, z0, z1⟩, sn, c0, c1⟩ := kk
      go_wp2_with fail
      refine (two_any false a b c d _ h1 h2 h3 h4 h5 h6 h7 h8).mono ?_
      rintro e' w2 ⟨rfl, hb⟩
      replace kl := kl.step hb
      clear hb
      clear ks s0 s1 x0 x1 y0 y1 z0 z1 sn c0 c1
      have kk := kl
      obtain ⟨⟨_, ks, s0, s1, x0, x1, y0, y1, z0, z1⟩, sn, c0, c1⟩ := kk
      go_wp2_with fail
      refine (two_any false c d a b _ h5 h6 h7 h8 h1 h2 h3 h4).mono ?_
      rintro e' w3 ⟨rfl, hb⟩
      rw [(M.tt_comm false a b c d).1, (M.tt_comm false a b c d).2.1, (M.tt_comm false a b c d).2.2]
      have X0 : w3.cell? ⟨w2.heap.size, 0, none⟩ = some (.int .i64 (M.tU false a b c d)) := keepC hb (by simp) (by simp)
      have X1 : w3.cell? ⟨w2.heap.size, 1, none⟩ = some (.int .i64 (M.tD false a b c d)) := keepC hb (by simp) (by simp)
      have Xz : w2.heap.size < w3.heap.size := by have := hb.size; simp at this; omega
      replace kl := (kl.lay _).step hb
      clear hb
      clear ks s0 s1 x0 x1 y0 y1 z0 z1 sn c0 c1
      have kk := kl
      obtain ⟨⟨_, ks, s0, s1, x0, x1, y0, y1, z0, z1⟩, sn, c0, c1⟩ := kk
      go_wp2_with fail
      refine (two_any false c d e f _ h5 h6 h7 h8 h9 h10 h11 h12).mono ?_
      rintro e' w4 ⟨rfl, hb⟩
      have hk : Below w3.heap.size w3 w4 := Below.trans (by go_grown) (hb.mono (by go_size))
      replace X0 := keepC hk (by omega) X0
      replace X1 := keepC hk (by omega) X1
      replace Xz := Nat.lt_of_lt_of_le Xz hk.size
      clear hk
      replace kl := (kl.lay _).step hb
      clear hb
      clear ks s0 s1 x0 x1 y0 y1 z0 z1 sn c0 c1
      cases hxy : M.tB false a b c d
      · clear X0 X1 Xz
        go_wp2
        go_roundw
        case rel => exact ⟨1, by omega, by go_num, kl.lay _⟩
        case measure => simp [intOf]
      · cases hyz : M.tB false c d e f
        · clear X0 X1 Xz
          go_wp2
          go_roundw
          case rel => exact ⟨1, by omega, by go_num, kl.lay _⟩
          case measure => simp [intOf]
        · have kk := kl
          obtain ⟨⟨_, ks, s0, s1, x0, x1, y0, y1, z0, z1⟩, sn, c0, c1⟩ := kk
          go_wp2_with fail
          obtain ⟨b1, b2, b3, b4⟩ := M.tt_bd false a b c d
          refine (two_any false (M.tU false a b c d) (M.tD false a b c d) e f _ (by omega) (by omega) (by omega) (by omega) h9 h10 h11 h12).mono ?_
          rintro e' w5 ⟨rfl, hb⟩
          rw [(M.tt_assoc false a b c d e f hxy hyz).1, (M.tt_assoc false a b c d e f hxy hyz).2.1, (M.tt_assoc false a b c d e f hxy hyz).2.2]
          clear X0 X1 Xz
          have Y0 : w5.cell? ⟨w4.heap.size, 0, none⟩ = some (.int .i64 (M.tU false c d e f)) := keepC hb (by simp) (by simp)
          have Y1 : w5.cell? ⟨w4.heap.size, 1, none⟩ = some (.int .i64 (M.tD false c d e f)) := keepC hb (by simp) (by simp)
          have Yz : w4.heap.size < w5.heap.size := by have := hb.size; simp at this; omega
          replace kl := (kl.lay _).step hb
          clear hb
          clear ks s0 s1 x0 x1 y0 y1 z0 z1 sn c0 c1
          have kk := kl
          obtain ⟨⟨_, ks, s0, s1, x0, x1, y0, y1, z0, z1⟩, sn, c0, c1⟩ := kk
          go_wp2_with fail
          obtain ⟨b5, b6, b7, b8⟩ := M.tt_bd false c d e f
          refine (two_any false a b (M.tU false c d e f) (M.tD false c d e f) _ h1 h2 h3 h4 (by omega) (by omega) (by omega) (by omega)).mono ?_
          rintro e' w6 ⟨rfl, hb⟩
          clear Y0 Y1 Yz
          have A0 : w6.cell? ⟨w5.heap.size, 0, none⟩ = some (.int .i64 (M.tU false a b (M.tU false c d e f) (M.tD false c d e f))) := keepC hb (by simp) (by simp)
          have A1 : w6.cell? ⟨w5.heap.size, 1, none⟩ = some (.int .i64 (M.tD false a b (M.tU false c d e f) (M.tD false c d e f))) := keepC hb (by simp) (by simp)
          have Az : w5.heap.size < w6.heap.size := by have := hb.size; simp at this; omega
          replace kl := (kl.lay _).step hb
          clear hb
          clear ks s0 s1 x0 x1 y0 y1 z0 z1 sn c0 c1
          go_wp2
          go_roundw
          case rel => exact ⟨1, by omega, by go_num, kl.lay _⟩
          case measure => simp [intOf]
    · have kk := kl
      obtain ⟨⟨_, ks, s0, s1, x0, x1, y0, y1, z0, z1⟩, sn, c0, c1⟩ := kk
      go_wp2_with fail
      refine (two_any true a b c d _ h1 h2 h3 h4 h5 h6 h7 h8).mono ?_
      rintro e' w2 ⟨rfl, hb⟩
      replace kl := kl.step hb
      clear hb
      clear ks s0 s1 x0 x1 y0 y1 z0 z1 sn c0 c1
      have kk := kl
      obtain ⟨⟨_, ks, s0, s1, x0, x1, y0, y1, z0, z1⟩, sn, c0, c1⟩ := kk
      go_wp2_with fail
      refine (two_any true c d a b _ h5 h6 h7 h8 h1 h2 h3 h4).mono ?_
      rintro e' w3 ⟨rfl, hb⟩
      rw [(M.tt_comm true a b c d).1, (M.tt_comm true a b c d).2.1, (M.tt_comm true a b c d).2.2]
      have X0 : w3.cell? ⟨w2.heap.size, 0, none⟩ = some (.int .i64 (M.tU true a b c d)) := keepC hb (by simp) (by simp)
      have X1 : w3.cell? ⟨w2.heap.size, 1, none⟩ = some (.int .i64 (M.tD true a b c d)) := keepC hb (by simp) (by simp)
      have Xz : w2.heap.size < w3.heap.size := by have := hb.size; simp at this; omega
      replace kl := (kl.lay _).step hb
      clear hb
      clear ks s0 s1 x0 x1 y0 y1 z0 z1 sn c0 c1
      have kk := kl
      obtain ⟨⟨_, ks, s0, s1, x0, x1, y0, y1, z0, z1⟩, sn, c0, c1⟩ := kk
      go_wp2_with fail
      refine (two_any true c d e f _ h5 h6 h7 h8 h9 h10 h11 h12).mono ?_
      rintro e' w4 ⟨rfl, hb⟩
      have hk : Below w3.heap.size w3 w4 := Below.trans (by go_grown) (hb.mono (by go_size))
      replace X0 := keepC hk (by omega) X0
      replace X1 := keepC hk (by omega) X1
      replace Xz := Nat.lt_of_lt_of_le Xz hk.size
      clear hk
      replace kl := (kl.lay _).step hb
      clear hb
      clear ks s0 s1 x0 x1 y0 y1 z0 z1 sn c0 c1
      cases hxy : M.tB true a b c d
      · clear X0 X1 Xz
        go_wp2
        go_roundw
        case rel => exact ⟨2, by omega, by go_num, kl.lay _⟩
        case measure => simp [intOf]
      · cases hyz : M.tB true c d e f
        · clear X0 X1 Xz
          go_wp2
          go_roundw
          case rel => exact ⟨2, by omega, by go_num, kl.lay _⟩
          case measure => simp [intOf]
        · have kk := kl
          obtain ⟨⟨_, ks, s0, s1, x0, x1, y0, y1, z0, z1⟩, sn, c0, c1⟩ := kk
          go_wp2_with fail
          obtain ⟨b1, b2, b3, b4⟩ := M.tt_bd true a b c d
          refine (two_any true (M.tU true a b c d) (M.tD true a b c d) e f _ (by omega) (by omega) (by omega) (by omega) h9 h10 h11 h12).mono ?_
          rintro e' w5 ⟨rfl, hb⟩
          rw [(M.tt_assoc true a b c d e f hxy hyz).1, (M.tt_assoc true a b c d e f hxy hyz).2.1, (M.tt_assoc true a b c d e f hxy hyz).2.2]
          clear X0 X1 Xz
          have Y0 : w5.cell? ⟨w4.heap.size, 0, none⟩ = some (.int .i64 (M.tU true c d e f)) := keepC hb (by simp) (by simp)
          have Y1 : w5.cell? ⟨w4.heap.size, 1, none⟩ = some (.int .i64 (M.tD true c d e f)) := keepC hb (by simp) (by simp)
          have Yz : w4.heap.size < w5.heap.size := by have := hb.size; simp at this; omega
          replace kl := (kl.lay _).step hb
          clear hb
          clear ks s0 s1 x0 x1 y0 y1 z0 z1 sn c0 c1
          have kk := kl
          obtain ⟨⟨_, ks, s0, s1, x0, x1, y0, y1, z0, z1⟩, sn, c0, c1⟩ := kk
          go_wp2_with fail
          obtain ⟨b5, b6, b7, b8⟩ := M.tt_bd true c d e f
          refine (two_any true a b (M.tU true c d e f) (M.tD true c d e f) _ h1 h2 h3 h4 (by omega) (by omega) (by omega) (by omega)).mono ?_
          rintro e' w6 ⟨rfl, hb⟩
          clear Y0 Y1 Yz
          have A0 : w6.cell? ⟨w5.heap.size, 0, none⟩ = some (.int .i64 (M.tU true a b (M.tU true c d e f) (M.tD true c d e f))) := keepC hb (by simp) (by simp)
          have A1 : w6.cell? ⟨w5.heap.size, 1, none⟩ = some (.int .i64 (M.tD true a b (M.tU true c d e f) (M.tD true c d e f))) := keepC hb (by simp) (by simp)
          have Az : w5.heap.size < w6.heap.size := by have := hb.size; simp at this; omega
          replace kl := (kl.lay _).step hb
          clear hb
          clear ks s0 s1 x0 x1 y0 y1 z0 z1 sn c0 c1
          go_wp2
          go_roundw
          case rel => exact ⟨2, by omega, by go_num, kl.lay _⟩
          case measure => simp [intOf]
    · have kk := kl
      obtain ⟨⟨_, ks, s0, s1, x0, x1, y0, y1, z0, z1⟩, sn, c0, c1⟩ := kk
      go_wp2_with fail
      refine (two_any true c d e f _ h5 h6 h7 h8 h9 h10 h11 h12).mono ?_
      rintro e' w2 ⟨rfl, hb⟩
      replace kl := kl.step hb
      clear hb
      clear ks s0 s1 x0 x1 y0 y1 z0 z1 sn c0 c1
      have kk := kl
      obtain ⟨⟨_, ks, s0, s1, x0, x1, y0, y1, z0, z1⟩, sn, c0, c1⟩ := kk
      go_wp2_with fail
      refine (two_any false a b c d _ h1 h2 h3 h4 h5 h6 h7 h8).mono ?_
      rintro e' w3 ⟨rfl, hb⟩
      have S0 : w3.cell? ⟨w2.heap.size, 0, none⟩ = some (.int .i64 (M.tU true c d e f)) := keepC hb (by simp) (by simp)
      have S1 : w3.cell? ⟨w2.heap.size, 1, none⟩ = some (.int .i64 (M.tD true c d e f)) := keepC hb (by simp) (by simp)
      have Sz : w2.heap.size < w3.heap.size := by have := hb.size; simp at this; omega
      replace kl := (kl.lay _).step hb
      clear hb
      clear ks s0 s1 x0 x1 y0 y1 z0 z1 sn c0 c1
      have kk := kl
      obtain ⟨⟨_, ks, s0, s1, x0, x1, y0, y1, z0, z1⟩, sn, c0, c1⟩ := kk
      go_wp2_with fail
      refine (two_any false a b e f _ h1 h2 h3 h4 h9 h10 h11 h12).mono ?_
      rintro e' w4 ⟨rfl, hb⟩
      have hk : Below w3.heap.size w3 w4 := Below.trans (by go_grown) (hb.mono (by go_size))
      replace S0 := keepC hk (by omega) S0
      replace S1 := keepC hk (by omega) S1
      replace Sz := Nat.lt_of_lt_of_le Sz hk.size
      clear hk
      have X0 : w4.cell? ⟨w3.heap.size, 0, none⟩ = some (.int .i64 (M.tU false a b c d)) := keepC hb (by simp) (by simp)
      have X1 : w4.cell? ⟨w3.heap.size, 1, none⟩ = some (.int .i64 (M.tD false a b c d)) := keepC hb (by simp) (by simp)
      have Xz : w3.heap.size < w4.heap.size := by have := hb.size; simp at this; omega
      replace kl := (kl.lay _).step hb
      clear hb
      clear ks s0 s1 x0 x1 y0 y1 z0 z1 sn c0 c1
      cases hs : M.tB true c d e f
      · clear S0 S1 Sz X0 X1 Xz
        have kk := kl
        obtain ⟨⟨_, ks, s0, s1, x0, x1, y0, y1, z0, z1⟩, sn, c0, c1⟩ := kk
        go_wp2_with fail
        refine (Over_any a b c d _ h1 h2 h3 h4 h5 h6 h7 h8).mono ?_
        rintro e' wo ⟨rfl, hb⟩
        replace kl := (kl.lay _).step hb
        clear hb
        clear ks s0 s1 x0 x1 y0 y1 z0 z1 sn c0 c1
        by_cases hq : M.rE (M.ok a b && M.ok c d) (M.qU a d c) (M.qD b c) = 0
        · rw [hq]
          have kk := kl
          obtain ⟨⟨_, ks, s0, s1, x0, x1, y0, y1, z0, z1⟩, sn, c0, c1⟩ := kk
          go_wp2_with fail
          obtain ⟨o1, o2, o3, o4⟩ := M.r_bd (M.ok a b && M.ok c d) (M.qU a d c) (M.qD b c)
          refine (two_any false (M.rU (M.ok a b && M.ok c d) (M.qU a d c) (M.qD b c)) (M.rD (M.ok a b && M.ok c d) (M.qU a d c) (M.qD b c)) c d _ (by omega) (by omega) (by omega) (by omega) h5 h6 h7 h8).mono ?_
          rintro e' wp ⟨rfl, hb⟩
          rw [(M.over_back a b c d hq).1, (M.over_back a b c d hq).2.1, (M.over_back a b c d hq).2.2]
          replace kl := (kl.lay _).step hb
          clear hb hq o1 o2 o3 o4
          clear ks s0 s1 x0 x1 y0 y1 z0 z1 sn c0 c1
          have kk := kl
          obtain ⟨⟨_, ks, s0, s1, x0, x1, y0, y1, z0, z1⟩, sn, c0, c1⟩ := kk
          go_wp2_with fail
          refine (Minus_any a b c d _ h1 h2 h3 h4 h5 h6 h7 h8).mono ?_
          rintro e' wm ⟨rfl, hb⟩
          replace kl := (kl.lay _).step hb
          clear hb
          clear ks s0 s1 x0 x1 y0 y1 z0 z1 sn c0 c1
          by_cases hm : M.rE (M.ok a b && M.ok c d) (a * d - c * b) (b * d) = 0
          · rw [hm]
            have kk := kl
            obtain ⟨⟨_, ks, s0, s1, x0, x1, y0, y1, z0, z1⟩, sn, c0, c1⟩ := kk
            go_wp2_with fail
            obtain ⟨m1, m2, m3, m4⟩ := M.r_bd (M.ok a b && M.ok c d) (a * d - c * b) (b * d)
            refine (two_any true (M.rU (M.ok a b && M.ok c d) (a * d - c * b) (b * d)) (M.rD (M.ok a b && M.ok c d) (a * d - c * b) (b * d)) c d _ (by omega) (by omega) (by omega) (by omega) h5 h6 h7 h8).mono ?_
            rintro e' wn ⟨rfl, hb⟩
            rw [(M.minus_back a b c d hm).1, (M.minus_back a b c d hm).2.1, (M.minus_back a b c d hm).2.2]
            replace kl := (kl.lay _).step hb
            clear hb
            clear ks s0 s1 x0 x1 y0 y1 z0 z1 sn c0 c1
            have kk := kl
            obtain ⟨⟨_, ks, s0, s1, x0, x1, y0, y1, z0, z1⟩, sn, c0, c1⟩ := kk
            go_wp2
            go_ret
            exact ⟨rfl, (kl.lay _).kp.bel⟩
          · have hm' : (M.rE (M.ok a b && M.ok c d) (a * d - c * b) (b * d) == 0) = false := by rw [beq_eq_false_iff_ne]; exact hm
            go_wp2
            go_ret
            exact ⟨rfl, (kl.lay _).kp.bel⟩
        · have hq' : (M.rE (M.ok a b && M.ok c d) (M.qU a d c) (M.qD b c) == 0) = false := by rw [beq_eq_false_iff_ne]; exact hq
          clear hq
          have kk := kl
          obtain ⟨⟨_, ks, s0, s1, x0, x1, y0, y1, z0, z1⟩, sn, c0, c1⟩ := kk
          go_wp2_with fail
          clear hq'
          refine (Minus_any a b c d _ h1 h2 h3 h4 h5 h6 h7 h8).mono ?_
          rintro e' wm ⟨rfl, hb⟩
          replace kl := (kl.lay _).step hb
          clear hb
          clear ks s0 s1 x0 x1 y0 y1 z0 z1 sn c0 c1
          by_cases hm : M.rE (M.ok a b && M.ok c d) (a * d - c * b) (b * d) = 0
          · rw [hm]
            have kk := kl
            obtain ⟨⟨_, ks, s0, s1, x0, x1, y0, y1, z0, z1⟩, sn, c0, c1⟩ := kk
            go_wp2_with fail
            obtain ⟨m1, m2, m3, m4⟩ := M.r_bd (M.ok a b && M.ok c d) (a * d - c * b) (b * d)
            refine (two_any true (M.rU (M.ok a b && M.ok c d) (a * d - c * b) (b * d)) (M.rD (M.ok a b && M.ok c d) (a * d - c * b) (b * d)) c d _ (by omega) (by omega) (by omega) (by omega) h5 h6 h7 h8).mono ?_
            rintro e' wn ⟨rfl, hb⟩
            rw [(M.minus_back a b c d hm).1, (M.minus_back a b c d hm).2.1, (M.minus_back a b c d hm).2.2]
            replace kl := (kl.lay _).step hb
            clear hb
            clear ks s0 s1 x0 x1 y0 y1 z0 z1 sn c0 c1
            have kk := kl
            obtain ⟨⟨_, ks, s0, s1, x0, x1, y0, y1, z0, z1⟩, sn, c0, c1⟩ := kk
            go_wp2
            go_ret
            exact ⟨rfl, (kl.lay _).kp.bel⟩
          · have hm' : (M.rE (M.ok a b && M.ok c d) (a * d - c * b) (b * d) == 0) = false := by rw [beq_eq_false_iff_ne]; exact hm
            go_wp2
            go_ret
            exact ⟨rfl, (kl.lay _).kp.bel⟩
      · cases hxy : M.tB false a b c d
        · clear S0 S1 Sz X0 X1 Xz
          have kk := kl
          obtain ⟨⟨_, ks, s0, s1, x0, x1, y0, y1, z0, z1⟩, sn, c0, c1⟩ := kk
          go_wp2_with fail
          refine (Over_any a b c d _ h1 h2 h3 h4 h5 h6 h7 h8).mono ?_
          rintro e' wo ⟨rfl, hb⟩
          replace kl := (kl.lay _).step hb
          clear hb
          clear ks s0 s1 x0 x1 y0 y1 z0 z1 sn c0 c1
          by_cases hq : M.rE (M.ok a b && M.ok c d) (M.qU a d c) (M.qD b c) = 0
          · rw [hq]
            have kk := kl
            obtain ⟨⟨_, ks, s0, s1, x0, x1, y0, y1, z0, z1⟩, sn, c0, c1⟩ := kk
            go_wp2_with fail
            obtain ⟨o1, o2, o3, o4⟩ := M.r_bd (M.ok a b && M.ok c d) (M.qU a d c) (M.qD b c)
            refine (two_any false (M.rU (M.ok a b && M.ok c d) (M.qU a d c) (M.qD b c)) (M.rD (M.ok a b && M.ok c d) (M.qU a d c) (M.qD b c)) c d _ (by omega) (by omega) (by omega) (by omega) h5 h6 h7 h8).mono ?_
            rintro e' wp ⟨rfl, hb⟩
            rw [(M.over_back a b c d hq).1, (M.over_back a b c d hq).2.1, (M.over_back a b c d hq).2.2]
            replace kl := (kl.lay _).step hb
            clear hb hq o1 o2 o3 o4
            clear ks s0 s1 x0 x1 y0 y1 z0 z1 sn c0 c1
            have kk := kl
            obtain ⟨⟨_, ks, s0, s1, x0, x1, y0, y1, z0, z1⟩, sn, c0, c1⟩ := kk
            go_wp2_with fail
            refine (Minus_any a b c d _ h1 h2 h3 h4 h5 h6 h7 h8).mono ?_
            rintro e' wm ⟨rfl, hb⟩
            replace kl := (kl.lay _).step hb
            clear hb
            clear ks s0 s1 x0 x1 y0 y1 z0 z1 sn c0 c1
            by_cases hm : M.rE (M.ok a b && M.ok c d) (a * d - c * b) (b * d) = 0
            · rw [hm]
              have kk := kl
              obtain ⟨⟨_, ks, s0, s1, x0, x1, y0, y1, z0, z1⟩, sn, c0, c1⟩ := kk
              go_wp2_with fail
              obtain ⟨m1, m2, m3, m4⟩ := M.r_bd (M.ok a b && M.ok c d) (a * d - c * b) (b * d)
              refine (two_any true (M.rU (M.ok a b && M.ok c d) (a * d - c * b) (b * d)) (M.rD (M.ok a b && M.ok c d) (a * d - c * b) (b * d)) c d _ (by omega) (by omega) (by omega) (by omega) h5 h6 h7 h8).mono ?_
              rintro e' wn ⟨rfl, hb⟩
              rw [(M.minus_back a b c d hm).1, (M.minus_back a b c d hm).2.1, (M.minus_back a b c d hm).2.2]
              replace kl := (kl.lay _).step hb
              clear hb
              clear ks s0 s1 x0 x1 y0 y1 z0 z1 sn c0 c1
              have kk := kl
              obtain ⟨⟨_, ks, s0, s1, x0, x1, y0, y1, z0, z1⟩, sn, c0, c1⟩ := kk
              go_wp2
              go_ret
              exact ⟨rfl, (kl.lay _).kp.bel⟩
            · have hm' : (M.rE (M.ok a b && M.ok c d) (a * d - c * b) (b * d) == 0) = false := by rw [beq_eq_false_iff_ne]; exact hm
              go_wp2
              go_ret
              exact ⟨rfl, (kl.lay _).kp.bel⟩
          · have hq' : (M.rE (M.ok a b && M.ok c d) (M.qU a d c) (M.qD b c) == 0) = false := by rw [beq_eq_false_iff_ne]; exact hq
            clear hq
            have kk := kl
            obtain ⟨⟨_, ks, s0, s1, x0, x1, y0, y1, z0, z1⟩, sn, c0, c1⟩ := kk
            go_wp2_with fail
            clear hq'
            refine (Minus_any a b c d _ h1 h2 h3 h4 h5 h6 h7 h8).mono ?_
            rintro e' wm ⟨rfl, hb⟩
            replace kl := (kl.lay _).step hb
            clear hb
            clear ks s0 s1 x0 x1 y0 y1 z0 z1 sn c0 c1
            by_cases hm : M.rE (M.ok a b && M.ok c d) (a * d - c * b) (b * d) = 0
            · rw [hm]
              have kk := kl
              obtain ⟨⟨_, ks, s0, s1, x0, x1, y0, y1, z0, z1⟩, sn, c0, c1⟩ := kk
              go_wp2_with fail
              obtain ⟨m1, m2, m3, m4⟩ := M.r_bd (M.ok a b && M.ok c d) (a * d - c * b) (b * d)
              refine (two_any true (M.rU (M.ok a b && M.ok c d) (a * d - c * b) (b * d)) (M.rD (M.ok a b && M.ok c d) (a * d - c * b) (b * d)) c d _ (by omega) (by omega) (by omega) (by omega) h5 h6 h7 h8).mono ?_
              rintro e' wn ⟨rfl, hb⟩
              rw [(M.minus_back a b c d hm).1, (M.minus_back a b c d hm).2.1, (M.minus_back a b c d hm).2.2]
              replace kl := (kl.lay _).step hb
              clear hb
              clear ks s0 s1 x0 x1 y0 y1 z0 z1 sn c0 c1
              have kk := kl
              obtain ⟨⟨_, ks, s0, s1, x0, x1, y0, y1, z0, z1⟩, sn, c0, c1⟩ := kk
              go_wp2
              go_ret
              exact ⟨rfl, (kl.lay _).kp.bel⟩
            · have hm' : (M.rE (M.ok a b && M.ok c d) (a * d - c * b) (b * d) == 0) = false := by rw [beq_eq_false_iff_ne]; exact hm
              go_wp2
              go_ret
              exact ⟨rfl, (kl.lay _).kp.bel⟩
        · cases hxz : M.tB false a b e f
          · clear S0 S1 Sz X0 X1 Xz
            have kk := kl
            obtain ⟨⟨_, ks, s0, s1, x0, x1, y0, y1, z0, z1⟩, sn, c0, c1⟩ := kk
            go_wp2_with fail
            refine (Over_any a b c d _ h1 h2 h3 h4 h5 h6 h7 h8).mono ?_
            rintro e' wo ⟨rfl, hb⟩
            replace kl := (kl.lay _).step hb
            clear hb
            clear ks s0 s1 x0 x1 y0 y1 z0 z1 sn c0 c1
            by_cases hq : M.rE (M.ok a b && M.ok c d) (M.qU a d c) (M.qD b c) = 0
            · rw [hq]
              have kk := kl
              obtain ⟨⟨_, ks, s0, s1, x0, x1, y0, y1, z0, z1⟩, sn, c0, c1⟩ := kk
              go_wp2_with fail
              obtain ⟨o1, o2, o3, o4⟩ := M.r_bd (M.ok a b && M.ok c d) (M.qU a d c) (M.qD b c)
              refine (two_any false (M.rU (M.ok a b && M.ok c d) (M.qU a d c) (M.qD b c)) (M.rD (M.ok a b && M.ok c d) (M.qU a d c) (M.qD b c)) c d _ (by omega) (by omega) (by omega) (by omega) h5 h6 h7 h8).mono ?_
              rintro e' wp ⟨rfl, hb⟩
              rw [(M.over_back a b c d hq).1, (M.over_back a b c d hq).2.1, (M.over_back a b c d hq).2.2]
              replace kl := (kl.lay _).step hb
              clear hb hq o1 o2 o3 o4
              clear ks s0 s1 x0 x1 y0 y1 z0 z1 sn c0 c1
              have kk := kl
              obtain ⟨⟨_, ks, s0, s1, x0, x1, y0, y1, z0, z1⟩, sn, c0, c1⟩ := kk
              go_wp2_with fail
              refine (Minus_any a b c d _ h1 h2 h3 h4 h5 h6 h7 h8).mono ?_
              rintro e' wm ⟨rfl, hb⟩
              replace kl := (kl.lay _).step hb
              clear hb
              clear ks s0 s1 x0 x1 y0 y1 z0 z1 sn c0 c1
              by_cases hm : M.rE (M.ok a b && M.ok c d) (a * d - c * b) (b * d) = 0
              · rw [hm]
                have kk := kl
                obtain ⟨⟨_, ks, s0, s1, x0, x1, y0, y1, z0, z1⟩, sn, c0, c1⟩ := kk
                go_wp2_with fail
                obtain ⟨m1, m2, m3, m4⟩ := M.r_bd (M.ok a b && M.ok c d) (a * d - c * b) (b * d)
                refine (two_any true (M.rU (M.ok a b && M.ok c d) (a * d - c * b) (b * d)) (M.rD (M.ok a b && M.ok c d) (a * d - c * b) (b * d)) c d _ (by omega) (by omega) (by omega) (by omega) h5 h6 h7 h8).mono ?_
                rintro e' wn ⟨rfl, hb⟩
                rw [(M.minus_back a b c d hm).1, (M.minus_back a b c d hm).2.1, (M.minus_back a b c d hm).2.2]
                replace kl := (kl.lay _).step hb
                clear hb
                clear ks s0 s1 x0 x1 y0 y1 z0 z1 sn c0 c1
                have kk := kl
                obtain ⟨⟨_, ks, s0, s1, x0, x1, y0, y1, z0, z1⟩, sn, c0, c1⟩ := kk
                go_wp2
                go_ret
                exact ⟨rfl, (kl.lay _).kp.bel⟩
              · have hm' : (M.rE (M.ok a b && M.ok c d) (a * d - c * b) (b * d) == 0) = false := by rw [beq_eq_false_iff_ne]; exact hm
                go_wp2
                go_ret
                exact ⟨rfl, (kl.lay _).kp.bel⟩
            · have hq' : (M.rE (M.ok a b && M.ok c d) (M.qU a d c) (M.qD b c) == 0) = false := by rw [beq_eq_false_iff_ne]; exact hq
              clear hq
              have kk := kl
              obtain ⟨⟨_, ks, s0, s1, x0, x1, y0, y1, z0, z1⟩, sn, c0, c1⟩ := kk
              go_wp2_with fail
              clear hq'
              refine (Minus_any a b c d _ h1 h2 h3 h4 h5 h6 h7 h8).mono ?_
              rintro e' wm ⟨rfl, hb⟩
              replace kl := (kl.lay _).step hb
              clear hb
              clear ks s0 s1 x0 x1 y0 y1 z0 z1 sn c0 c1
              by_cases hm : M.rE (M.ok a b && M.ok c d) (a * d - c * b) (b * d) = 0
              · rw [hm]
                have kk := kl
                obtain ⟨⟨_, ks, s0, s1, x0, x1, y0, y1, z0, z1⟩, sn, c0, c1⟩ := kk
                go_wp2_with fail
                obtain ⟨m1, m2, m3, m4⟩ := M.r_bd (M.ok a b && M.ok c d) (a * d - c * b) (b * d)
                refine (two_any true (M.rU (M.ok a b && M.ok c d) (a * d - c * b) (b * d)) (M.rD (M.ok a b && M.ok c d) (a * d - c * b) (b * d)) c d _ (by omega) (by omega) (by omega) (by omega) h5 h6 h7 h8).mono ?_
                rintro e' wn ⟨rfl, hb⟩
                rw [(M.minus_back a b c d hm).1, (M.minus_back a b c d hm).2.1, (M.minus_back a b c d hm).2.2]
                replace kl := (kl.lay _).step hb
                clear hb
                clear ks s0 s1 x0 x1 y0 y1 z0 z1 sn c0 c1
                have kk := kl
                obtain ⟨⟨_, ks, s0, s1, x0, x1, y0, y1, z0, z1⟩, sn, c0, c1⟩ := kk
                go_wp2
                go_ret
                exact ⟨rfl, (kl.lay _).kp.bel⟩
              · have hm' : (M.rE (M.ok a b && M.ok c d) (a * d - c * b) (b * d) == 0) = false := by rw [beq_eq_false_iff_ne]; exact hm
                go_wp2
                go_ret
                exact ⟨rfl, (kl.lay _).kp.bel⟩
          · have kk := kl
            obtain ⟨⟨_, ks, s0, s1, x0, x1, y0, y1, z0, z1⟩, sn, c0, c1⟩ := kk
            go_wp2_with fail
            obtain ⟨b1, b2, b3, b4⟩ := M.tt_bd true c d e f
            refine (two_any false a b (M.tU true c d e f) (M.tD true c d e f) _ h1 h2 h3 h4 (by omega) (by omega) (by omega) (by omega)).mono ?_
            rintro e' w5 ⟨rfl, hb⟩
            clear S0 S1 Sz b1 b2 b3 b4
            have hk : Below w4.heap.size w4 w5 := Below.trans (by go_grown) (hb.mono (by go_size))
            replace X0 := keepC hk (by omega) X0
            replace X1 := keepC hk (by omega) X1
            replace Xz := Nat.lt_of_lt_of_le Xz hk.size
            clear hk
            have Z0 : w5.cell? ⟨w4.heap.size, 0, none⟩ = some (.int .i64 (M.tU false a b e f)) := keepC hb (by simp) (by simp)
            have Z1 : w5.cell? ⟨w4.heap.size, 1, none⟩ = some (.int .i64 (M.tD false a b e f)) := keepC hb (by simp) (by simp)
            have Zz : w4.heap.size < w5.heap.size := by have := hb.size; simp at this; omega
            replace kl := (kl.lay _).step hb
            clear hb
            clear ks s0 s1 x0 x1 y0 y1 z0 z1 sn c0 c1
            have kk := kl
            obtain ⟨⟨_, ks, s0, s1, x0, x1, y0, y1, z0, z1⟩, sn, c0, c1⟩ := kk
            go_wp2_with fail
            obtain ⟨b1, b2, b3, b4⟩ := M.tt_bd false a b c d
            obtain ⟨b5, b6, b7, b8⟩ := M.tt_bd false a b e f
            refine (two_any true (M.tU false a b c d) (M.tD false a b c d) (M.tU false a b e f) (M.tD false a b e f) _ (by omega) (by omega) (by omega) (by omega) (by omega) (by omega) (by omega) (by omega)).mono ?_
            rintro e' w6 ⟨rfl, hb⟩
            rw [(M.tt_dist a b c d e f hs hxy hxz).1, (M.tt_dist a b c d e f hs hxy hxz).2.1, (M.tt_dist a b c d e f hs hxy hxz).2.2]
            clear X0 X1 Xz Z0 Z1 Zz b1 b2 b3 b4 b5 b6 b7 b8
            have A0 : w6.cell? ⟨w5.heap.size, 0, none⟩ = some (.int .i64 (M.tU false a b (M.tU true c d e f) (M.tD true c d e f))) := keepC hb (by simp) (by simp)
            have A1 : w6.cell? ⟨w5.heap.size, 1, none⟩ = some (.int .i64 (M.tD false a b (M.tU true c d e f) (M.tD true c d e f))) := keepC hb (by simp) (by simp)
            have Az : w5.heap.size < w6.heap.size := by have := hb.size; simp at this; omega
            replace kl := (kl.lay _).step hb
            clear hb
            clear ks s0 s1 x0 x1 y0 y1 z0 z1 sn c0 c1
            have kk := kl
            obtain ⟨⟨_, ks, s0, s1, x0, x1, y0, y1, z0, z1⟩, sn, c0, c1⟩ := kk
            go_wp2_with fail
            clear A0 A1 Az
            refine (Over_any a b c d _ h1 h2 h3 h4 h5 h6 h7 h8).mono ?_
            rintro e' wo ⟨rfl, hb⟩
            replace kl := (kl.lay _).step hb
            clear hb
            clear ks s0 s1 x0 x1 y0 y1 z0 z1 sn c0 c1
            by_cases hq : M.rE (M.ok a b && M.ok c d) (M.qU a d c) (M.qD b c) = 0
            · rw [hq]
              have kk := kl
              obtain ⟨⟨_, ks, s0, s1, x0, x1, y0, y1, z0, z1⟩, sn, c0, c1⟩ := kk
              go_wp2_with fail
              obtain ⟨o1, o2, o3, o4⟩ := M.r_bd (M.ok a b && M.ok c d) (M.qU a d c) (M.qD b c)
              refine (two_any false (M.rU (M.ok a b && M.ok c d) (M.qU a d c) (M.qD b c)) (M.rD (M.ok a b && M.ok c d) (M.qU a d c) (M.qD b c)) c d _ (by omega) (by omega) (by omega) (by omega) h5 h6 h7 h8).mono ?_
              rintro e' wp ⟨rfl, hb⟩
              rw [(M.over_back a b c d hq).1, (M.over_back a b c d hq).2.1, (M.over_back a b c d hq).2.2]
              replace kl := (kl.lay _).step hb
              clear hb hq o1 o2 o3 o4
              clear ks s0 s1 x0 x1 y0 y1 z0 z1 sn c0 c1
              have kk := kl
              obtain ⟨⟨_, ks, s0, s1, x0, x1, y0, y1, z0, z1⟩, sn, c0, c1⟩ := kk
              go_wp2_with fail
              refine (Minus_any a b c d _ h1 h2 h3 h4 h5 h6 h7 h8).mono ?_
              rintro e' wm ⟨rfl, hb⟩
              replace kl := (kl.lay _).step hb
              clear hb
              clear ks s0 s1 x0 x1 y0 y1 z0 z1 sn c0 c1
              by_cases hm : M.rE (M.ok a b && M.ok c d) (a * d - c * b) (b * d) = 0
              · rw [hm]
                have kk := kl
                obtain ⟨⟨_, ks, s0, s1, x0, x1, y0, y1, z0, z1⟩, sn, c0, c1⟩ := kk
                go_wp2_with fail
                obtain ⟨m1, m2, m3, m4⟩ := M.r_bd (M.ok a b && M.ok c d) (a * d - c * b) (b * d)
                refine (two_any true (M.rU (M.ok a b && M.ok c d) (a * d - c * b) (b * d)) (M.rD (M.ok a b && M.ok c d) (a * d - c * b) (b * d)) c d _ (by omega) (by omega) (by omega) (by omega) h5 h6 h7 h8).mono ?_
                rintro e' wn ⟨rfl, hb⟩
                rw [(M.minus_back a b c d hm).1, (M.minus_back a b c d hm).2.1, (M.minus_back a b c d hm).2.2]
                replace kl := (kl.lay _).step hb
                clear hb
                clear ks s0 s1 x0 x1 y0 y1 z0 z1 sn c0 c1
                have kk := kl
                obtain ⟨⟨_, ks, s0, s1, x0, x1, y0, y1, z0, z1⟩, sn, c0, c1⟩ := kk
                go_wp2
                go_ret
                exact ⟨rfl, (kl.lay _).kp.bel⟩
              · have hm' : (M.rE (M.ok a b && M.ok c d) (a * d - c * b) (b * d) == 0) = false := by rw [beq_eq_false_iff_ne]; exact hm
                go_wp2
                go_ret
                exact ⟨rfl, (kl.lay _).kp.bel⟩
            · have hq' : (M.rE (M.ok a b && M.ok c d) (M.qU a d c) (M.qD b c) == 0) = false := by rw [beq_eq_false_iff_ne]; exact hq
              clear hq
              have kk := kl
              obtain ⟨⟨_, ks, s0, s1, x0, x1, y0, y1, z0, z1⟩, sn, c0, c1⟩ := kk
              go_wp2_with fail
              clear hq'
              refine (Minus_any a b c d _ h1 h2 h3 h4 h5 h6 h7 h8).mono ?_
              rintro e' wm ⟨rfl, hb⟩
              replace kl := (kl.lay _).step hb
              clear hb
              clear ks s0 s1 x0 x1 y0 y1 z0 z1 sn c0 c1
              by_cases hm : M.rE (M.ok a b && M.ok c d) (a * d - c * b) (b * d) = 0
              · rw [hm]
                have kk := kl
                obtain ⟨⟨_, ks, s0, s1, x0, x1, y0, y1, z0, z1⟩, sn, c0, c1⟩ := kk
                go_wp2_with fail
                obtain ⟨m1, m2, m3, m4⟩ := M.r_bd (M.ok a b && M.ok c d) (a * d - c * b) (b * d)
                refine (two_any true (M.rU (M.ok a b && M.ok c d) (a * d - c * b) (b * d)) (M.rD (M.ok a b && M.ok c d) (a * d - c * b) (b * d)) c d _ (by omega) (by omega) (by omega) (by omega) h5 h6 h7 h8).mono ?_
                rintro e' wn ⟨rfl, hb⟩
                rw [(M.minus_back a b c d hm).1, (M.minus_back a b c d hm).2.1, (M.minus_back a b c d hm).2.2]
                replace kl := (kl.lay _).step hb
                clear hb
                clear ks s0 s1 x0 x1 y0 y1 z0 z1 sn c0 c1
                have kk := kl
                obtain ⟨⟨_, ks, s0, s1, x0, x1, y0, y1, z0, z1⟩, sn, c0, c1⟩ := kk
                go_wp2
                go_ret
                exact ⟨rfl, (kl.lay _).kp.bel⟩
              · have hm' : (M.rE (M.ok a b && M.ok c d) (a * d - c * b) (b * d) == 0) = false := by rw [beq_eq_false_iff_ne]; exact hm
                go_wp2
                go_ret
                exact ⟨rfl, (kl.lay _).kp.bel⟩
end Go.Proofs.Ytnlbkklndlgojaa
