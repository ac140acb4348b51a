/- The closure of longer; sort.Search with it. -/
import Derived.Test.YtpacfppnmenndaaTk1
namespace Go.Proofs.Ytpacfppnmenndaa.Tk
open Go.RowKit Go.Maps Go.Sort Go.Proofs.Ytpacfppnmenndaa.Rg
open Go.Proofs.Ytpacfppnmenndaa.Y (Tn lt okT wr fst cod bfr OkL TL tab tc rows)
set_option linter.unusedVariables false
set_option linter.unusedSimpArgs false

/-- The two captured variables of longer. -/
structure Bx (w : World) (bl bt : Nat) (ao : Option Addr) (n c : Nat) (t : Tn) : Prop where
  l : w.cell? ⟨bl, 0, none⟩ = some (.slice ao n c)
  ll : bl < w.heap.size
  tl : bt < w.heap.size
  t0 : w.cell? ⟨bt, 0, none⟩ = some (.int .i64 t.t)
  t1 : w.cell? ⟨bt, 1, none⟩ = some (.int .i64 t.g)
  t2 : w.cell? ⟨bt, 2, none⟩ = some (.int .i64 t.l)
  t3 : w.cell? ⟨bt, 3, none⟩ = some (.int .i64 t.a)
  t4 : w.cell? ⟨bt, 4, none⟩ = some (.int .i64 t.o)
theorem Bx.bel {w w' : World} {bl bt : Nat} {ao : Option Addr} {n c : Nat} {t : Tn} (h : Bx w bl bt ao n c t) (hb : Below w.heap.size w w') : Bx w' bl bt ao n c t :=
  ⟨keepC hb h.ll h.l, Nat.lt_of_lt_of_le h.ll hb.size, Nat.lt_of_lt_of_le h.tl hb.size, keepC hb h.tl h.t0, keepC hb h.tl h.t1, keepC hb h.tl h.t2, keepC hb h.tl h.t3, keepC hb h.tl h.t4⟩
set_option maxRecDepth 20000 in
set_option maxHeartbeats 4000000 in
theorem asks_any (bl bt : Nat) (S : Nat → Prop) (ao : Option Addr) (n c i : Nat) (L : List Tn) (t : Tn) (w : World) (hx : Bx w bl bt ao n c t) (hL : LN w S ao L) (hn : L.length = n) (hc : n ≤ c) (hcm : c ≤ 9223372036854775807) (hi : i < n) (hr : Rt L) (ht : wt t = 0) :
    Calls Try.prog 46 #[.int .i64 i, .pointer (some ⟨bl, 0, none⟩), .pointer (some ⟨bt, 0, none⟩)] w fun e w' => e = .returned (.bool (lt t (fn L i))) ∧ Below w.heap.size w w' := by
  obtain ⟨b, off, rfl, hbl, hS, q⟩ := hL.at' (by omega)
  obtain ⟨q0, q1, q2, q3, q4⟩ := q i _ (fn_lt (by omega))
  have hB := behind_any (fn L i) t (hr.at (by omega)) ht
  clear q hr ht hL
  generalize lt t (fn L i) = B at *
  generalize (fn L i).t = x0 at *
  generalize (fn L i).g = x1 at *
  generalize (fn L i).l = x2 at *
  generalize (fn L i).a = x3 at *
  generalize (fn L i).o = x4 at *
  obtain ⟨c0, l0, l1, p0, p1, p2, p3, p4⟩ := hx
  generalize t.t = y0 at *
  generalize t.g = y1 at *
  generalize t.l = y2 at *
  generalize t.a = y3 at *
  generalize t.o = y4 at *
  have hC : ∀ w', Below w.heap.size w w' → b < w'.heap.size ∧ bl < w'.heap.size ∧ bt < w'.heap.size ∧ w'.cell? ⟨bl, 0, none⟩ = some (.slice (some ⟨b, off, none⟩) n c) ∧ w'.cell? ⟨b, off + i * 5, none⟩ = some (.int .i64 x0) ∧ w'.cell? ⟨b, off + i * 5 + 1, none⟩ = some (.int .i64 x1) ∧ w'.cell? ⟨b, off + i * 5 + 2, none⟩ = some (.int .i64 x2) ∧ w'.cell? ⟨b, off + i * 5 + 3, none⟩ = some (.int .i64 x3) ∧ w'.cell? ⟨b, off + i * 5 + 4, none⟩ = some (.int .i64 x4) ∧ w'.cell? ⟨bt, 0, none⟩ = some (.int .i64 y0) ∧ w'.cell? ⟨bt, 1, none⟩ = some (.int .i64 y1) ∧ w'.cell? ⟨bt, 2, none⟩ = some (.int .i64 y2) ∧ w'.cell? ⟨bt, 3, none⟩ = some (.int .i64 y3) ∧ w'.cell? ⟨bt, 4, none⟩ = some (.int .i64 y4) := fun w' hb =>
    ⟨Nat.lt_of_lt_of_le hbl hb.size, Nat.lt_of_lt_of_le l0 hb.size, Nat.lt_of_lt_of_le l1 hb.size, keepC hb l0 c0, keepC hb hbl q0, keepC hb hbl q1, keepC hb hbl q2, keepC hb hbl q3, keepC hb hbl q4, keepC hb l1 p0, keepC hb l1 p1, keepC hb l1 p2, keepC hb l1 p3, keepC hb l1 p4⟩
  clear q0 q1 q2 q3 q4 p0 p1 p2 p3 p4 c0
  go_enter Try.func46, Try.ntmps46
  go_wp2_with fail
  refine RF.wp_region_floatC (fun w' : World => Below w.heap.size w w') (fun q => q != 5) (by kernel_rfl) (by kernel_rfl) (by kernel_rfl) (by go_grown) ?_
  refine RF.wpFl_readC rfl rfl (.slice (some ⟨b, off, none⟩) n c) (fun w' hw' => by obtain ⟨z1, z2, z3, k0, k1, k2, k3, k4, k5, k6, k7, k8, k9, k10⟩ := hC w' hw'; unfold RM.valAt; go_simp) ?_
  refine RF.wpFl_readC rfl rfl (.int .i64 i) (fun w' hw' => by unfold RM.valAt; go_simp) ?_
  refine RF.wpFl_readC rfl rfl (.pointer (some ⟨b, off + i * 5, none⟩)) (fun w' hw' => by obtain ⟨z1, z2, z3, k0, k1, k2, k3, k4, k5, k6, k7, k8, k9, k10⟩ := hC w' hw'; unfold RM.valAt; go_simp) ?_
  refine RF.wpFl_readC rfl rfl (.agg #[.int .i64 x0, .int .i64 x1, .int .i64 x2, .int .i64 x3, .int .i64 x4]) (fun w' hw' => by obtain ⟨z1, z2, z3, k0, k1, k2, k3, k4, k5, k6, k7, k8, k9, k10⟩ := hC w' hw'; unfold RM.valAt; go_simp) ?_
  refine RF.wpFl_readC rfl rfl (.agg #[.int .i64 y0, .int .i64 y1, .int .i64 y2, .int .i64 y3, .int .i64 y4]) (fun w' hw' => by obtain ⟨z1, z2, z3, k0, k1, k2, k3, k4, k5, k6, k7, k8, k9, k10⟩ := hC w' hw'; unfold RM.valAt; go_simp) ?_
  refine RF.wpFl_doC rfl rfl (fun K hK => ?_)
  go_wp2_with fail
  refine (hB _).mono ?_
  rintro e w1 ⟨rfl, hb1⟩
  have hb2 : Below w.heap.size w w1 := by
    refine Below.trans ?_ (hb1.mono ?_)
    · go_grown
    · simp
  go_wp2_with fail
  refine hK _ _ hb2 ?_
  clear hK K
  refine RF.wpFl_readC rfl rfl (.bool B) (fun w' hw' => by unfold RM.valAt; go_simp) ?_
  refine RF.wpFl_nil ?_
  go_wp2_with fail
  go_ret
  exact ⟨rfl, hb2⟩
end Go.Proofs.Ytpacfppnmenndaa.Tk
