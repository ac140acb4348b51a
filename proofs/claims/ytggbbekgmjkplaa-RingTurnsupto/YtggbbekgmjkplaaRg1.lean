/- A ring in memory; Len, behind, Push, Pop, New, in one goroutine. -/
import Derived.Test.YtggbbekgmjkplaaRgRow
import Derived.Laws.LoneSync
namespace Go.Proofs.Ytggbbekgmjkplaa.Rg
open Go.RowKit Go.Maps Go.Sort
set_option linter.unusedVariables false
set_option linter.unusedSimpArgs false

/-- A ring's cells. -/
def rc (sb n nx fs c : Nat) (i : Nat) : Value := if i = 0 then .slice (some ⟨sb, 0, none⟩) n n else if i = 1 then .int .i64 nx else if i = 2 then .int .i64 fs else .int .i64 c
/-- A ring with room for n numbers lies at block b, its slots at block sb; q: what is in. -/
structure RL (w : World) (b sb n : Nat) (q : List Int) (nx fs : Nat) (g : Nat → Int) : Prop where
  r : w.rowIs b 62 4 (rc sb n nx fs q.length)
  s : w.rowIs sb 3 n (fun i => .int .i64 (g i))
  ne : b ≠ sb
  n0 : 0 < n
  n1 : n ≤ 65536
  ql : q.length ≤ n
  f : fs < n
  x : nx = (fs + q.length) % n
  v : ∀ i y, q[i]? = some y → g ((fs + i) % n) = y
theorem RL.lb {w : World} {b sb n nx fs : Nat} {q : List Int} {g : Nat → Int} (h : RL w b sb n q nx fs g) : b < w.heap.size := by
  obtain ⟨c, hb, _⟩ := h.r
  exact (Array.getElem?_eq_some_iff.1 hb).1
theorem RL.ls {w : World} {b sb n nx fs : Nat} {q : List Int} {g : Nat → Int} (h : RL w b sb n q nx fs g) : sb < w.heap.size := by
  obtain ⟨c, hb, _⟩ := h.s
  exact (Array.getElem?_eq_some_iff.1 hb).1
theorem RL.keep {w w' : World} {b sb n nx fs : Nat} {q : List Int} {g : Nat → Int} (h : RL w b sb n q nx fs g) (h1 : w'.heap[b]? = w.heap[b]?) (h2 : w'.heap[sb]? = w.heap[sb]?) : RL w' b sb n q nx fs g :=
  { h with r := World.rowIs.of_block h.r h1, s := World.rowIs.of_block h.s h2 }
theorem RL.drew {w : World} {b sb n nx fs : Nat} {q : List Int} {g : Nat → Int} (h : RL w b sb n q nx fs g) (m : Nat) : RL (w.drewN m) b sb n q nx fs g := h.keep rfl rfl
theorem RL.bel {w w' : World} {b sb n nx fs : Nat} {q : List Int} {g : Nat → Int} (h : RL w b sb n q nx fs g) (hb : Below w.heap.size w w') : RL w' b sb n q nx fs g := h.keep (hb.block b h.lb) (hb.block sb h.ls)
theorem RL.c0 {w : World} {b sb n nx fs : Nat} {q : List Int} {g : Nat → Int} (h : RL w b sb n q nx fs g) : w.cell? ⟨b, 0, none⟩ = some (.slice (some ⟨sb, 0, none⟩) n n) := World.rowIs.cell h.r (by decide)
theorem RL.c1 {w : World} {b sb n nx fs : Nat} {q : List Int} {g : Nat → Int} (h : RL w b sb n q nx fs g) : w.cell? ⟨b, 1, none⟩ = some (.int .i64 nx) := World.rowIs.cell h.r (by decide)
theorem RL.c2 {w : World} {b sb n nx fs : Nat} {q : List Int} {g : Nat → Int} (h : RL w b sb n q nx fs g) : w.cell? ⟨b, 2, none⟩ = some (.int .i64 fs) := World.rowIs.cell h.r (by decide)
theorem RL.c3 {w : World} {b sb n nx fs : Nat} {q : List Int} {g : Nat → Int} (h : RL w b sb n q nx fs g) : w.cell? ⟨b, 3, none⟩ = some (.int .i64 q.length) := World.rowIs.cell h.r (by decide)
theorem RL.fz {w : World} {b sb n nx fs : Nat} {q : List Int} {g : Nat → Int} (h : RL w b sb n q nx fs g) (i : Nat) : w.frozen? ⟨b, i, none⟩ = false := World.rowIs.frozen h.r i
theorem RL.sz {w : World} {b sb n nx fs : Nat} {q : List Int} {g : Nat → Int} (h : RL w b sb n q nx fs g) (i : Nat) : w.frozen? ⟨sb, i, none⟩ = false := World.rowIs.frozen h.s i

set_option maxHeartbeats 2000000 in
theorem Load_any (b o : Nat) (x : Int) (w : World) (h0 : w.cell? ⟨b, o, none⟩ = some (.int .i64 x)) :
    Calls Try.prog 24 #[.pointer (some ⟨b, o, none⟩)] w fun e w' => e = .returned (.int .i64 x) ∧ w' = w := by
  have hl := run_call_load (P := Try.prog) Try.func46 (by kernel_rfl) (by kernel_rfl) (by kernel_rfl) .i64 (by kernel_rfl) h0
  go_enter Try.func24, Try.ntmps24
  go_wp2_with (simp only [hl])
  go_ret
  exact ⟨rfl, rfl⟩
set_option maxHeartbeats 2000000 in
theorem Add_any (b o : Nat) (x d s : Int) (w : World) (h0 : w.cell? ⟨b, o, none⟩ = some (.int .i64 x)) (f0 : w.frozen? ⟨b, o, none⟩ = false) (hs : IntKind.i64.wrap (x + d) = s) :
    Calls Try.prog 23 #[.pointer (some ⟨b, o, none⟩), .int .i64 d] w fun e w' => e = .returned (.int .i64 s) ∧ w' = w.setCell ⟨b, o, none⟩ (.int .i64 s) := by
  have hl := run_call_add (P := Try.prog) Try.func45 (by kernel_rfl) (by kernel_rfl) (by kernel_rfl) .i64 (by kernel_rfl) (s := s) (y := d) h0 f0 (by simp [go_sem, hs, Op.intArith])
  go_enter Try.func23, Try.ntmps23
  go_wp2_with (simp only [hl])
  go_ret
  exact ⟨rfl, rfl⟩
end Go.Proofs.Ytggbbekgmjkplaa.Rg
