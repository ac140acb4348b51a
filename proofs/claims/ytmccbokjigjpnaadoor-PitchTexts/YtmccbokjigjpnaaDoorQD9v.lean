/- What the document's Print comes to, where the pitch is right: in the program's words. -/
import Derived.Test.YtmccbokjigjpnaaDoorQD9u
import Derived.Test.YtmccbokjigjpnaaDoorQT3c
import Derived.Test.YtmccbokjigjpnaaDoorQD3
namespace Go.Proofs.YtmccbokjigjpnaaDoor
open Go.RowKit
set_option linter.unusedVariables false
set_option linter.unusedSimpArgs false

theorem ltr_size (l : Int) : (⟨(M.ltr l).toArray⟩ : ByteArray).size ≤ 1 := by
  show (M.ltr l).toArray.size ≤ 1
  rw [List.size_toArray]
  unfold M.ltr
  split; decide; split; decide; split; decide; split; decide; split; decide; split; decide; split; decide; decide
theorem refPrint_yes (l a o : Int) (w : World) (hr : M.rt l a o = true) :
    Calls Tryd.prog 18 #[.agg #[.int .i64 l, .int .i64 a, .int .i64 o]] w fun e w' => e = .returned (.tuple #[.string (M.pr l a o), .int .i64 0]) ∧ Below w.heap.size w w' := by
  obtain ⟨h1, h2, h3, h4, h5, h6⟩ := M.rt_yes hr
  have hRt := fun X => refRight_any l a o X (by omega) (by omega)
  rw [hr] at hRt
  have hLT := fun X => Letter_any l X h1 h2
  have hDG := fun X => Digits_any o X (by omega) (by omega)
  have hds : (⟨(Lib.itoa o).toArray⟩ : ByteArray).size ≤ 100 := by have := itoa_size o (by omega) (by omega); omega
  have go : ∀ (K : Nat) (SG : List UInt8), a = (K : Int) - 3 → K < 7 → M.sgn a = SG → SG.length ≤ 7 → (#[.string ⟨#[240, 157, 132, 171, 226, 153, 173]⟩, .string ⟨#[240, 157, 132, 171]⟩, .string ⟨#[226, 153, 173]⟩, .string ⟨#[]⟩, .string ⟨#[226, 153, 175]⟩, .string ⟨#[240, 157, 132, 170]⟩, .string ⟨#[240, 157, 132, 170, 226, 153, 175]⟩] : Array Value)[K]? = some (.string ⟨SG.toArray⟩) →
      Calls Tryd.prog 18 #[.agg #[.int .i64 l, .int .i64 a, .int .i64 o]] w fun e w' => e = .returned (.tuple #[.string (M.pr l a o), .int .i64 0]) ∧ Below w.heap.size w w' := fun K SG ha hK hS hl hc => by
    have q := refPrint_K l o a K (by rw [wid (by omega) (by omega)]; omega) (by omega) ⟨(M.lt' l).toArray⟩ ⟨SG.toArray⟩ ⟨(Lib.itoa o).toArray⟩ w hRt hLT (ltr_size l) hDG hds (by show SG.toArray.size ≤ 7; rw [List.size_toArray]; exact hl) hc
    have e : M.pr l a o = ⟨(M.lt' l).toArray⟩ ++ ⟨SG.toArray⟩ ++ ⟨(Lib.itoa o).toArray⟩ := (pr_ret (M.lt' l) SG rfl hS rfl).symm
    rw [e]; exact q
  rcases (show a = -3 ∨ a = -2 ∨ a = -1 ∨ a = 0 ∨ a = 1 ∨ a = 2 ∨ a = 3 by omega) with rfl | rfl | rfl | rfl | rfl | rfl | rfl
  · exact go 0 _ rfl (by decide) rfl (by decide) rfl
  · exact go 1 _ rfl (by decide) rfl (by decide) rfl
  · exact go 2 _ rfl (by decide) rfl (by decide) rfl
  · exact go 3 _ rfl (by decide) rfl (by decide) rfl
  · exact go 4 _ rfl (by decide) rfl (by decide) rfl
  · exact go 5 _ rfl (by decide) rfl (by decide) rfl
  · exact go 6 _ rfl (by decide) rfl (by decide) rfl
end Go.Proofs.YtmccbokjigjpnaaDoor
