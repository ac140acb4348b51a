/- Name of both sides, at every interval, in one word. -/
import Derived.Test.YtmccbokjigjpnaaDoorQD5
namespace Go.Proofs.YtmccbokjigjpnaaDoor
open Go.RowKit
set_option linter.unusedVariables false
set_option linter.unusedSimpArgs false

/-- An interval that goes down. -/
def M.dw (s h : Int) : Prop := s < 0 ∨ (s = 0 ∧ h < 0)
/-- What Name answers. -/
def M.NmQ (s h : Int) (t : ByteArray) (E : Int) : Prop :=
  (E = 3 ∧ t = ⟨#[]⟩ ∧ (M.inb s h = false ∨ (M.dw s h ∧ 6 < M.un (-s) (-h)) ∨ (¬ M.dw s h ∧ 6 < M.un s h))) ∨
  (E = 0 ∧ M.inb s h = true ∧ ((M.dw s h ∧ M.un (-s) (-h) ≤ 6 ∧ t = M.ndn s h) ∨ (¬ M.dw s h ∧ M.un s h ≤ 6 ∧ t = M.nup s h)))
theorem M.nm_some (s h : Int) : ∃ t E, M.NmQ s h t E := by
  cases hi : M.inb s h
  · exact ⟨_, _, .inl ⟨rfl, rfl, .inl hi⟩⟩
  · by_cases hd : M.dw s h
    · by_cases hq : M.un (-s) (-h) ≤ 6
      · exact ⟨_, _, .inr ⟨rfl, hi, .inl ⟨hd, hq, rfl⟩⟩⟩
      · exact ⟨_, _, .inl ⟨rfl, rfl, .inr (.inl ⟨hd, by omega⟩)⟩⟩
    · by_cases hq : M.un s h ≤ 6
      · exact ⟨_, _, .inr ⟨rfl, hi, .inr ⟨hd, hq, rfl⟩⟩⟩
      · exact ⟨_, _, .inl ⟨rfl, rfl, .inr (.inr ⟨hd, by omega⟩)⟩⟩
theorem M.NmQ.one {s h : Int} {t t' : ByteArray} {E E' : Int} (a : M.NmQ s h t E) (b : M.NmQ s h t' E') : t = t' ∧ E = E' := by
  rcases a with ⟨rfl, rfl, ha⟩ | ⟨rfl, hi, ha⟩ <;> rcases b with ⟨rfl, rfl, hb⟩ | ⟨rfl, hj, hb⟩
  · exact ⟨rfl, rfl⟩
  · exfalso
    rcases ha with x | ⟨x, y⟩ | ⟨x, y⟩
    · rw [x] at hj; cases hj
    · rcases hb with ⟨u, v, _⟩ | ⟨u, v, _⟩
      · omega
      · exact u x
    · rcases hb with ⟨u, v, _⟩ | ⟨u, v, _⟩
      · exact x u
      · omega
  · exfalso
    rcases hb with x | ⟨x, y⟩ | ⟨x, y⟩
    · rw [x] at hi; cases hi
    · rcases ha with ⟨u, v, _⟩ | ⟨u, v, _⟩
      · omega
      · exact u x
    · rcases ha with ⟨u, v, _⟩ | ⟨u, v, _⟩
      · exact x u
      · omega
  · rcases ha with ⟨u, v, rfl⟩ | ⟨u, v, rfl⟩ <;> rcases hb with ⟨u', v', rfl⟩ | ⟨u', v', rfl⟩
    · exact ⟨rfl, rfl⟩
    · exact absurd u u'
    · exact absurd u' u
    · exact ⟨rfl, rfl⟩
theorem M.NmQ.err {s h : Int} {t : ByteArray} {E : Int} (a : M.NmQ s h t E) : E = 0 ∨ E = 3 := by
  rcases a with ⟨rfl, _⟩ | ⟨rfl, _⟩
  · exact .inr rfl
  · exact .inl rfl
theorem Name_any (s h : Int) (t : ByteArray) (E : Int) (w : World) (ht : Tab w) (hpw : Pows w) (hn : M.NmQ s h t E) :
    Calls Tryd.prog 19 #[.agg #[.int .i64 s, .int .i64 h]] w fun e w' => e = .returned (.tuple #[.string t, .int .i64 E]) ∧ Below w.heap.size w w' := by
  rcases hn with ⟨rfl, rfl, ha⟩ | ⟨rfl, hi, ha⟩
  · cases hi : M.inb s h
    · exact Name_range s h w hi
    · rcases ha with x | ⟨x, y⟩ | ⟨x, y⟩
      · rw [x] at hi; cases hi
      · exact Name_dnx s h w ht hpw hi x y
      · unfold M.dw at x; exact Name_upx s h w ht hpw hi (by omega) (by omega) y
  · rcases ha with ⟨u, v, rfl⟩ | ⟨u, v, rfl⟩
    · exact Name_dn s h w ht hpw hi u v
    · unfold M.dw at u; exact Name_up s h w ht hpw hi (by omega) (by omega) v
theorem refName_any (s h : Int) (t : ByteArray) (E : Int) (w : World) (b1 : -9223372036854775808 ≤ s) (b2 : s ≤ 9223372036854775807) (b3 : -9223372036854775808 ≤ h) (b4 : h ≤ 9223372036854775807) (hn : M.NmQ s h t E) :
    Calls Tryd.prog 20 #[.agg #[.int .i64 s, .int .i64 h]] w fun e w' => e = .returned (.tuple #[.string t, .int .i64 E]) ∧ Below w.heap.size w w' := by
  rcases hn with ⟨rfl, rfl, ha⟩ | ⟨rfl, hi, ha⟩
  · cases hi : M.inb s h
    · exact refName_range s h w hi
    · rcases ha with x | ⟨x, y⟩ | ⟨x, y⟩
      · rw [x] at hi; cases hi
      · exact refName_dnx s h w hi x y
      · unfold M.dw at x; exact refName_upx s h w hi (by omega) (by omega) y
  · rcases ha with ⟨u, v, rfl⟩ | ⟨u, v, rfl⟩
    · exact refName_dn s h w hi u v
    · unfold M.dw at u; exact refName_up s h w hi (by omega) (by omega) v
end Go.Proofs.YtmccbokjigjpnaaDoor
