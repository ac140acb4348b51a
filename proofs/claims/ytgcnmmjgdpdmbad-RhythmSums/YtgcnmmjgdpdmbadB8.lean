/- What the program's add comes to, in one. -/
import Derived.Test.YtgcnmmjgdpdmbadB7
namespace Go.Proofs.Ytgcnmmjgdpdmbad.F
open Go.RowKit
set_option linter.unusedVariables false
set_option linter.unusedSimpArgs false

theorem M.ad_new (out : List M.Sp) (k : Int) (st lg : M.Fr) (h : k ≠ 3 ∨ out = []) : M.ad out k st lg = some (out ++ [(st, lg, k == 1)]) := by
  unfold M.ad
  rcases h with h | h
  · have e : (k == 3) = false := by simpa using h
    rw [e]
  · subst h
    cases k == 3 <;> rfl
theorem M.ad_tie (o : List M.Sp) (x : M.Sp) (st lg : M.Fr) : M.ad (o ++ [x]) 3 st lg = (M.pl x.2.1 lg).map fun f => o ++ [(x.1, f, x.2.2)] := by
  unfold M.ad
  have e : ((3 : Int) == 3) = true := rfl
  rw [e, List.reverse_append]
  simp
/-- What a call answers that tells spans, or that a time can't be told. -/
def M.aE (o : Option (List M.Sp)) : Int := match o with | some _ => 0 | none => 4
/-- All lengths are written as they must be. -/
def M.OutOk (out : List M.Sp) : Prop := ∀ s ∈ out, M.Ok s.2.1
theorem M.ad_ok {out o : List M.Sp} {k : Int} {st lg : M.Fr} (h : M.OutOk out) (hl : M.Ok lg) (ha : M.ad out k st lg = some o) : M.OutOk o ∧ o.length ≤ out.length + 1 := by
  by_cases hk : k ≠ 3 ∨ out = []
  · rw [M.ad_new out k st lg hk] at ha
    simp only [Option.some.injEq] at ha
    subst ha
    refine ⟨fun s hs => ?_, by simp⟩
    rcases List.mem_append.1 hs with e | e
    · exact h s e
    · simp at e; rw [e]; exact hl
  · obtain ⟨o', x, rfl⟩ : ∃ o' x, out = o' ++ [x] := by
      rcases List.eq_nil_or_concat out with e | ⟨a, b, e⟩
      · exact absurd (.inr e) hk
      · exact ⟨a, b, by simpa using e⟩
    obtain rfl : k = 3 := by
      by_cases e : k = 3
      · exact e
      · exact absurd (.inl e) hk
    rw [M.ad_tie] at ha
    obtain ⟨f, hf, rfl⟩ := Option.map_eq_some_iff.1 ha
    have hx := h x (by simp)
    have hfo : M.Ok f := M.tell_ok hf (M.mul_pos' _ _ hx.low.1.1 hl.low.1.1)
    refine ⟨fun s hs => ?_, by simp⟩
    rcases List.mem_append.1 hs with e | e
    · exact h s (by simp [e])
    · simp at e; rw [e]; exact hfo

theorem add_any (k : Int) (st lg : M.Fr) (sb : Bool) (out : List M.Sp) (w : World) (po B : Nat) (hB : B ≤ po) (hO : OutAt w po out) (hlen : out.length ≤ 4096) (hk : M.OutOk out) (hl : M.Ok lg) :
    Calls Try.prog 15 #[.int .i64 k, .agg #[.int .i64 st.1, .int .i64 st.2, .int .i64 lg.1, .int .i64 lg.2, .bool sb], .pointer (some ⟨po, 0, none⟩)] w fun e w' => e = .returned (.int .i64 (M.aE (M.ad out k st lg))) ∧ (∀ o, M.ad out k st lg = some o → OutAt w' po o ∧ Keeps w po w') ∧ Below B w w' := by
  by_cases hc : k ≠ 3 ∨ out = []
  · rw [M.ad_new out k st lg hc]
    exact (add_new k st lg sb out w po B hB hO hlen hc).mono fun e w' ⟨h1, h2, h3⟩ => ⟨h1, fun o ho => by simp only [Option.some.injEq] at ho; subst ho; exact h2, h3⟩
  · obtain ⟨o', x, rfl⟩ : ∃ o' x, out = o' ++ [x] := by
      rcases List.eq_nil_or_concat out with e | ⟨a, b, e⟩
      · exact absurd (.inr e) hc
      · exact ⟨a, b, by simpa using e⟩
    obtain rfl : k = 3 := by
      by_cases e : k = 3
      · exact e
      · exact absurd (.inl e) hc
    rw [M.ad_tie]
    refine (add_tie st lg sb o' x w po B hB hO (by simp at hlen; omega) hl (hk x (by simp))).mono fun e w' ⟨h1, h2, h3⟩ => ⟨?_, fun o ho => ?_, h3⟩
    · rw [h1]; cases M.pl x.2.1 lg <;> rfl
    · obtain ⟨f, hf, rfl⟩ := Option.map_eq_some_iff.1 ho
      exact h2 f hf
end Go.Proofs.Ytgcnmmjgdpdmbad.F
