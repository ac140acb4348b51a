/- Notes as a list; a tie makes the last ones longer. -/
import Derived.Test.YtaohahahhjkcdaeGreatDoorSG23
import Derived.Test.YtaohahahhjkcdaeGreatDoorSG15
namespace Go.Proofs.YtaohahahhjkcdaeGreatDoor.G.M
set_option linter.unusedVariables false

/-- A note: voice, start, length, pitch, lyric. -/
structure Nt where
  vo : Int
  st : Int × Int
  lg : Int × Int
  pl : Int
  pa : Int
  po : Int
  ly : ByteArray

/-- Each of these, by lg longer. -/
def tl (lg : Int × Int) : List Nt → Option (List Nt)
  | [] => some []
  | x :: l => (F.M.pl x.lg lg).bind fun f => (tl lg l).map fun l' => { x with lg := f } :: l'
def tlE (o : Option (List Nt)) : Int := match o with | some _ => 0 | none => 4
theorem tl_none {lg : Int × Int} {x : Nt} {l : List Nt} (h : F.M.pl x.lg lg = none) : tl lg (x :: l) = none := by rw [tl, h]; rfl
theorem tl_some {lg f : Int × Int} {x : Nt} {l : List Nt} (h : F.M.pl x.lg lg = some f) : tl lg (x :: l) = (tl lg l).map fun l' => { x with lg := f } :: l' := by rw [tl, h]; rfl
theorem tl_len {lg : Int × Int} : ∀ {l l' : List Nt}, tl lg l = some l' → l'.length = l.length
  | [], l', h => by simp only [tl, Option.some.injEq] at h; subst h; rfl
  | x :: l, l', h => by
    cases hp : F.M.pl x.lg lg with
    | none => rw [tl_none hp] at h; simp at h
    | some f =>
      rw [tl_some hp] at h
      cases ht : tl lg l with
      | none => rw [ht] at h; simp at h
      | some m =>
        rw [ht] at h
        simp only [Option.map_some, Option.some.injEq] at h
        subst h
        simp [tl_len ht]

end Go.Proofs.YtaohahahhjkcdaeGreatDoor.G.M

/- The notes of a chord. -/
namespace Go.Proofs.YtaohahahhjkcdaeGreatDoor.G.M
set_option linter.unusedVariables false

/-- The notes of the first k pitches, and the error: R tells what a pitch is moved to, f the note of a pitch. -/
def cdl (R : Nat → (Int × Int × Int) × Int) (f : Int × Int × Int → Nt) : Nat → List Nt × Int
  | 0 => ([], 0)
  | k + 1 => if (cdl R f k).2 ≠ 0 then cdl R f k else if (R k).2 ≠ 0 then ((cdl R f k).1, (R k).2) else ((cdl R f k).1 ++ [f (R k).1], 0)
theorem cdl_on {R : Nat → (Int × Int × Int) × Int} {f : Int × Int × Int → Nt} {k : Nat} (h : (cdl R f k).2 = 0) (h2 : (R k).2 = 0) : cdl R f (k + 1) = ((cdl R f k).1 ++ [f (R k).1], 0) := by
  rw [cdl, if_neg (by simp [h]), if_neg (by simp [h2])]
theorem cdl_stop {R : Nat → (Int × Int × Int) × Int} {f : Int × Int × Int → Nt} {k : Nat} (h : (cdl R f k).2 = 0) (h2 : (R k).2 ≠ 0) : ∀ n, k < n → (cdl R f n).2 = (R k).2 := fun n hn => by
  induction n with
  | zero => omega
  | succ n ih =>
    by_cases hk : k = n
    · subst hk
      rw [cdl, if_neg (by simp [h]), if_pos h2]
    · have := ih (by omega)
      rw [cdl, if_pos (by rw [this]; exact h2), this]
theorem cdl_len {R : Nat → (Int × Int × Int) × Int} {f : Int × Int × Int → Nt} : ∀ {k : Nat}, (cdl R f k).2 = 0 → (cdl R f k).1.length = k
  | 0, _ => rfl
  | k + 1, h => by
    by_cases h1 : (cdl R f k).2 = 0
    · by_cases h2 : (R k).2 = 0
      · rw [cdl_on h1 h2]; simp [cdl_len h1]
      · rw [cdl_stop h1 h2 (k + 1) (by omega)] at h; exact absurd h h2
    · rw [cdl, if_pos h1] at h; exact absurd h h1

end Go.Proofs.YtaohahahhjkcdaeGreatDoor.G.M
