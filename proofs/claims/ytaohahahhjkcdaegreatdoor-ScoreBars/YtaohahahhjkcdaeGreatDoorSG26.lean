/- Words: where one ends; what the program's word comes to. -/
import Derived.Test.YtaohahahhjkcdaeGreatDoorSG25
import Derived.Test.YtaohahahhjkcdaeGreatDoorSG18
namespace Go.Proofs.YtaohahahhjkcdaeGreatDoor.J
open Go.RowKit
set_option linter.unusedVariables false
set_option linter.unusedSimpArgs false

/-- What ends a word. -/
def chs : ByteArray := ⟨#[32, 10, 124, 47, 60, 62, 126, 91, 93, 42, 34]⟩
def M.sg (x : Nat) : Bool := x == 32 || x == 10 || x == 124 || x == 47 || x == 60 || x == 62 || x == 126 || x == 91 || x == 93 || x == 42 || x == 34
theorem sg_is (x : UInt8) : chs.data.toList.contains x = M.sg x.toNat := by
  have : ∀ x : Fin 256, chs.data.toList.contains (UInt8.ofNat x) = M.sg (UInt8.ofNat x).toNat := by decide +kernel
  have h := this ⟨x.toNat, x.toNat_lt⟩
  simpa using h
/-- Where a word ends, c places at most being looked at. -/
def M.we (s : ByteArray) : Nat → Nat → Nat
  | 0, k => k
  | c + 1, k => if M.sg (M.by s k) = true then k else M.we s c (k + 1)
def M.wd (s : ByteArray) (k : Nat) : Nat := M.we s (s.size - k) k
theorem M.we_le (s : ByteArray) : ∀ (c k : Nat), k ≤ M.we s c k ∧ M.we s c k ≤ k + c
  | 0, k => ⟨Nat.le_refl _, Nat.le_refl _⟩
  | c + 1, k => by
    rw [M.we]
    by_cases h : M.sg (M.by s k) = true
    · rw [if_pos h]; omega
    · rw [if_neg h]
      have := M.we_le s c (k + 1)
      omega
theorem M.wd_le {s : ByteArray} {k : Nat} (h : k ≤ s.size) : k ≤ M.wd s k ∧ M.wd s k ≤ s.size := by
  have := M.we_le s (s.size - k) k
  unfold M.wd; omega
/-- IndexAny tells it. -/
theorem ia_we (s : ByteArray) : ∀ (c k : Nat), k + c = s.size → Lib.indexAny (s.data.toList.drop k) chs.data.toList = if M.we s c k < s.size then ((M.we s c k - k : Nat) : Int) else -1
  | 0, k, h => by
    have e : s.data.toList.drop k = [] := List.drop_of_length_le (by rw [← Lib.size_eq]; omega)
    rw [e, Lib.indexAny, M.we, if_neg (by omega)]
  | c + 1, k, h => by
    have hl : k < s.data.toList.length := by rw [← Lib.size_eq]; omega
    rw [List.drop_eq_getElem_cons hl, Lib.indexAny, sg_is]
    have hb : (s.data.toList[k]).toNat = M.by s k := by
      unfold M.by
      rw [List.getD_eq_getElem?_getD, List.getElem?_eq_getElem hl]; rfl
    rw [hb, M.we]
    by_cases hs : M.sg (M.by s k) = true
    · rw [if_pos hs, if_pos hs, if_pos (by omega)]; simp
    · rw [if_neg hs, if_neg hs, ia_we s c (k + 1) (by omega)]
      have hle := M.we_le s c (k + 1)
      by_cases hw : M.we s c (k + 1) < s.size
      · rw [if_pos hw, if_pos hw, if_neg (by simp <;> omega)]; omega
      · rw [if_neg hw, if_neg hw]; rfl
theorem ia_wd {s : ByteArray} {k : Nat} (h : k ≤ s.size) : Lib.indexAny (s.extract k s.size).data.toList chs.data.toList = if M.wd s k < s.size then ((M.wd s k - k : Nat) : Int) else -1 := by
  have e : (s.extract k s.size).data.toList = s.data.toList.drop k := by
    rw [ByteArray.data_extract, Array.toList_extract, List.extract_eq_take_drop, List.take_of_length_le (by rw [List.length_drop, ← Lib.size_eq]; omega)]
  rw [e]
  exact ia_we s _ k (by omega)
/-- What IndexAny must tell of a text. -/
def IA (r : ByteArray) : Prop := ∀ W, Calls Tryz.prog 54 #[.string r, .string chs] W fun e w' => e = .returned (.int .i64 (Lib.indexAny r.data.toList chs.data.toList)) ∧ Below W.heap.size W w'
theorem ia_ascii (r : ByteArray) (hr : r.size < 4294967281) (ha : ∀ (j : Nat) b, r.data.toList[j]? = some b → b.toNat < 128) : IA r := fun W =>
  Tryz.strings_IndexAny_laid r chs W hr (by decide) ha (fun j b hj => by
    have : ∀ j : Fin 11, (chs.data.toList[(j : Nat)]'(by exact j.2)).toNat < 128 := by decide
    have hl : j < 11 := (List.getElem?_eq_some_iff.1 hj).1
    have := this ⟨j, hl⟩
    obtain ⟨_, h2⟩ := List.getElem?_eq_some_iff.1 hj
    rw [← h2]; exact this)

theorem word_any (p k : Nat) (s : ByteArray) (w : World) (hR : Rt w p s k) (hk : k ≤ s.size) (hs : s.size ≤ 65536) (hIA : IA (s.extract (M.skp s k) s.size)) :
    Calls Tryz.prog 41 #[.pointer (some ⟨p, 0, none⟩)] w fun e w' => e = .returned (.string (s.extract (M.skp s k) (M.wd s (M.skp s k)))) ∧ Rt w' p s (M.skp s k) ∧ TK w p w' := by
  have HK := skip_any p k s w hR hk (by omega)
  have hle := (M.skp_le hk).2
  generalize M.skp s k = j at *
  have HI : ∀ W, Calls Tryz.prog 54 #[.string (s.extract j s.size), .string ⟨#[32, 10, 124, 47, 60, 62, 126, 91, 93, 42, 34]⟩] W fun e w' => e = .returned (.int .i64 (if M.wd s j < s.size then ((M.wd s j - j : Nat) : Int) else -1)) ∧ Below W.heap.size W w' := fun W => by rw [← ia_wd hle]; exact hIA W
  have hwd := M.wd_le hle
  generalize M.wd s j = d at *
  clear hIA
  have hlt' : (j : Int) ≤ s.size := by omega
  have hxs : (s.extract j s.size).size = s.size - j := by rw [ByteArray.size_extract]; omega
  by_cases hd : d < s.size
  · rw [if_pos hd] at HI
    have hxx : (s.extract j s.size).extract 0 (d - j) = s.extract j d := by
      rw [ByteArray.extract_extract, Nat.add_zero, show min (j + (d - j)) s.size = d by omega]
    go_enter Tryz.func41, Tryz.ntmps41
    go_wp2_with fail
    refine HK.mono ?_
    rintro e w1 ⟨rfl, h1, t1⟩
    have c0 := h1.c0
    have c1 := h1.c1
    have lt := h1.lt
    have HR : Hid (Rt w1 p s j) := h1
    have HT : Hid (TK w p w1) := t1
    clear h1 t1
    go_wp2_with fail
    go_quiet (fail)
    go_wp2_with fail
    refine (HI _).mono ?_
    rintro e w2 ⟨rfl, hb2⟩
    have hd1 : Below w1.heap.size w1 (w1.drewN nq) := ⟨rfl, rfl, rfl, Nat.le_refl _, fun _ _ => rfl⟩
    have hb : Below w1.heap.size w1 w2 := hd1.trans hb2
    have g1 : ((d - j : Nat) : Int) ≤ s.size - j := by omega
    have g2 : d - j ≤ (s.extract j s.size).size := by omega
    have g3 : ¬ ((d - j : Nat) : Int) < 0 := by omega
    have g4 : (0 : Int) ≤ ((d - j : Nat) : Int) := by omega
    go_wp2_with fail
    go_ret
    exact ⟨by rw [← hxx]; rfl, HR.out.step hb, HT.out.trans (TK.below hb lt)⟩
  · rw [if_neg hd] at HI
    obtain rfl : d = s.size := by omega
    go_enter Tryz.func41, Tryz.ntmps41
    go_wp2_with fail
    refine HK.mono ?_
    rintro e w1 ⟨rfl, h1, t1⟩
    have c0 := h1.c0
    have c1 := h1.c1
    have lt := h1.lt
    have HR : Hid (Rt w1 p s j) := h1
    have HT : Hid (TK w p w1) := t1
    clear h1 t1
    go_wp2_with fail
    go_quiet (fail)
    go_wp2_with fail
    refine (HI _).mono ?_
    rintro e w2 ⟨rfl, hb2⟩
    have hd1 : Below w1.heap.size w1 (w1.drewN nq) := ⟨rfl, rfl, rfl, Nat.le_refl _, fun _ _ => rfl⟩
    have hb : Below w1.heap.size w1 w2 := hd1.trans hb2
    go_wp2_with fail
    go_ret
    exact ⟨rfl, HR.out.step hb, HT.out.trans (TK.below hb lt)⟩
end Go.Proofs.YtaohahahhjkcdaeGreatDoor.J
