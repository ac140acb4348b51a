/- The document's All. -/
import Derived.Test.YtdlcnbfiklbiiaaCo33
import Derived.Test.YtdlcnbfiklbiiaaCo24
namespace Go.Proofs.Ytdlcnbfiklbiiaa.Co
open Go.RowKit Go.Maps Go.Sort
set_option linter.unusedVariables false
set_option linter.unusedSimpArgs false

/-- The bits of so many bytes. -/
def tbn (s : ByteArray) (j : Nat) : List Nat := u8 ((tx s).take j)
theorem tbn_len (s : ByteArray) (j : Nat) : (tbn s j).length ≤ 8 * j := by unfold tbn; rw [u8_len, List.length_take]; omega
theorem u8_take (l : List Nat) (j x : Nat) (h : l[j]? = some x) : u8 (l.take (j + 1)) = u8 (l.take j) ++ bn x 8 := by
  unfold u8
  rw [List.take_add_one, h, List.flatMap_append]
  congr 1
set_option maxRecDepth 8000 in
set_option maxHeartbeats 8000000 in
theorem all_any (s : ByteArray) (w : World) (hs : s.size ≤ 1099511627776) :
    Calls Try.prog 43 #[.string s] w fun e w' => ∃ v, e = .returned v ∧ NB w' w.heap.size v (tb s) ∧ Below w.heap.size w w' := by
  have HT : Hid (tb s = tbn s s.size) := by show _ = _; unfold tbn; rw [List.take_of_length_le (by rw [tx_len]; exact Nat.le_refl _)]; rfl
  rw [HT.out]
  clear HT
  go_enter Try.func43, Try.ntmps43
  go_wp2_with fail
  go_loopw [4, 3] (fun i v wr => ∃ (j : Nat), j ≤ s.size ∧ i = .int .i64 (j : Int) ∧ Hid (NB wr w.heap.size v (tbn s j)) ∧ Hid (Below w.heap.size w wr)) (fun i _ _ => s.size - (intOf i).toNat)
  case atStart => exact ⟨0, by omega, rfl, by show NB _ _ _ _; exact World.ownsRow_nil _ _ _ _, Below.refl _ _⟩
  case round =>
    obtain ⟨j, hj, rfl, hV, hB⟩ := hrel
    have hul : (tbn s j).length ≤ 8 * s.size := by have := tbn_len s j; omega
    by_cases hlt : j < s.size
    · have hlt' : (j : Int) < (s.size : Int) := by omega
      have hy : (s[j]'hlt).toNat < 256 := UInt8.toNat_lt _
      have HS : Hid (tbn s j ++ bn (s[j]'hlt).toNat 8 = tbn s (j + 1)) := by
        show _ = _
        refine (u8_take _ j _ ?_).symm
        unfold tx
        rw [List.getElem?_map, Array.getElem?_toList, Array.getElem?_eq_getElem (show j < s.data.size from hlt)]; rfl
      have w1 : IntKind.i64.wrap (((s[j]'hlt).toNat : Nat) : Int) = (((s[j]'hlt).toNat : Nat) : Int) := wid (by omega) (by omega)
      have w2 : wrap64 (((s[j]'hlt).toNat : Nat) : Int) = (((s[j]'hlt).toNat : Nat) : Int) := by unfold wrap64; omega
      have w3 : IntKind.i64.wrap ((j : Int) + 1) = (j : Int) + 1 := wid (by omega) (by omega)
      have hq := bitsN (s[j]'hlt).toNat 8 wr (by omega) (by omega)
      obtain ⟨bj, hbj⟩ : ∃ bj, bj = tbn s j := ⟨_, rfl⟩
      rw [← hbj] at hV HS hul
      clear hbj
      go_wp2_with (simp only [w1, w2])
      refine hq.mono ?_
      rintro e w5 ⟨v5, rfl, hv5, hb5⟩
      have hvj := hV.out.keep hb5
      have hz5 := hb5.size
      have hzz := hB.out.size
      have HB5 : Hid (Below w.heap.size w w5) := hB.out.trans (hb5.mono hzz)
      clear hq hb5 hV hB
      go_wp2_with (at_builtin; refine wpList_append_nts rfl (.tmp 11) (.tmp 16) rfl w.heap.size wr.heap.size _ _ bj (bn (s[j]'hlt).toNat 8) rfl hvj rfl hv5 (by rw [bn_len]; omega) (by omega) ?_; intro v6 w6 k1 k2; have HV6 : Hid (NB w6 w.heap.size v6 (tbn s (j + 1))) := (by rw [HS.out] at k1; exact k1); have HB6 : Hid (Below w.heap.size w w6) := HB5.out.trans (k2.bel (by omega) (fun q hq => own_block hvj q hq)); clear k1 k2 hvj hv5)
      go_roundw
      case rel => exact ⟨j + 1, by omega, by go_num, HV6, HB6⟩
      case measure => simp [intOf]; omega
    · obtain rfl : j = s.size := by omega
      have hlt' : ¬ (s.size : Int) < (s.size : Int) := by omega
      go_wp2_with fail
      go_ret
      exact ⟨_, rfl, hV.out, hB.out⟩
end Go.Proofs.Ytdlcnbfiklbiiaa.Co
