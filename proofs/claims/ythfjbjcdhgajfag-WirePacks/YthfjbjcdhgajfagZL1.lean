/- The law WireShort: its walk. -/
import Derived.Test.YthfjbjcdhgajfagZ6
namespace Go.Proofs.Ythfjbjcdhgajfag.Z
open Go.RowKit Go.Maps
set_option linter.unusedVariables false
set_option linter.unusedSimpArgs false

theorem bs_size (l : List Nat) : (bs l).size = l.length := by unfold bs; rw [strOfNums_size]; simp
theorem bs_take (a b : List Nat) : (bs (a ++ b)).extract 0 (bs a).size = bs a := by
  rw [bs_size]
  apply ByteArray.ext
  rw [ByteArray.data_extract]
  unfold bs strOfNums
  simp
theorem alive_any (w : World) :
    Calls Try.prog 25 #[] w fun e w' => e = .returned (.bool true) ∧ Below w.heap.size w w' := by
  have h1 : M.wr [⟨0, 9, 0, 60, 1⟩] = 0 := by decide
  have h2 : (pa [⟨0, 9, 0, 60, 1⟩]).size = 4 := by unfold pa; rw [if_pos h1, bs_size]; decide
  have HP := fun ao w hp => Pack_any [⟨0, 9, 0, 60, 1⟩] ao 1 w hp (by decide) (by omega) (by intro e he; simp at he; subst he; decide)
  rw [h1] at HP
  generalize pa [⟨0, 9, 0, 60, 1⟩] = P at *
  have h3 : ((P.size : Nat) : Int) = 4 := by omega
  clear h1
  go_enter Try.func25, Try.ntmps25
  go_wp2_with fail
  have hp : LE (w.alloc (Obj.cells #[.int .i64 0, .int .i64 9, .int .i64 0, .int .i64 60, .int .i64 1] 62)) (some ⟨w.heap.size, 0, none⟩) [⟨0, 9, 0, 60, 1⟩] := by
    refine ⟨fun _ => ⟨_, _, rfl, by simp, fun j e hj => ?_⟩⟩
    match j, hj with
    | 0, hj =>
      simp at hj
      subst hj
      exact ⟨by simp [go_sem], by simp [go_sem], by simp [go_sem], by simp [go_sem], by simp [go_sem]⟩
  refine (HP _ _ hp).mono ?_
  rintro e w1 ⟨rfl, hb⟩
  have k : Below w.heap.size w w1 := Below.trans (by go_grown) (hb.mono (by simp))
  clear hb HP hp
  go_wp2_with fail
  go_ret
  exact ⟨rfl, k⟩
theorem LE.take {w : World} {ao : Option Addr} {l : List M.Ev} (h : LE w ao l) (n : Nat) : LE w ao (l.take n) := by
  refine ⟨fun hn => ?_⟩
  obtain ⟨b, off, h1, h2, h3⟩ := h.at' (by rw [List.length_take] at hn; omega)
  refine ⟨b, off, h1, h2, fun j e hj => h3 j e ?_⟩
  rw [List.getElem?_take] at hj
  split at hj
  · exact hj
  · cases hj
theorem M.wr_ok {l : List M.Ev} : M.wr l = 0 ↔ l.length ≤ 4096 ∧ M.wl 0 l = 0 := by
  unfold M.wr
  split
  · exact ⟨fun h => by omega, fun h => by omega⟩
  · exact ⟨fun h => ⟨by omega, h⟩, fun h => h.2⟩

set_option maxHeartbeats 4000000 in
theorem short_walk (l : List M.Ev) (ao : Option Addr) (c : Nat) (n : Int) (w : World) (hp : LE w ao l) (hc : l.length ≤ c) (hcm : c ≤ 9223372036854775807) (hbd : ∀ e ∈ l, e.t ≤ 9223372036854775807) :
    Calls Try.prog 8 #[.slice ao l.length c, .int .i64 n] w fun e w' => e = .returned (.bool true) ∧ Below w.heap.size w w' := by
  have HP := fun w hp => Pack_any l ao c w hp hc hcm hbd
  by_cases c1 : n < 0
  · clear HP
    go_enter Try.func8, Try.ntmps8
    go_wp2_with fail
    refine (alive_any _).mono ?_
    rintro e w1 ⟨rfl, k1⟩
    go_wp2_with fail
    go_ret
    exact ⟨rfl, k1⟩
  obtain ⟨m, rfl⟩ : ∃ m : Nat, n = (m : Int) := ⟨n.toNat, by omega⟩
  by_cases c2 : (l.length : Int) < (m : Int)
  · clear HP
    go_enter Try.func8, Try.ntmps8
    go_wp2_with fail
    refine (alive_any _).mono ?_
    rintro e w1 ⟨rfl, k1⟩
    go_wp2_with fail
    go_ret
    exact ⟨rfl, k1⟩
  have hm : m ≤ l.length := by omega
  have hlm : (l.take m).length = m := by rw [List.length_take]; omega
  have HQ := fun w hp => Pack_any (l.take m) ao m w hp (by omega) (by omega) (fun e he => hbd e (List.mem_of_mem_take he))
  rw [hlm] at HQ
  have HT : Hid (∀ w, LE w ao l → LE w ao (l.take m)) := fun w h => h.take m
  by_cases hok : M.wr l = 0
  · obtain ⟨q1, q2⟩ := M.wr_ok.1 hok
    have q3 : M.wl M.z0.t (l.take m ++ l.drop m) = 0 := by rw [List.take_append_drop]; exact q2
    obtain ⟨q4, q5⟩ := M.wl_append q3
    have hok2 : M.wr (l.take m) = 0 := M.wr_ok.2 ⟨by omega, q4⟩
    have e1 : M.pk M.z0 l = M.pk M.z0 (l.take m) ++ M.pk (M.lst M.z0 (l.take m)) (l.drop m) := by rw [← M.pk_append, List.take_append_drop]
    have hS : pa l = bs (M.pk M.z0 (l.take m) ++ M.pk (M.lst M.z0 (l.take m)) (l.drop m)) := by unfold pa; rw [if_pos hok, e1]
    have hT : pa (l.take m) = bs (M.pk M.z0 (l.take m)) := if_pos hok2
    have hx : (pa l).extract 0 (pa (l.take m)).size = pa (l.take m) := by rw [hS, hT]; exact bs_take _ _
    have hz : (pa (l.take m)).size ≤ (pa l).size := by rw [hS, hT, bs_size, bs_size]; simp
    rw [hok] at HP
    rw [hok2] at HQ
    generalize pa l = S at *
    generalize pa (l.take m) = T at *
    have hz' : ((T.size : Nat) : Int) ≤ ((S.size : Nat) : Int) := by omega
    have hz2 : ¬ ((S.size : Nat) : Int) < ((T.size : Nat) : Int) := by omega
    clear q1 q2 q3 q4 q5 hok2 e1 hS hT hok
    go_enter Try.func8, Try.ntmps8
    go_wp2_with fail
    refine (alive_any _).mono ?_
    rintro e w1 ⟨rfl, k1⟩
    go_wp2_with fail
    refine (HP _ (hp.step k1)).mono ?_
    rintro e w2 ⟨rfl, hb2⟩
    have k2 : Below w.heap.size w w2 := k1.trans (hb2.mono k1.size)
    clear HP hb2 k1
    go_wp2_with fail
    refine (HQ _ (HT.out _ (hp.step k2))).mono ?_
    rintro e w3 ⟨rfl, hb3⟩
    have k3 : Below w.heap.size w w3 := k2.trans (hb3.mono k2.size)
    clear HQ HT hb3 k2
    go_wp2_with fail
    go_ret
    exact ⟨rfl, k3⟩
  · have hok' : (M.wr l != 0) = true := by simp [hok]
    generalize M.wr l = X at *
    clear HQ HT
    go_enter Try.func8, Try.ntmps8
    go_wp2_with fail
    refine (alive_any _).mono ?_
    rintro e w1 ⟨rfl, k1⟩
    go_wp2_with fail
    refine (HP _ (hp.step k1)).mono ?_
    rintro e w2 ⟨rfl, hb2⟩
    have k2 : Below w.heap.size w w2 := k1.trans (hb2.mono k1.size)
    clear HP hb2 k1
    go_wp2_with fail
    go_ret
    exact ⟨rfl, k2⟩
end Go.Proofs.Ythfjbjcdhgajfag.Z
