/- The walks of 'Sealed', the two 'Open's and 'awake'. -/
import Derived.Test.YtpcdfonbejhhgaaDoorBytes
import Derived.WalkKit
import Derived.Deep.RegionWith
namespace Go.Proofs.YtpcdfonbejhhgaaDoor
open Go.RowKit

theorem Tab.below {w w' : World} (hT : Tab w) (hb : Below w.heap.size w w') : Tab w' := fun i hi =>
  (hb.cell (p := ⟨0, i, none⟩) (World.block_lt_of_cell? w ⟨0, i, none⟩ (hT i hi))).trans (hT i hi)

/-- The text with its sum behind it. -/
def sealedL (l : List UInt8) : List UInt8 := l ++ Crc.four (Crc.more 0 l)
theorem four_length (n : Nat) : (Crc.four n).length = 4 := rfl
theorem sealedL_length (l : List UInt8) : (sealedL l).length = l.length + 4 := by simp [sealedL, four_length]
/-- What 'Open' tells of a text. -/
def opened (l : List UInt8) : List UInt8 × Bool := if 4 ≤ l.length ∧ l.drop (l.length - 4) = Crc.four (Crc.more 0 (l.take (l.length - 4))) then (l.take (l.length - 4), true) else ([], false)

theorem append_mk (s : ByteArray) (l : List UInt8) : s ++ (⟨l.toArray⟩ : ByteArray) = ⟨(s.data.toList ++ l).toArray⟩ := by
  apply ByteArray.ext; simp
theorem extract_low (s : ByteArray) (k : Nat) : (s.extract 0 k).data.toList = s.data.toList.take k := by simp [ByteArray.data_extract]
theorem extract_high (s : ByteArray) (k : Nat) : (s.extract k s.size).data.toList = s.data.toList.drop k := by
  simp only [ByteArray.data_extract, Array.toList_extract, List.extract_eq_take_drop]
  exact List.take_of_length_le (by simp)
theorem extract_mk (s : ByteArray) (k : Nat) : s.extract 0 k = ⟨(s.data.toList.take k).toArray⟩ := by
  rw [← extract_low]
theorem extract_size (s : ByteArray) (k : Nat) (h : k ≤ s.size) : (s.extract 0 k).size = k := by simp; omega

theorem sealed_any (s : ByteArray) (w : World) (hs : s.size ≤ 4096) (hT : Tab w) :
    Calls Tryd.prog 15 #[.string s] w fun e w' => e = .returned (.string ⟨(sealedL s.data.toList).toArray⟩) ∧ Below w.heap.size w w' := by
  go_enter Tryd.func15, Tryd.ntmps15
  go_wp2_with fail
  refine (of_any s _ (by unfold maxLen; omega) hT).mono ?_
  rintro e w' ⟨rfl, rfl⟩
  go_wp2_with fail
  refine (bytes_any _ _ (Crc.more_lt _ (by omega))).mono ?_
  rintro e w1 ⟨rfl, hb⟩
  have h4 := four_length (Crc.more 0 s.data.toList)
  go_wp2
  go_ret
  exact ⟨by rw [append_mk]; rfl, hb⟩

set_option maxHeartbeats 2000000 in
theorem open_any (s : ByteArray) (w : World) (hs : s.size ≤ 4096) (hT : Tab w) :
    Calls Tryd.prog 14 #[.string s] w fun e w' => e = .returned (.tuple #[.string ⟨(opened s.data.toList).1.toArray⟩, .bool (opened s.data.toList).2]) ∧ Below w.heap.size w w' := by
  by_cases h4 : s.size < 4
  · have ho : opened s.data.toList = ([], false) := by unfold opened; rw [if_neg (by simp; omega)]
    rw [ho]
    go_enter Tryd.func14, Tryd.ntmps14
    go_wp2
    go_ret2
    exact ⟨rfl, Below.refl _ _⟩
  · have hx : (s.extract 0 (s.size - 4)).size ≤ maxLen := by rw [extract_size _ _ (by omega)]; unfold maxLen; omega
    have hTd : Tab w.drew := hT
    have hlen : s.data.toList.length = s.size := by simp
    by_cases hq : s.data.toList.drop (s.size - 4) = Crc.four (Crc.more 0 (s.data.toList.take (s.size - 4)))
    · have ho : opened s.data.toList = (s.data.toList.take (s.size - 4), true) := by unfold opened; rw [hlen, if_pos ⟨by omega, hq⟩]
      have hB : ((s.extract (s.size - 4) s.size).toList == Crc.four (Crc.more 0 (s.data.toList.take (s.size - 4)))) = true := by rw [ByteArray.toList_eq, extract_high, hq]; simp
      rw [ho]
      clear hq ho hlen
      go_enter Tryd.func14, Tryd.ntmps14
      go_wp2
      go_region_with (first
        | (go_at_call 8; refine (of_any _ _ hx hTd).mono ?_; rintro e w' ⟨rfl, rfl⟩)
        | (go_at_call 12; refine (bytes_any _ _ (Crc.more_lt _ (by omega))).mono ?_; rintro e w1 ⟨rfl, hb⟩))
      all_goals go_wp2
      all_goals go_ret2
      all_goals exact ⟨congrArg (fun x : ByteArray => Ending.returned (.tuple #[.string x, .bool true])) (extract_mk s (s.size - 4)), (Below.refl _ w).drew.trans hb⟩
    · have ho : opened s.data.toList = ([], false) := by unfold opened; rw [hlen, if_neg (fun h => hq h.2)]
      have hB : ((s.extract (s.size - 4) s.size).toList == Crc.four (Crc.more 0 (s.data.toList.take (s.size - 4)))) = false := by rw [ByteArray.toList_eq, extract_high]; exact beq_eq_false_iff_ne.2 hq
      rw [ho]
      clear hq ho hlen
      go_enter Tryd.func14, Tryd.ntmps14
      go_wp2
      go_region_with (first
        | (go_at_call 8; refine (of_any _ _ hx hTd).mono ?_; rintro e w' ⟨rfl, rfl⟩)
        | (go_at_call 12; refine (bytes_any _ _ (Crc.more_lt _ (by omega))).mono ?_; rintro e w1 ⟨rfl, hb⟩))
      all_goals go_wp2
      all_goals go_ret2
      all_goals exact ⟨rfl, (Below.refl _ w).drew.trans hb⟩

end Go.Proofs.YtpcdfonbejhhgaaDoor
