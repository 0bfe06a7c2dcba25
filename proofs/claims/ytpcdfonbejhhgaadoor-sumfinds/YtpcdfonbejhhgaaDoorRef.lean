/- The walks of the document's 'Open', and of 'awake'. -/
import Derived.Test.YtpcdfonbejhhgaaDoorOpen
import Derived.WalkKit
namespace Go.Proofs.YtpcdfonbejhhgaaDoor
open Go.RowKit

theorem cat_eq (s : ByteArray) (F : List UInt8) : ((s.extract 0 (s.size - 4) ++ (⟨F.toArray⟩ : ByteArray)).toList == s.toList) = decide (s.data.toList.drop (s.size - 4) = F) := by
  rw [ByteArray.toList_eq, ByteArray.toList_eq, append_mk, extract_low, Bool.eq_iff_iff]
  simp only [beq_iff_eq, decide_eq_true_eq]
  constructor
  · intro h
    have h2 : s.data.toList.take (s.size - 4) ++ F = s.data.toList.take (s.size - 4) ++ s.data.toList.drop (s.size - 4) := by rw [List.take_append_drop]; exact h
    exact (List.append_cancel_left h2).symm
  · intro h
    rw [← h]; exact List.take_append_drop _ _

set_option maxHeartbeats 1000000 in
theorem refOpen_any (s : ByteArray) (w : World) (hs : s.size ≤ 4096) :
    Calls Tryd.prog 16 #[.string s] w fun e w' => e = .returned (.tuple #[.string ⟨(opened s.data.toList).1.toArray⟩, .bool (opened s.data.toList).2]) ∧ Below w.heap.size w w' := by
  by_cases h4 : s.size < 4
  · have ho : opened s.data.toList = ([], false) := by unfold opened; rw [if_neg (by simp; omega)]
    rw [ho]
    go_enter Tryd.func16, Tryd.ntmps16
    go_wp2
    go_ret2
    exact ⟨rfl, Below.refl _ _⟩
  · have hx : (s.extract 0 (s.size - 4)).size ≤ maxLen := by rw [extract_size _ _ (by omega)]; unfold maxLen; omega
    go_enter Tryd.func16, Tryd.ntmps16
    go_wp2_with fail
    refine (refOf_any _ _ hx).mono ?_
    rintro e w' ⟨rfl, rfl⟩
    go_wp2_with fail
    refine (refBytes_any _ _ (Crc.more_lt _ (by omega))).mono ?_
    rintro e w1 ⟨rfl, hb⟩
    have hlen : s.data.toList.length = s.size := by simp
    have h4l := four_length (Crc.more 0 (s.data.toList.take (s.size - 4)))
    have hcat := cat_eq s (Crc.four (Crc.more 0 (s.data.toList.take (s.size - 4))))
    by_cases hq : s.data.toList.drop (s.size - 4) = Crc.four (Crc.more 0 (s.data.toList.take (s.size - 4)))
    · have HO : Hid (opened s.data.toList = (s.data.toList.take (s.size - 4), true)) := by
        have ho : opened s.data.toList = (s.data.toList.take (s.size - 4), true) := by unfold opened; rw [hlen, if_pos ⟨by omega, hq⟩]
        exact ho
      rw [decide_eq_true hq] at hcat
      clear hq
      go_wp2
      go_ret2
      refine ⟨?_, hb⟩
      rw [HO.out]
      exact congrArg (fun x : ByteArray => Ending.returned (.tuple #[.string x, .bool true])) (extract_mk s (s.size - 4))
    · have HO : Hid (opened s.data.toList = ([], false)) := by
        have ho : opened s.data.toList = ([], false) := by unfold opened; rw [hlen, if_neg (fun h => hq h.2)]
        exact ho
      rw [decide_eq_false hq] at hcat
      clear hq
      go_wp2
      go_ret2
      refine ⟨?_, hb⟩
      rw [HO.out]; rfl

/-- Chapter 1's example. -/
theorem sum_nine : Crc.more 0 [49, 50, 51, 52, 53, 54, 55, 56, 57] = 3421780262 := by decide +kernel
theorem sealed_nil : sealedL [] = [0, 0, 0, 0] := by decide +kernel
theorem awake_any (w : World) (hT : Tab w) : Calls Tryd.prog 7 #[] w fun e w' => e = .returned (.bool true) ∧ Below w.heap.size w w' := by
  have h9 := sum_nine
  have h0 := sealed_nil
  go_enter Tryd.func7, Tryd.ntmps7
  go_wp2_with fail
  refine (of_any _ _ (by decide) hT).mono ?_
  rintro e w' ⟨rfl, rfl⟩
  go_wp2_with fail
  refine (sealed_any _ _ (by decide) hT).mono ?_
  rintro e w1 ⟨rfl, hb⟩
  go_wp2
  go_ret
  exact ⟨rfl, hb⟩
end Go.Proofs.YtpcdfonbejhhgaaDoor
