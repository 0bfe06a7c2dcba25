/- The walks of the four statements of layer 1: each returns true, and turns nothing that was there. -/
import Derived.Test.YtpcdfonbejhhgaaDoorRef
import Derived.WalkKit
namespace Go.Proofs.YtpcdfonbejhhgaaDoor
open Go.RowKit

theorem bchain {a b c : World} (h : Below a.heap.size a b) (k : Below b.heap.size b c) : Below a.heap.size a c := h.trans (k.mono h.size)
theorem ret_bool {a b : Bool} (h : a = b) : Ending.returned (.bool a) = .returned (.bool b) := by rw [h]
theorem data_append (s t : ByteArray) : (s ++ t).data.toList = s.data.toList ++ t.data.toList := by simp

set_option maxHeartbeats 1000000 in
theorem sumGoes_walk (s t : ByteArray) (w : World) (hT : Tab w) (hs : s.size ≤ maxLen) (ht : t.size ≤ maxLen) :
    Calls Tryd.prog 4 #[.string s, .string t] w fun e w' => e = .returned (.bool true) ∧ Below w.heap.size w w' := by
  unfold maxLen at hs ht
  by_cases h1 : 2000 < s.size
  · go_enter Tryd.func4, Tryd.ntmps4
    go_wp2_with fail
    refine (awake_any _ hT).mono ?_
    rintro e w' ⟨rfl, hb⟩
    go_wp2
    go_ret
    exact ⟨rfl, hb⟩
  by_cases h2 : 2000 < t.size
  · go_enter Tryd.func4, Tryd.ntmps4
    go_wp2_with fail
    refine (awake_any _ hT).mono ?_
    rintro e w' ⟨rfl, hb⟩
    go_wp2
    go_ret
    exact ⟨rfl, hb⟩
  · have hl1 : s.size ≤ maxLen := by unfold maxLen; omega
    have hl2 : t.size ≤ maxLen := by unfold maxLen; omega
    have hl3 : (s ++ t).size ≤ maxLen := by unfold maxLen; simp; omega
    go_enter Tryd.func4, Tryd.ntmps4
    go_wp2_with fail
    refine (of_any s _ hl1 hT).mono ?_
    rintro e w' ⟨rfl, rfl⟩
    go_wp2_with fail
    refine (more_any _ t _ hl2 (Crc.more_lt _ (by omega)) hT).mono ?_
    rintro e w' ⟨rfl, rfl⟩
    go_wp2_with fail
    refine (of_any _ _ hl3 hT).mono ?_
    rintro e w' ⟨rfl, rfl⟩
    rw [data_append, ← Crc.more_append]
    go_wp2_with fail
    refine (awake_any _ hT).mono ?_
    rintro e w' ⟨rfl, hb⟩
    go_wp2
    go_ret
    exact ⟨rfl, hb⟩

set_option maxHeartbeats 1000000 in
theorem sumTells_walk (s : ByteArray) (n : Nat) (w : World) (hT : Tab w) (hs : s.size ≤ maxLen) (hn : n < 4294967296) :
    Calls Tryd.prog 3 #[.string s, .int .u32 n] w fun e w' => e = .returned (.bool true) ∧ Below w.heap.size w w' := by
  have hl := hs
  unfold maxLen at hs
  by_cases h1 : 2000 < s.size
  · go_enter Tryd.func3, Tryd.ntmps3
    go_wp2_with fail
    refine (awake_any _ hT).mono ?_
    rintro e w' ⟨rfl, hb⟩
    go_wp2
    go_ret
    exact ⟨rfl, hb⟩
  · go_enter Tryd.func3, Tryd.ntmps3
    go_wp2_with fail
    refine (of_any s _ hl hT).mono ?_
    rintro e w' ⟨rfl, rfl⟩
    go_wp2_with fail
    refine (refOf_any s _ hl).mono ?_
    rintro e w' ⟨rfl, rfl⟩
    go_wp2_with fail
    refine (more_any n s _ hl hn hT).mono ?_
    rintro e w' ⟨rfl, rfl⟩
    go_wp2_with fail
    refine (refMore_any n s _ hl hn).mono ?_
    rintro e w' ⟨rfl, rfl⟩
    go_wp2_with fail
    refine (bytes_any n _ hn).mono ?_
    rintro e w1 ⟨rfl, hb1⟩
    go_wp2_with fail
    refine (refBytes_any n _ hn).mono ?_
    rintro e w2 ⟨rfl, hb2⟩
    have hb : Below w'.heap.size w' w2 := hb1.trans (hb2.mono hb1.size)
    have hT2 := hT.below hb
    go_wp2_with fail
    refine (awake_any _ hT2).mono ?_
    rintro e w3 ⟨rfl, hb3⟩
    go_wp2
    go_ret
    exact ⟨rfl, hb.trans (hb3.mono hb.size)⟩

theorem mk_size (l : List UInt8) : (⟨l.toArray⟩ : ByteArray).size = l.length := by simp [ByteArray.size]
theorem mk_data (l : List UInt8) : (⟨l.toArray⟩ : ByteArray).data.toList = l := by simp
theorem opened_sealed (l : List UInt8) : opened (sealedL l) = (l, true) := by
  unfold opened
  have e : (sealedL l).length - 4 = l.length := by rw [sealedL_length]; omega
  rw [e, if_pos]
  · simp [sealedL]
  · refine ⟨by rw [sealedL_length]; omega, ?_⟩
    simp [sealedL]

set_option maxHeartbeats 1000000 in
theorem sumOpens_walk (s : ByteArray) (w : World) (hT : Tab w) (hs : s.size ≤ maxLen) :
    Calls Tryd.prog 5 #[.string s] w fun e w' => e = .returned (.bool true) ∧ Below w.heap.size w w' := by
  have hl := hs
  unfold maxLen at hs
  by_cases h1 : 2000 < s.size
  · go_enter Tryd.func5, Tryd.ntmps5
    go_wp2_with fail
    refine (awake_any _ hT).mono ?_
    rintro e w' ⟨rfl, hb⟩
    go_wp2
    go_ret
    exact ⟨rfl, hb⟩
  · have hz : (⟨(sealedL s.data.toList).toArray⟩ : ByteArray).size ≤ 4096 := by rw [mk_size, sealedL_length]; simp; omega
    go_enter Tryd.func5, Tryd.ntmps5
    go_wp2_with fail
    refine (sealed_any s _ (by omega) hT).mono ?_
    rintro e w1 ⟨rfl, hb1⟩
    have hT1 := hT.below hb1
    go_wp2_with fail
    refine (open_any _ _ hz hT1).mono ?_
    rintro e w2 ⟨rfl, hb2⟩
    rw [mk_data, opened_sealed]
    have hT2 := hT1.below hb2
    go_wp2_with fail
    refine (open_any _ _ (by omega) hT2).mono ?_
    rintro e w3 ⟨rfl, hb3⟩
    have hT3 := hT2.below hb3
    go_wp2_with fail
    refine (refOpen_any _ _ (by omega)).mono ?_
    rintro e w4 ⟨rfl, hb4⟩
    have hT4 := hT3.below hb4
    generalize opened s.data.toList = o
    go_wp2_with fail
    refine (awake_any _ hT4).mono ?_
    rintro e w5 ⟨rfl, hb5⟩
    go_wp2
    go_ret
    exact ⟨rfl, bchain (bchain (bchain (bchain hb1 hb2) hb3) hb4) hb5⟩

theorem opened_append (A B : List UInt8) (hB : B.length = 4) : opened (A ++ B) = if B = Crc.four (Crc.more 0 A) then (A, true) else ([], false) := by
  unfold opened
  have e : (A ++ B).length - 4 = A.length := by simp [hB]
  rw [e, List.drop_left, List.take_left]
  have h4 : 4 ≤ (A ++ B).length := by simp [hB]
  simp only [h4, true_and]
theorem changed_append (A B : List UInt8) (a : Int) (x : UInt8) : changed (A ++ B) a x = changed A a x ++ changed B (a - A.length) x := by
  unfold changed
  rw [List.mapIdx_append]
  congr 1
  apply List.ext_getElem (by simp)
  intro i h1 h2
  simp only [List.getElem_mapIdx]
  have : ((i + A.length : Nat) : Int) = a ↔ (i : Int) = a - A.length := by omega
  simp only [this]
theorem changed_out (l : List UInt8) (a : Int) (x : UInt8) (h : a < 0 ∨ (l.length : Int) ≤ a) : changed l a x = l := by
  unfold changed
  apply List.ext_getElem (by simp)
  intro i h1 h2
  simp only [List.getElem_mapIdx]
  rw [if_neg (by omega)]
theorem xor_ne (c x : UInt8) (h : x ≠ 0) : c ^^^ x ≠ c := by
  intro e
  apply h
  have := congrArg (c ^^^ ·) e
  simpa [← UInt8.xor_assoc] using this
/-- The text as its parts around the place. -/
theorem changed_at (l : List UInt8) (k : Nat) (x : UInt8) (h : k < l.length) : l = l.take k ++ l[k] :: l.drop (k + 1) ∧ changed l k x = l.take k ++ (l[k] ^^^ x) :: l.drop (k + 1) := by
  have e : l = l.take k ++ l[k] :: l.drop (k + 1) := by rw [← List.drop_eq_getElem_cons h, List.take_append_drop]
  refine ⟨e, ?_⟩
  conv => lhs; rw [e]
  have hk : (l.take k).length = k := by simp; omega
  rw [changed_append, changed_out (l.take k) k x (by right; omega), hk]
  congr 1
  have e2 : ((k : Int) - (k : Int)) = 0 := by omega
  rw [e2, show l[k] :: l.drop (k + 1) = [l[k]] ++ l.drop (k + 1) from rfl, changed_append, changed_out (l.drop (k + 1)) _ x (by left; simp)]
  simp [changed]
theorem changed_sum (l : List UInt8) (k : Nat) (x : UInt8) (hx : x ≠ 0) (h : k < l.length) : Crc.more 0 (changed l k x) ≠ Crc.more 0 l := by
  obtain ⟨e1, e2⟩ := changed_at l k x h
  rw [e2]
  conv => rhs; rw [e1]
  exact Crc.more_changed 0 (by omega) _ _ _ _ (xor_ne _ _ hx)
theorem changed_ne (l : List UInt8) (k : Nat) (x : UInt8) (hx : x ≠ 0) (h : k < l.length) : changed l k x ≠ l := fun e => changed_sum l k x hx h (by rw [e])
/-- A CHANGED BYTE IS FOUND: in the text, and in the sum. -/
theorem opened_changed (l : List UInt8) (a : Int) (x : UInt8) (hx : x ≠ 0) (h0 : 0 ≤ a) (h : a < l.length + 4) : opened (changed (sealedL l) a x) = ([], false) := by
  obtain ⟨k, rfl⟩ := Int.eq_ofNat_of_zero_le h0
  unfold sealedL
  rw [changed_append]
  by_cases hk : k < l.length
  · rw [changed_out (Crc.four _) _ x (by left; omega), opened_append _ _ (four_length _), if_neg]
    intro e
    exact changed_sum l k x hx hk (Crc.four_inj (Crc.more_lt _ (by omega)) (Crc.more_lt _ (by omega)) e).symm
  · rw [changed_out l _ x (by right; omega), opened_append _ _ (by rw [changed_length, four_length]), if_neg]
    rw [show ((k : Int) - (l.length : Int)) = ((k - l.length : Nat) : Int) by omega]
    exact changed_ne _ _ x hx (by rw [four_length]; omega)
theorem opened_same (l : List UInt8) (a : Int) (x : UInt8) (h : a < 0 ∨ (l.length : Int) + 4 ≤ a) : opened (changed (sealedL l) a x) = (l, true) := by
  rw [changed_out _ _ _ (by rw [sealedL_length]; omega), opened_sealed]

set_option maxHeartbeats 1000000 in
theorem sumFinds_walk (s : ByteArray) (a : Int) (x : UInt8) (w : World) (hT : Tab w) (hs : s.size ≤ maxLen) :
    Calls Tryd.prog 6 #[.string s, .int .i64 a, .int .u8 (x.toNat : Int)] w fun e w' => e = .returned (.bool true) ∧ Below w.heap.size w w' := by
  have hl := hs
  unfold maxLen at hs
  have hlen : s.data.toList.length = s.size := by simp
  by_cases h1 : 2000 < s.size
  · go_enter Tryd.func6, Tryd.ntmps6
    go_wp2_with fail
    refine (awake_any _ hT).mono ?_
    rintro e w' ⟨rfl, hb⟩
    go_wp2
    go_ret
    exact ⟨rfl, hb⟩
  by_cases h2 : x = 0
  · subst h2
    go_enter Tryd.func6, Tryd.ntmps6
    go_wp2_with fail
    refine (awake_any _ hT).mono ?_
    rintro e w' ⟨rfl, hb⟩
    go_wp2
    go_ret
    exact ⟨rfl, hb⟩
  have hx0 : ((x.toNat : Int) == 0) = false := by
    refine beq_eq_false_iff_ne.2 fun e => h2 ?_
    have : x.toNat = 0 := by omega
    exact UInt8.toNat_inj.1 this
  have hz : (⟨(sealedL s.data.toList).toArray⟩ : ByteArray).size = s.size + 4 := by rw [mk_size, sealedL_length, hlen]
  have hc : (⟨(changed s.data.toList a x).toArray⟩ : ByteArray).size ≤ maxLen := by rw [mk_size, changed_length, hlen]; exact hl
  have hcz : (⟨(changed (sealedL s.data.toList) a x).toArray⟩ : ByteArray).size ≤ 4096 := by rw [mk_size, changed_length, sealedL_length, hlen]; omega
  by_cases hn : 0 ≤ a
  · by_cases hin : a < s.size
    · have hne : (((Crc.more 0 (changed s.data.toList a x) : Nat) : Int) == ((Crc.more 0 s.data.toList : Nat) : Int)) = false := by
        refine beq_eq_false_iff_ne.2 fun e => ?_
        obtain ⟨k, rfl⟩ := Int.eq_ofNat_of_zero_le hn
        exact changed_sum s.data.toList k x h2 (by omega) (by omega)
      have HO : Hid (opened (changed (sealedL s.data.toList) a x) = ([], false)) := opened_changed s.data.toList a x h2 hn (by omega)
      go_enter Tryd.func6, Tryd.ntmps6
      go_wp2_with fail
      refine (sealed_any s _ (by omega) hT).mono ?_
      rintro e w1 ⟨rfl, hb1⟩
      have hT1 := hT.below hb1
      go_wp2_with fail
      refine (changed_any s a x _ (by omega)).mono ?_
      rintro e w2 ⟨rfl, hb2⟩
      have hT2 := hT1.below hb2
      go_wp2_with fail
      refine (of_any _ _ hc hT2).mono ?_
      rintro e w' ⟨rfl, rfl⟩
      rw [mk_data]
      go_wp2_with fail
      refine (of_any s _ hl hT2).mono ?_
      rintro e w' ⟨rfl, rfl⟩
      go_wp2_with fail
      refine (changed_any _ a x _ (by omega)).mono ?_
      rintro e w3 ⟨rfl, hb3⟩
      have hT3 := hT2.below hb3
      rw [mk_data]
      go_wp2_with fail
      refine (open_any _ _ hcz hT3).mono ?_
      rintro e w4 ⟨rfl, hb4⟩
      have hT4 := hT3.below hb4
      rw [mk_data, HO.out]
      go_wp2_with fail
      refine (awake_any _ hT4).mono ?_
      rintro e w5 ⟨rfl, hb5⟩
      go_wp2
      go_ret
      exact ⟨ret_bool (b := true) (by simp; omega), bchain (bchain (bchain (bchain hb1 hb2) hb3) hb4) hb5⟩
    · by_cases hin4 : a < s.size + 4
      · have HO : Hid (opened (changed (sealedL s.data.toList) a x) = ([], false)) := opened_changed s.data.toList a x h2 hn (by omega)
        go_enter Tryd.func6, Tryd.ntmps6
        go_wp2_with fail
        refine (sealed_any s _ (by omega) hT).mono ?_
        rintro e w1 ⟨rfl, hb1⟩
        have hT1 := hT.below hb1
        go_wp2_with fail
        refine (changed_any _ a x _ (by omega)).mono ?_
        rintro e w3 ⟨rfl, hb3⟩
        have hT3 := hT1.below hb3
        rw [mk_data]
        go_wp2_with fail
        refine (open_any _ _ hcz hT3).mono ?_
        rintro e w4 ⟨rfl, hb4⟩
        have hT4 := hT3.below hb4
        rw [mk_data, HO.out]
        go_wp2_with fail
        refine (awake_any _ hT4).mono ?_
        rintro e w5 ⟨rfl, hb5⟩
        go_wp2
        go_ret
        exact ⟨ret_bool (b := true) (by simp; omega), bchain (bchain (bchain hb1 hb3) hb4) hb5⟩
      · have HO : Hid (opened (changed (sealedL s.data.toList) a x) = (s.data.toList, true)) := opened_same s.data.toList a x (by omega)
        go_enter Tryd.func6, Tryd.ntmps6
        go_wp2_with fail
        refine (sealed_any s _ (by omega) hT).mono ?_
        rintro e w1 ⟨rfl, hb1⟩
        have hT1 := hT.below hb1
        go_wp2_with fail
        refine (changed_any _ a x _ (by omega)).mono ?_
        rintro e w3 ⟨rfl, hb3⟩
        have hT3 := hT1.below hb3
        rw [mk_data]
        go_wp2_with fail
        refine (open_any _ _ hcz hT3).mono ?_
        rintro e w4 ⟨rfl, hb4⟩
        have hT4 := hT3.below hb4
        rw [mk_data, HO.out]
        go_wp2_with fail
        refine (awake_any _ hT4).mono ?_
        rintro e w5 ⟨rfl, hb5⟩
        go_wp2
        go_ret
        exact ⟨rfl, bchain (bchain (bchain hb1 hb3) hb4) hb5⟩
  · have HO : Hid (opened (changed (sealedL s.data.toList) a x) = (s.data.toList, true)) := opened_same s.data.toList a x (by omega)
    go_enter Tryd.func6, Tryd.ntmps6
    go_wp2_with fail
    refine (sealed_any s _ (by omega) hT).mono ?_
    rintro e w1 ⟨rfl, hb1⟩
    have hT1 := hT.below hb1
    go_wp2_with fail
    refine (changed_any _ a x _ (by omega)).mono ?_
    rintro e w3 ⟨rfl, hb3⟩
    have hT3 := hT1.below hb3
    rw [mk_data]
    go_wp2_with fail
    refine (open_any _ _ hcz hT3).mono ?_
    rintro e w4 ⟨rfl, hb4⟩
    have hT4 := hT3.below hb4
    rw [mk_data, HO.out]
    go_wp2_with fail
    refine (awake_any _ hT4).mono ?_
    rintro e w5 ⟨rfl, hb5⟩
    go_wp2
    go_ret
    exact ⟨rfl, bchain (bchain (bchain hb1 hb3) hb4) hb5⟩
end Go.Proofs.YtpcdfonbejhhgaaDoor
