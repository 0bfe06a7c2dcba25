/- The walks of the two 'More's and the two 'Of's: each returns the plain function's number, and the world stands. -/
import Derived.Test.YtpcdfonbejhhgaaDoorChecked
import Derived.Test.YtpcdfonbejhhgaaDoorPlain
import Derived.WalkKit
namespace Go.Proofs.YtpcdfonbejhhgaaDoor
open Go.RowKit

/-- The table's sixteen cells read as the program lays them. -/
def Tab (w : World) : Prop := ∀ i : Nat, i < 16 → w.cell? ⟨0, i, none⟩ = some (.int .u32 (Crc.tabAt i : Nat))
theorem ret_int {k : IntKind} {a b : Int} (h : a = b) : Ending.returned (.int k a) = .returned (.int k b) := by rw [h]
theorem take_snoc (s : ByteArray) (k : Nat) (h : k < s.size) : s.data.toList.take (k + 1) = s.data.toList.take k ++ [s[k]] := by
  rw [List.take_succ_eq_append_getElem (by simpa using h)]; rfl

theorem not_u32 (n : Nat) (h : n < 4294967296) : bits .xor .u32 IntKind.u32.max (n : Int) = ((n ^^^ 4294967295 : Nat) : Int) := by
  have := u32_xor_nat 4294967295 n (by omega) h
  rw [Nat.xor_comm n]; exact this
theorem and15 (n : Nat) (h : n < 4294967296) : bits .and .u32 (n : Int) 15 = ((n % 16 : Nat) : Int) := by
  have := u32_and_nat n 15 h (by omega)
  rw [show n &&& 15 = n % 16 from Nat.and_two_pow_sub_one_eq_mod n 4] at this; exact this

/-- What half a byte's step asks of the walk, in the walk's own words. -/
theorem half_walk {w : World} (hT : Tab w) (y : Nat) (hy : y < 4294967296) : ∃ i t z : Nat, i < 16 ∧ bits .and .u32 (y : Int) 15 = (i : Int) ∧ w.cell? ⟨0, i, none⟩ = some (.int .u32 (t : Int)) ∧
    z < 4294967296 ∧ bits .xor .u32 ((y : Int) / 16) (t : Int) = (z : Int) ∧ Hid (z = Crc.half y) :=
  ⟨y % 16, Crc.tabAt (y % 16), Crc.half y, by omega, and15 y hy, hT _ (by omega), Crc.half_lt hy, by
    have := u32_xor_nat (y / 16) (Crc.tabAt (y % 16)) (by omega) (Crc.tabAt_lt _)
    simpa [Crc.half] using this, rfl⟩

set_option maxHeartbeats 400000 in
theorem more_any (n : Nat) (s : ByteArray) (w : World) (hs : s.size ≤ maxLen) (hn : n < 4294967296) (hT : Tab w) :
    Calls Tryd.prog 10 #[.int .u32 n, .string s] w fun e w' => e = .returned (.int .u32 (Crc.more n s.data.toList : Nat)) ∧ w' = w := by
  unfold maxLen at hs
  have hnot := not_u32 n hn
  go_enter Tryd.func10, Tryd.ntmps10
  go_wp2
  go_loop [5, 11] (fun c i => ∃ k : Nat, k ≤ s.size ∧ i = .int .i64 k ∧ c = .int .u32 (Crc.run (n ^^^ 4294967295) (s.data.toList.take k) : Nat)) (fun _ i => s.size - (intOf i).toNat)
  case atStart => exact ⟨0, Nat.zero_le _, rfl, rfl⟩
  case round =>
    obtain ⟨k, hk, rfl, rfl⟩ := hrel
    clear hnot
    have hx : Crc.run (n ^^^ 4294967295) (s.data.toList.take k) < 4294967296 := Crc.run_lt _ (Crc.xor_lt hn (by omega))
    by_cases hlt : k < s.size
    · have HS : Hid (Crc.run (n ^^^ 4294967295) (s.data.toList.take (k + 1)) = Crc.half (Crc.half (Crc.run (n ^^^ 4294967295) (s.data.toList.take k) ^^^ s[k].toNat))) := by
        have h : Crc.run (n ^^^ 4294967295) (s.data.toList.take (k + 1)) = Crc.half (Crc.half (Crc.run (n ^^^ 4294967295) (s.data.toList.take k) ^^^ s[k].toNat)) := by
          rw [take_snoc s k hlt, Crc.run_snoc, Crc.step_eq]
        exact h
      generalize Crc.run (n ^^^ 4294967295) (s.data.toList.take k) = x at *
      have hb : s[k].toNat < 256 := Crc.byte_lt _
      have e1 := u32_xor_nat x s[k].toNat hx (by omega)
      have hy : x ^^^ s[k].toNat < 4294967296 := Crc.xor_lt hx (by omega)
      generalize x ^^^ s[k].toNat = y at *
      obtain ⟨i, t, z, hi, e2, c2, hz, e3, hz2⟩ := half_walk hT y hy
      obtain ⟨i', t', z', hi', e2', c2', hz', e3', hz2'⟩ := half_walk hT z hz
      rw [← hz2.out, ← hz2'.out] at HS
      clear hz2 hz2'
      go_wp2
      go_round
      case rel => exact ⟨k + 1, by omega, by go_num, by rw [HS.out]⟩
      case measure => simp [intOf]; omega
    · go_wp2
      go_ret
      refine ⟨ret_int ?_, rfl⟩
      have := not_u32 _ hx
      rw [this, List.take_of_length_le (by simp; omega)]; rfl
theorem of_any (s : ByteArray) (w : World) (hs : s.size ≤ maxLen) (hT : Tab w) :
    Calls Tryd.prog 8 #[.string s] w fun e w' => e = .returned (.int .u32 (Crc.more 0 s.data.toList : Nat)) ∧ w' = w := by
  go_enter Tryd.func8, Tryd.ntmps8
  go_wp2_with fail
  refine (more_any 0 s _ hs (by omega) hT).mono ?_
  rintro e w' ⟨rfl, rfl⟩
  go_wp2
  go_ret
  exact ⟨rfl, rfl⟩

theorem bit1_odd (z : Nat) (hz : z < 4294967296) (ho : z % 2 = 1) : bits .xor .u32 ((z : Int) / 2) 3988292384 = ((Crc.bit1 z : Nat) : Int) := by
  have := u32_xor_nat (z / 2) 3988292384 (by omega) (by omega)
  unfold Crc.bit1; rw [if_pos ho]; simpa using this
theorem bit1_even (z : Nat) (ho : ¬ z % 2 = 1) : (z : Int) / 2 = ((Crc.bit1 z : Nat) : Int) := by
  unfold Crc.bit1; rw [if_neg ho]; simp

set_option maxHeartbeats 400000 in
theorem refMore_any (n : Nat) (s : ByteArray) (w : World) (hs : s.size ≤ maxLen) (hn : n < 4294967296) :
    Calls Tryd.prog 11 #[.int .u32 n, .string s] w fun e w' => e = .returned (.int .u32 (Crc.more n s.data.toList : Nat)) ∧ w' = w := by
  unfold maxLen at hs
  have hnot : bits .xor .u32 (n : Int) 4294967295 = ((n ^^^ 4294967295 : Nat) : Int) := u32_xor_nat n 4294967295 hn (by omega)
  go_enter Tryd.func11, Tryd.ntmps11
  go_wp2
  go_loop [5, 6] (fun c i => ∃ k : Nat, k ≤ s.size ∧ i = .int .i64 k ∧ c = .int .u32 (Crc.run (n ^^^ 4294967295) (s.data.toList.take k) : Nat)) (fun _ i => s.size - (intOf i).toNat)
  case atStart => exact ⟨0, Nat.zero_le _, rfl, rfl⟩
  case round =>
    obtain ⟨k, hk, rfl, rfl⟩ := hrel
    clear hnot
    have hx : Crc.run (n ^^^ 4294967295) (s.data.toList.take k) < 4294967296 := Crc.run_lt _ (Crc.xor_lt hn (by omega))
    by_cases hlt : k < s.size
    · have HS : Hid (Crc.run (n ^^^ 4294967295) (s.data.toList.take (k + 1)) = Crc.bitN 8 (Crc.run (n ^^^ 4294967295) (s.data.toList.take k) ^^^ s[k].toNat)) := by
        have h : Crc.run (n ^^^ 4294967295) (s.data.toList.take (k + 1)) = Crc.bitN 8 (Crc.run (n ^^^ 4294967295) (s.data.toList.take k) ^^^ s[k].toNat) := by
          rw [take_snoc s k hlt, Crc.run_snoc]; rfl
        exact h
      generalize Crc.run (n ^^^ 4294967295) (s.data.toList.take k) = x at *
      have hb : s[k].toNat < 256 := Crc.byte_lt _
      have e1 := u32_xor_nat x s[k].toNat hx (by omega)
      have hy : x ^^^ s[k].toNat < 4294967296 := Crc.xor_lt hx (by omega)
      generalize x ^^^ s[k].toNat = y at *
      go_wp2
      go_loop [5, 7] (fun c i => ∃ j : Nat, j ≤ 8 ∧ i = .int .i64 j ∧ c = .int .u32 (Crc.bitN j y : Nat)) (fun _ i => 8 - (intOf i).toNat)
      case atStart => exact ⟨0, by omega, rfl, rfl⟩
      case round =>
        obtain ⟨j, hj, rfl, rfl⟩ := hrel
        have hz := Crc.bitN_lt j hy
        by_cases hj8 : j < 8
        · have HJ : Hid (Crc.bitN (j + 1) y = Crc.bit1 (Crc.bitN j y)) := rfl
          generalize Crc.bitN j y = z at *
          by_cases ho : z % 2 = 1
          · have ho1 : (z : Int) % 2 = 1 := by omega
            go_wp2
            go_round
            case rel => exact ⟨j + 1, by omega, by go_num, by rw [HJ.out, bit1_odd z hz ho]⟩
            case measure => simp [intOf]; omega
          · have ho1 : ¬ (z : Int) % 2 = 1 := by omega
            go_wp2
            go_round
            case rel => exact ⟨j + 1, by omega, by go_num, by rw [HJ.out, bit1_even z ho]⟩
            case measure => simp [intOf]; omega
        · have h8 : j = 8 := by omega
          subst h8
          go_wp2
          go_round
          case rel => exact ⟨k + 1, by omega, by go_num, by rw [HS.out]⟩
          case measure => simp [intOf]; omega
    · go_wp2
      go_ret
      refine ⟨ret_int ?_, rfl⟩
      have : bits .xor .u32 _ 4294967295 = _ := u32_xor_nat _ 4294967295 hx (by omega)
      rw [this, List.take_of_length_le (by simp; omega)]; rfl

theorem refOf_any (s : ByteArray) (w : World) (hs : s.size ≤ maxLen) :
    Calls Tryd.prog 9 #[.string s] w fun e w' => e = .returned (.int .u32 (Crc.more 0 s.data.toList : Nat)) ∧ w' = w := by
  go_enter Tryd.func9, Tryd.ntmps9
  go_wp2_with fail
  refine (refMore_any 0 s _ hs (by omega)).mono ?_
  rintro e w' ⟨rfl, rfl⟩
  go_wp2
  go_ret
  exact ⟨rfl, rfl⟩
end Go.Proofs.YtpcdfonbejhhgaaDoor
