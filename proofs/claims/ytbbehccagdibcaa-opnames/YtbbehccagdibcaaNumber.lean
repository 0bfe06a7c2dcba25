/- The walks of 'lastByte' and 'number'. -/
import Derived.Test.YtbbehccagdibcaaChecked
import Derived.Test.YtbbehccagdibcaaPlain
import Derived.WalkKit
import Derived.Deep.QuietTactic
import Derived.BigQuiet
import Derived.WalkSmall
namespace Go.Proofs.Ytbbehccagdibcaa
open Go.RowKit

theorem ret_int {k : IntKind} {a b : Int} (h : a = b) : Ending.returned (.int k a) = .returned (.int k b) := by rw [h]
theorem size_len (s : ByteArray) : s.data.toList.length = s.size := by simp
theorem get_data (s : ByteArray) (k : Nat) (h : k < s.size) : s.data.toList[k]'(by simpa using h) = s[k] := rfl

set_option maxRecDepth 20000 in
set_option maxHeartbeats 400000 in
theorem lastByte_any (s : ByteArray) (w : World) (hs : s.size ≤ maxLen) :
    Calls Try.prog 106 #[.string s] w fun e w' => e = .returned (.int .i64 (Pk.last s.data.toList : Nat)) ∧ w' = w := by
  unfold maxLen at hs
  go_enter Try.func106, Try.ntmps106
  go_wp2
  go_loop [6] (fun i => ∃ k : Nat, k ≤ s.size ∧ i = .int .i64 k ∧ ∀ j (hj : j < k) (hz : j < s.size), 128 ≤ s[j].toNat) (fun i => s.size - (intOf i).toNat)
  case atStart => exact ⟨0, Nat.zero_le _, rfl, fun j hj => by omega⟩
  case round =>
    obtain ⟨k, hk, rfl, hall⟩ := hrel
    have HA : Hid (∀ j (hj : j < k) (hz : j < s.size), 128 ≤ s[j].toNat) := hall
    clear hall
    by_cases hlt : k < s.size
    · by_cases hb : s[k].toNat < 128
      · have HL : Hid (Pk.last s.data.toList = k) := by
          have h : Pk.last s.data.toList = k := Pk.last_at _ k (by rw [size_len]; exact hlt) (fun j hj => by rw [get_data s j (by omega)]; exact HA.out j hj (by omega)) (by rw [get_data s k hlt]; exact hb)
          exact h
        go_wp2
        go_ret
        exact ⟨ret_int (by rw [HL.out]), rfl⟩
      · go_wp2
        go_round
        case rel => exact ⟨k + 1, by omega, by go_num, fun j hj hz => by
          by_cases e : j = k
          · subst e; omega
          · exact HA.out j (by omega) hz⟩
        case measure => first | (simp [intOf]; done) | (simp [intOf]; omega)
    · have HL : Hid (Pk.last s.data.toList = s.size) := by
        have h : Pk.last s.data.toList = s.data.toList.length := Pk.last_none _ (fun j hj => by rw [get_data s j (by simpa using hj)]; exact HA.out j (by rw [size_len] at hj; omega) (by simpa using hj))
        rw [size_len] at h
        exact h
      go_wp2
      go_ret
      exact ⟨ret_int (by rw [HL.out]), rfl⟩

theorem ret3 {a a' c c' : Int} {b b' : ByteArray} (h1 : a = a') (h2 : b = b') (h3 : c = c') : Ending.returned (.tuple #[.int .i64 a, .string b, .int .i64 c]) = .returned (.tuple #[.int .i64 a', .string b', .int .i64 c']) := by rw [h1, h2, h3]
/-- What 'number' tells, as the program's values. -/
def numV (l : List UInt8) : Value := .tuple #[.int .i64 ((Pk.num l).1 : Nat), .string ⟨(Pk.num l).2.1.toArray⟩, .int .i64 ((Pk.num l).2.2 : Nat)]

theorem val_step (l : List UInt8) (m j : Nat) (h : j < m) (hl : j < l.length) : Pk.val ((l.take m).drop j) = l[j].toNat % 128 + 128 * Pk.val ((l.take m).drop (j + 1)) := by
  have h1 : j < (l.take m).length := by simp; omega
  rw [List.drop_eq_getElem_cons h1, Pk.val_cons, List.getElem_take]
theorem val_drop_lt (l : List UInt8) (m j : Nat) (h : m ≤ 8) (hj : 1 ≤ j) : Pk.val ((l.take m).drop j) < 562949953421312 := by
  have h1 := Pk.val_lt ((l.take m).drop j)
  have h2 : ((l.take m).drop j).length ≤ 7 := by simp; omega
  have h3 : 128 ^ ((l.take m).drop j).length ≤ 128 ^ 7 := Nat.pow_le_pow_right (by omega) h2
  have h4 : 128 ^ 7 = 562949953421312 := by decide
  omega
theorem extract_high (s : ByteArray) (k : Nat) : s.extract k s.size = ⟨(s.data.toList.drop k).toArray⟩ := by
  apply ByteArray.ext
  apply Array.toList_inj.1
  simp only [ByteArray.data_extract, Array.toList_extract, List.extract_eq_take_drop]
  exact List.take_of_length_le (by simp)

set_option maxRecDepth 20000 in
set_option maxHeartbeats 1000000 in
theorem number_any (s : ByteArray) (w : World) (hs : s.size ≤ maxLen) :
    Calls Try.prog 91 #[.string s] w fun e w' => e = .returned (numV s.data.toList) ∧ Below w.heap.size w w' := by
  have hl := hs
  unfold maxLen at hs
  have hle := Pk.last_le s.data.toList
  rw [size_len] at hle
  by_cases h1 : Pk.last s.data.toList = s.size
  · have HN : Hid (Pk.num s.data.toList = (0, [], 4)) := by
      have h : Pk.num s.data.toList = (0, [], 4) := by unfold Pk.num; rw [if_pos (by rw [size_len]; exact h1)]
      exact h
    go_enter Try.func91, Try.ntmps91
    go_wp2_with fail
    refine (lastByte_any s _ hl).mono ?_
    rintro e w' ⟨rfl, rfl⟩
    generalize Pk.last s.data.toList = la at *
    subst h1
    go_wp2
    go_ret3
    exact ⟨by unfold numV; rw [HN.out]; rfl, Below.refl _ _⟩
  by_cases h2 : 8 ≤ Pk.last s.data.toList
  · have HN : Hid (Pk.num s.data.toList = (0, [], 6)) := by
      have h : Pk.num s.data.toList = (0, [], 6) := by unfold Pk.num; rw [if_neg (by rw [size_len]; exact h1), if_pos h2]
      exact h
    go_enter Try.func91, Try.ntmps91
    go_wp2_with fail
    refine (lastByte_any s _ hl).mono ?_
    rintro e w' ⟨rfl, rfl⟩
    generalize Pk.last s.data.toList = la at *
    go_wp2
    go_ret3
    exact ⟨by unfold numV; rw [HN.out]; rfl, Below.refl _ _⟩
  have hlt : Pk.last s.data.toList < s.size := by omega
  have hget : (s.data.toList.getD (Pk.last s.data.toList) 0) = s[Pk.last s.data.toList] := by
    rw [List.getD_eq_getElem?_getD, List.getElem?_eq_getElem (by rw [size_len]; exact hlt), Option.getD_some, get_data s _ hlt]
  by_cases h3 : 0 < Pk.last s.data.toList ∧ s[Pk.last s.data.toList].toNat = 0
  · have HN : Hid (Pk.num s.data.toList = (0, [], 3)) := by
      have h : Pk.num s.data.toList = (0, [], 3) := by unfold Pk.num; rw [if_neg (by rw [size_len]; exact h1), if_neg h2, if_pos (by rw [hget]; exact h3)]
      exact h
    clear hget
    go_enter Try.func91, Try.ntmps91
    go_wp2_with fail
    refine (lastByte_any s _ hl).mono ?_
    rintro e w' ⟨rfl, rfl⟩
    generalize Pk.last s.data.toList = la at *
    obtain ⟨h4, h5⟩ := h3
    go_wp2
    go_ret3
    exact ⟨by unfold numV; rw [HN.out]; rfl, Below.refl _ _⟩
  have HN : Hid (Pk.num s.data.toList = (Pk.val (s.data.toList.take (Pk.last s.data.toList + 1)), s.data.toList.drop (Pk.last s.data.toList + 1), 0)) := by
    have h : Pk.num s.data.toList = (Pk.val (s.data.toList.take (Pk.last s.data.toList + 1)), s.data.toList.drop (Pk.last s.data.toList + 1), 0) := by unfold Pk.num; rw [if_neg (by rw [size_len]; exact h1), if_neg h2, if_neg (by rw [hget]; exact h3)]
    exact h
  clear hget
  go_enter Try.func91, Try.ntmps91
  go_wp2_with fail
  refine (lastByte_any s _ hl).mono ?_
  rintro e w' ⟨rfl, rfl⟩
  generalize Pk.last s.data.toList = la at *
  have h1b : ((la : Int) == (s.size : Int)) = false := beq_eq_false_iff_ne.2 (by omega)
  by_cases h0 : 0 < la
  · have h6 : ((s[la].toNat : Int) == 0) = false := by
      have : ¬ s[la].toNat = 0 := fun e => h3 ⟨h0, e⟩
      simp; omega
    clear h3
    go_wp2
    go_loop [6, 7] (fun n i => ∃ k : Nat, k ≤ la + 1 ∧ i = .int .i64 ((k : Int) - 1) ∧ n = .int .i64 (Pk.val ((s.data.toList.take (la + 1)).drop k) : Nat)) (fun _ i => (intOf i + 1).toNat)
    case atStart => exact ⟨la + 1, by omega, by simp, by simp [Pk.val]⟩
    case round =>
      obtain ⟨k, hk, rfl, rfl⟩ := hrel
      obtain _ | j := k
      · rw [List.drop_zero] at *
        have hv := Pk.val_lt8' s.data.toList (la + 1) (by omega)
        go_wp2
        go_quiet (fail)
        go_wp2
        go_ret3
        exact ⟨by unfold numV; rw [HN.out]; exact ret3 rfl (extract_high s _) rfl, below_drewN (Below.refl _ _) _⟩
      · have hv := val_drop_lt s.data.toList (la + 1) (j + 1) (by omega) (by omega)
        have HV : Hid (Pk.val ((s.data.toList.take (la + 1)).drop j) = s[j].toNat % 128 + 128 * Pk.val ((s.data.toList.take (la + 1)).drop (j + 1))) := by
          have h := val_step s.data.toList (la + 1) j (by omega) (by rw [size_len]; omega)
          rw [get_data s j (by omega)] at h
          exact h
        generalize Pk.val ((s.data.toList.take (la + 1)).drop (j + 1)) = v at *
        go_wp2
        go_round
        case rel => exact ⟨j, by omega, by go_num, by rw [HV.out]; go_num⟩
        case measure => first | (simp [intOf]; done) | (simp [intOf]; omega)
  · have h0b : decide (0 < (la : Int)) = false := decide_eq_false (by omega)
    clear h3
    go_wp2
    go_loop [6, 7] (fun n i => ∃ k : Nat, k ≤ la + 1 ∧ i = .int .i64 ((k : Int) - 1) ∧ n = .int .i64 (Pk.val ((s.data.toList.take (la + 1)).drop k) : Nat)) (fun _ i => (intOf i + 1).toNat)
    case atStart => exact ⟨la + 1, by omega, by simp, by simp [Pk.val]⟩
    case round =>
      obtain ⟨k, hk, rfl, rfl⟩ := hrel
      obtain _ | j := k
      · rw [List.drop_zero] at *
        have hv := Pk.val_lt8' s.data.toList (la + 1) (by omega)
        go_wp2
        go_quiet (fail)
        go_wp2
        go_ret3
        exact ⟨by unfold numV; rw [HN.out]; exact ret3 rfl (extract_high s _) rfl, below_drewN (Below.refl _ _) _⟩
      · have hv := val_drop_lt s.data.toList (la + 1) (j + 1) (by omega) (by omega)
        have HV : Hid (Pk.val ((s.data.toList.take (la + 1)).drop j) = s[j].toNat % 128 + 128 * Pk.val ((s.data.toList.take (la + 1)).drop (j + 1))) := by
          have h := val_step s.data.toList (la + 1) j (by omega) (by rw [size_len]; omega)
          rw [get_data s j (by omega)] at h
          exact h
        generalize Pk.val ((s.data.toList.take (la + 1)).drop (j + 1)) = v at *
        go_wp2
        go_round
        case rel => exact ⟨j, by omega, by go_num, by rw [HV.out]; go_num⟩
        case measure => first | (simp [intOf]; done) | (simp [intOf]; omega)
end Go.Proofs.Ytbbehccagdibcaa
