/- The walks of the statements of layer 2 that came out true: each returns true, and turns nothing that was there. -/
import Derived.Test.YthfolbjkhhilgaaInts
import Derived.Test.YthfolbjkhhilgaaReader
import Derived.WalkKit
import Derived.OpenShut
namespace Go.Proofs.Ythfolbjkhhilgaa
open Go.RowKit

theorem bchain {a b c : World} (h : Below a.heap.size a b) (k : Below b.heap.size b c) : Below a.heap.size a c := h.trans (k.mono h.size)
theorem ret_bool {a b : Bool} (h : a = b) : Ending.returned (.bool a) = .returned (.bool b) := by rw [h]

/- Plain: what a reader tells of what was packed, and the other way round. -/
theorem rdInt_enc {n : Nat} (h : n < 72057594037927936) (t : List UInt8) : rdInt (Pk.enc n ++ t) 0 = (n, t, 0) := by
  unfold rdInt; rw [if_pos rfl, Pk.num_enc h]; rfl
theorem rdText_text (s t : List UInt8) (h : s.length < 72057594037927936) : rdText (textL s ++ t) 0 = (s, t, 0) := by
  have e : Pk.num (textL s ++ t) = (s.length, s ++ t, 0) := by unfold textL; rw [List.append_assoc, Pk.num_enc h]
  have hb : manyBad (textL s ++ t) 72057594037927936 = 0 := by
    unfold manyBad; rw [e]; simp only
    rw [if_neg (by omega), if_neg (by omega), if_neg (by rw [List.length_append]; omega)]
  have hr : rdMany (textL s ++ t) 0 72057594037927936 = (s.length, s ++ t, 0) := by unfold rdMany; rw [if_pos rfl, hb, e]; rfl
  unfold rdText; rw [hr]; simp
theorem rdText_once (m : List UInt8) (x : Nat) (h : (rdText m x).2.2 = 0) : x = 0 ∧ m = textL (rdText m x).1 ++ (rdText m x).2.1 := by
  by_cases hx : x = 0
  · subst hx
    refine ⟨rfl, ?_⟩
    by_cases hb : manyBad m 72057594037927936 = 0
    · have hr : rdMany m 0 72057594037927936 = ((Pk.num m).1, (Pk.num m).2.1, 0) := by unfold rdMany; rw [if_pos rfl, hb]; rfl
      have hx : (Pk.num m).2.2 = 0 := by
        unfold manyBad at hb; split at hb
        · rename_i h1; exact absurd hb h1
        · rename_i h1; exact Decidable.not_not.1 h1
      have hle := rdMany_le m 0 72057594037927936
      have ho := (Pk.num_once m hx).1
      unfold rdText; rw [hr] at hle ⊢
      simp only at hle ⊢
      unfold textL
      rw [List.length_take, Nat.min_eq_left hle, List.append_assoc, List.take_append_drop]
      exact ho
    · have hr : rdMany m 0 72057594037927936 = (0, m, manyBad m 72057594037927936) := by unfold rdMany took; rw [if_pos rfl, if_neg hb]
      unfold rdText at h; rw [hr] at h; exact absurd h hb
  · have hr : rdMany m x 72057594037927936 = (0, m, x) := by unfold rdMany; rw [if_neg hx]
    unfold rdText at h; rw [hr] at h; exact absurd h hx
/-- WHAT IS READ IS TOLD AS JUST THESE BYTES: a number, and a text behind it. -/
theorem once (l : List UInt8) (h : (rdText (rdInt l 0).2.1 (rdInt l 0).2.2).2.2 = 0) :
    l = Pk.enc (rdInt l 0).1 ++ textL (rdText (rdInt l 0).2.1 (rdInt l 0).2.2).1 ++ (rdText (rdInt l 0).2.1 (rdInt l 0).2.2).2.1 ∧ (rdInt l 0).1 < 72057594037927936 := by
  obtain ⟨h1, h2⟩ := rdText_once _ _ h
  have hn : (Pk.num l).2.2 = 0 := by
    unfold rdInt took at h1; rw [if_pos rfl] at h1
    by_cases hz : (Pk.num l).2.2 = 0
    · exact hz
    · rw [if_neg hz] at h1; exact h1
  have hr : rdInt l 0 = ((Pk.num l).1, (Pk.num l).2.1, 0) := by unfold rdInt took; rw [if_pos rfl, if_pos hn]
  rw [List.append_assoc, ← h2, hr]
  exact Pk.num_once l hn
theorem enc_300 : Pk.enc 300 = [172, 2] := by
  rw [Pk.enc_big (by omega), Pk.enc_small (by omega)]; rfl
theorem rdInt_300 : rdInt [172, 2] 0 = (300, [], 0) := by
  have := rdInt_enc (n := 300) (by omega) []
  rwa [enc_300, List.append_nil] at this

theorem awake_any (w : World) : Calls Try.prog 7 #[] w fun e w' => e = .returned (.bool true) ∧ Below w.heap.size w w' := by
  have h3 := enc_300
  go_enter Try.func7, Try.ntmps7
  go_wp2_with fail
  refine (int_nat 300 _ (by omega)).mono ?_
  rintro e w1 ⟨rfl, hb1⟩
  rw [h3]
  go_wp2_with fail
  refine (open_rd _ _).mono ?_
  rintro e w2 ⟨b, rfl, hge, hr, hb2⟩
  go_wp2_with fail
  refine (int_rd hr (by decide)).mono ?_
  rintro e w3 ⟨rfl, _, hb3⟩
  rw [show rdInt _ 0 = (300, [], 0) from rdInt_300]
  go_wp2
  go_ret
  exact ⟨rfl, bchain hb1 (hb2.trans (hb3.mono hge))⟩

set_option maxHeartbeats 1000000 in
theorem packTells_walk (n : Int) (s : ByteArray) (w : World) (hn : (Lit.int .i64 n).wf = true) (hs : s.size ≤ maxLen) :
    Calls Try.prog 3 #[.int .i64 n, .string s] w fun e w' => e = .returned (.bool true) ∧ Below w.heap.size w w' := by
  have hlo : -9223372036854775808 ≤ n := (bounds_i64 hn).1
  have hhi : n < 9223372036854775808 := by have := (bounds_i64 hn).2; omega
  unfold maxLen at hs
  by_cases h1 : 2000 < s.size
  · go_enter Try.func3, Try.ntmps3
    go_wp2_with fail
    refine (awake_any _).mono ?_
    rintro e w' ⟨rfl, hb⟩
    go_wp2
    go_ret
    exact ⟨rfl, hb⟩
  · go_enter Try.func3, Try.ntmps3
    go_wp2_with fail
    refine (int_any n _ hlo hhi).mono ?_
    rintro e w1 ⟨rfl, hb1⟩
    go_wp2_with fail
    refine (refInt_any n _ hlo hhi).mono ?_
    rintro e w2 ⟨rfl, hb2⟩
    go_wp2_with fail
    refine (text_any s _ (by omega)).mono ?_
    rintro e w3 ⟨rfl, hb3⟩
    go_wp2_with fail
    refine (refText_any s _ (by omega)).mono ?_
    rintro e w4 ⟨rfl, hb4⟩
    go_wp2_with fail
    refine (awake_any _).mono ?_
    rintro e w5 ⟨rfl, hb5⟩
    go_wp2
    go_ret
    exact ⟨rfl, bchain (bchain (bchain (bchain hb1 hb2) hb3) hb4) hb5⟩

/-- All that was packed. -/
theorem data_three (a c : List UInt8) (t : ByteArray) : ((⟨a.toArray⟩ : ByteArray) ++ (⟨c.toArray⟩ : ByteArray) ++ t).data.toList = a ++ (c ++ t.data.toList) := by
  simp [List.append_assoc]
theorem size_three (a c : List UInt8) (t : ByteArray) : ((⟨a.toArray⟩ : ByteArray) ++ (⟨c.toArray⟩ : ByteArray) ++ t).size = a.length + c.length + t.size := by
  rw [← size_len, data_three]; simp; omega
theorem textL_length (l : List UInt8) : (textL l).length = (Pk.enc l.length).length + l.length := by simp [textL]

set_option maxRecDepth 20000 in
set_option maxHeartbeats 2000000 in
theorem packBack_walk (n : Int) (s t : ByteArray) (w : World) (hn : (Lit.int .i64 n).wf = true) (hs : s.size ≤ maxLen) (ht : t.size ≤ maxLen) :
    Calls Try.prog 5 #[.int .i64 n, .string s, .string t] w fun e w' => e = .returned (.bool true) ∧ Below w.heap.size w w' := by
  have hlo : -9223372036854775808 ≤ n := (bounds_i64 hn).1
  have hhi : n < 9223372036854775808 := by have := (bounds_i64 hn).2; omega
  unfold maxLen at hs ht
  by_cases h1 : 2000 < s.size
  · go_enter Try.func5, Try.ntmps5
    go_wp2_with fail
    refine (awake_any _).mono ?_
    rintro e w' ⟨rfl, hb⟩
    go_wp2
    go_ret
    exact ⟨rfl, hb⟩
  by_cases h2 : 2000 < t.size
  · go_enter Try.func5, Try.ntmps5
    go_wp2_with fail
    refine (awake_any _).mono ?_
    rintro e w' ⟨rfl, hb⟩
    go_wp2
    go_ret
    exact ⟨rfl, hb⟩
  by_cases h3 : n < 0
  · go_enter Try.func5, Try.ntmps5
    go_wp2_with fail
    refine (awake_any _).mono ?_
    rintro e w' ⟨rfl, hb⟩
    go_wp2
    go_ret
    exact ⟨rfl, hb⟩
  by_cases h4 : 72057594037927936 ≤ n
  · go_enter Try.func5, Try.ntmps5
    go_wp2_with fail
    refine (awake_any _).mono ?_
    rintro e w' ⟨rfl, hb⟩
    go_wp2
    go_ret
    exact ⟨rfl, hb⟩
  obtain ⟨k, rfl⟩ := Int.eq_ofNat_of_zero_le (by omega : 0 ≤ n)
  have hk : k < 72057594037927936 := by omega
  have e8 := Pk.enc_len8 hk
  have e9 := Pk.enc_len9 (show s.data.toList.length < 9223372036854775808 by rw [size_len]; omega)
  have et := textL_length s.data.toList
  rw [size_len] at et e9
  have hz : ((⟨(Pk.enc k).toArray⟩ : ByteArray) ++ (⟨(textL s.data.toList).toArray⟩ : ByteArray) ++ t).data.toList.length ≤ maxLen := by
    rw [size_len, size_three]; unfold maxLen; omega
  have hz2 : (textL s.data.toList ++ t.data.toList).length ≤ maxLen := by
    rw [List.length_append, size_len]; unfold maxLen; omega
  clear h3 h4 hn hlo hhi
  go_enter Try.func5, Try.ntmps5
  go_wp2_with fail
  refine (int_nat k _ (by omega)).mono ?_
  rintro e w1 ⟨rfl, hb1⟩
  go_wp2_with fail
  refine (text_any s _ (by omega)).mono ?_
  rintro e w2 ⟨rfl, hb2⟩
  go_wp2_with fail
  refine (open_rd _ _).mono ?_
  rintro e w3 ⟨b, rfl, hge, hr, hb3⟩
  go_wp2_with fail
  refine (int_rd hr hz).mono ?_
  rintro e w4 ⟨rfl, hr4, hb4⟩
  rw [data_three, rdInt_enc hk] at hr4 ⊢
  simp only at hr4 ⊢
  go_wp2_with fail
  refine (text_rd hr4 hz2).mono ?_
  rintro e w5 ⟨rfl, hr5, hb5⟩
  rw [rdText_text _ _ (by rw [size_len]; omega)] at hr5 ⊢
  simp only at hr5 ⊢
  go_wp2_with fail
  refine (left_rd hr5).mono ?_
  rintro e w6 ⟨rfl, rfl⟩
  rw [if_pos rfl, size_len]
  go_wp2_with fail
  refine (fault_rd hr5).mono ?_
  rintro e w7 ⟨rfl, rfl⟩
  go_wp2_with fail
  refine (end_rd hr5).mono ?_
  rintro e w8 ⟨rfl, _, hb8⟩
  have hb : Below w.heap.size w w8 := bchain (bchain hb1 hb2) (((hb3.trans (hb4.mono hge)).trans (hb5.mono hge)).trans (hb8.mono hge))
  by_cases h0 : t.size = 0
  · rw [show rdEnd t.data.toList 0 = 0 by unfold rdEnd; rw [if_pos rfl, if_pos (by rw [size_len]; exact h0)]]
    have hT : t.toList.isEmpty = true := by rw [ByteArray.toList_eq, List.isEmpty_iff, ← List.length_eq_zero_iff, size_len]; exact h0
    go_wp2_with fail
    refine (awake_any _).mono ?_
    rintro e w9 ⟨rfl, hb9⟩
    go_wp2
    go_ret
    exact ⟨rfl, bchain hb hb9⟩
  · rw [show rdEnd t.data.toList 0 = 3 by unfold rdEnd; rw [if_pos rfl, if_neg (by rw [size_len]; exact h0)]]
    have hT : t.toList.isEmpty = false := by
      rw [ByteArray.toList_eq, List.isEmpty_eq_false_iff_exists_mem]
      exact List.exists_mem_of_length_pos (by rw [size_len]; omega)
    go_wp2_with fail
    refine (awake_any _).mono ?_
    rintro e w9 ⟨rfl, hb9⟩
    go_wp2
    go_ret
    exact ⟨rfl, bchain hb hb9⟩

theorem take_own (s : ByteArray) (u r : List UInt8) (h : s.data.toList = u ++ r) : ((s.extract 0 u.length).toList == u) = true := by
  rw [ByteArray.toList_eq]
  simp [ByteArray.data_extract, h]
theorem two_mk (a c : List UInt8) : (⟨a.toArray⟩ : ByteArray) ++ (⟨c.toArray⟩ : ByteArray) = ⟨(a ++ c).toArray⟩ := by
  apply ByteArray.ext; simp

set_option maxRecDepth 20000 in
set_option maxHeartbeats 2000000 in
/-- The rest of 'PackOnce', behind the test: the nil reader, and the chapter's example. -/
theorem packOnce_walk (s : ByteArray) (w : World) (hs : s.size ≤ maxLen) :
    Calls Try.prog 6 #[.string s] w fun e w' => e = .returned (.bool true) ∧ Below w.heap.size w w' := by
  have hl := hs
  unfold maxLen at hs
  by_cases h1 : 2000 < s.size
  · go_enter Try.func6, Try.ntmps6
    go_wp2_with fail
    refine (awake_any _).mono ?_
    rintro e w' ⟨rfl, hb⟩
    go_wp2
    go_ret
    exact ⟨rfl, hb⟩
  have hl0 : s.data.toList.length ≤ maxLen := by rw [size_len]; exact hl
  have ho := once s.data.toList
  have hk1 := rdInt_len s.data.toList 0
  have hi := fun (w : World) (b : Nat) (h : Rd w b s.data.toList 0) => int_rd h hl0
  generalize rdInt s.data.toList 0 = q at *
  obtain ⟨n, m, x⟩ := q
  simp only at ho hk1 hi
  rw [size_len] at hk1
  have hx := fun (w : World) (b : Nat) (h : Rd w b m x) => text_rd h (by unfold maxLen; omega)
  have hk2 := rdText_len m x
  generalize rdText m x = q at *
  obtain ⟨t, r, y⟩ := q
  simp only at ho hk2 hx
  by_cases hy : y = 0
  · subst hy
    obtain ⟨hs1, hn⟩ := ho rfl
    have hlen := congrArg List.length hs1
    rw [List.length_append, List.length_append, size_len] at hlen
    have hA : (Pk.enc n).length + (textL t).length + r.length = s.size := hlen.symm
    have ht : t.length ≤ 2000 := by have := textL_length t; omega
    have hsum : (Pk.enc n).length + (textL t).length ≤ 2000 := by omega
    have hT := take_own s _ _ hs1
    rw [show (Pk.enc n ++ textL t).length = s.size - r.length by rw [List.length_append]; omega] at hT
    clear ho hs1 hlen
    go_enter Try.func6, Try.ntmps6
    go_wp2_with fail
    refine (open_rd _ _).mono ?_
    rintro e w1 ⟨b, rfl, hge, hr1, hb1⟩
    go_wp2_with fail
    refine (hi _ _ hr1).mono ?_
    rintro e w2 ⟨rfl, hr2, hb2⟩
    go_wp2_with fail
    refine (hx _ _ hr2).mono ?_
    rintro e w3 ⟨rfl, hr3, hb3⟩
    go_wp2_with fail
    refine (fault_rd hr3).mono ?_
    rintro e w' ⟨rfl, rfl⟩
    go_wp2_with fail
    refine (int_nat n _ (by omega)).mono ?_
    rintro e w4 ⟨rfl, hb4⟩
    go_wp2_with fail
    refine (text_any _ _ (by rw [mk_size]; omega)).mono ?_
    rintro e w5 ⟨rfl, hb5⟩
    rw [mk_data]
    generalize Pk.enc n = a at *
    generalize textL t = c at *
    have hr5 := hr3.below (bchain hb4 hb5) hr3.lt
    go_wp2_with fail
    refine (left_rd hr5).mono ?_
    rintro e w' ⟨rfl, rfl⟩
    rw [if_pos rfl, two_mk]
    go_wp2_with fail
    refine (fail_nil _ _).mono ?_
    rintro e w' ⟨rfl, rfl⟩
    go_wp2_with fail
    refine (int_nil _).mono ?_
    rintro e w' ⟨rfl, rfl⟩
    go_wp2_with fail
    refine (text_nil _).mono ?_
    rintro e w' ⟨rfl, rfl⟩
    go_wp2_with fail
    refine (many_nil _ _).mono ?_
    rintro e w' ⟨rfl, rfl⟩
    go_wp2_with fail
    refine (left_nil _).mono ?_
    rintro e w' ⟨rfl, rfl⟩
    go_wp2_with fail
    refine (fault_nil _).mono ?_
    rintro e w' ⟨rfl, rfl⟩
    go_wp2_with fail
    refine (end_nil _).mono ?_
    rintro e w' ⟨rfl, rfl⟩
    go_wp2_with fail
    refine (awake_any _).mono ?_
    rintro e w9 ⟨rfl, hb9⟩
    go_wp2
    go_ret
    exact ⟨rfl, bchain ((hb1.trans (hb2.mono hge)).trans (hb3.mono hge)) (bchain (bchain hb4 hb5) hb9)⟩
  · have hy' : ((y : Int) == 0) = false := beq_eq_false_iff_ne.2 (by omega)
    clear ho
    go_enter Try.func6, Try.ntmps6
    go_wp2_with fail
    refine (open_rd _ _).mono ?_
    rintro e w1 ⟨b, rfl, hge, hr1, hb1⟩
    go_wp2_with fail
    refine (hi _ _ hr1).mono ?_
    rintro e w2 ⟨rfl, hr2, hb2⟩
    go_wp2_with fail
    refine (hx _ _ hr2).mono ?_
    rintro e w3 ⟨rfl, hr3, hb3⟩
    go_wp2_with fail
    refine (fault_rd hr3).mono ?_
    rintro e w' ⟨rfl, rfl⟩
    go_wp2_with fail
    refine (fail_nil _ _).mono ?_
    rintro e w' ⟨rfl, rfl⟩
    go_wp2_with fail
    refine (int_nil _).mono ?_
    rintro e w' ⟨rfl, rfl⟩
    go_wp2_with fail
    refine (text_nil _).mono ?_
    rintro e w' ⟨rfl, rfl⟩
    go_wp2_with fail
    refine (many_nil _ _).mono ?_
    rintro e w' ⟨rfl, rfl⟩
    go_wp2_with fail
    refine (left_nil _).mono ?_
    rintro e w' ⟨rfl, rfl⟩
    go_wp2_with fail
    refine (fault_nil _).mono ?_
    rintro e w' ⟨rfl, rfl⟩
    go_wp2_with fail
    refine (end_nil _).mono ?_
    rintro e w' ⟨rfl, rfl⟩
    go_wp2_with fail
    refine (awake_any _).mono ?_
    rintro e w9 ⟨rfl, hb9⟩
    go_wp2
    go_ret
    exact ⟨rfl, bchain ((hb1.trans (hb2.mono hge)).trans (hb3.mono hge)) hb9⟩
end Go.Proofs.Ythfolbjkhhilgaa
