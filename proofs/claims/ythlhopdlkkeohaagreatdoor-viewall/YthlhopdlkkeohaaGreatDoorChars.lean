/- The walks of the calls on one character: mayStand, may, isQuoted, Char. -/
import Derived.Test.YthlhopdlkkeohaaGreatDoorChecked
import Derived.Test.YthlhopdlkkeohaaGreatDoorUtf
import Derived.WalkKit
import Derived.Deep.QuietTactic
import Derived.BigQuiet
import Derived.WalkSmall
namespace Go.Proofs.YthlhopdlkkeohaaGreatDoor.U
open Go.RowKit

theorem ret_bool {a b : Bool} (h : a = b) : Ending.returned (.bool a) = .returned (.bool b) := by rw [h]

set_option maxRecDepth 20000 in
set_option maxHeartbeats 400000 in
theorem may_any (c : Nat) (w : World) (hc : c ≤ 2147483647) :
    Calls Tryz.prog 190 #[.int .i64 c] w fun e w' => e = .returned (.bool (Nm.may c)) ∧ w' = w := by
  by_cases h1 : c < 32
  · have HM : Hid (Nm.may c = false) := by
      have h : Nm.may c = false := by unfold Nm.may; simp; omega
      exact h
    go_enter Tryz.func190, Tryz.ntmps190
    go_wp2
    go_ret
    exact ⟨ret_bool (by rw [HM.out]; first | done | (simp; omega)), rfl⟩
  · by_cases h2 : c < 127
    · have HM : Hid (Nm.may c = true) := by
        have h : Nm.may c = true := by unfold Nm.may; simp; omega
        exact h
      have h3 : c ≠ 65533 := by omega
      go_enter Tryz.func190, Tryz.ntmps190
      go_wp2
      go_ret
      exact ⟨ret_bool (by rw [HM.out]; first | done | (simp; omega)), rfl⟩
    · by_cases h3 : c ≤ 159
      · have HM : Hid (Nm.may c = false) := by
          have h : Nm.may c = false := by unfold Nm.may; simp; omega
          exact h
        go_enter Tryz.func190, Tryz.ntmps190
        go_wp2
        go_ret
        exact ⟨ret_bool (by rw [HM.out]; first | done | (simp; omega)), rfl⟩
      · by_cases h4 : c = 65533
        · subst h4
          go_enter Tryz.func190, Tryz.ntmps190
          go_wp2
          go_ret
          exact ⟨ret_bool (by decide), rfl⟩
        · have HM : Hid (Nm.may c = true) := by
            have h : Nm.may c = true := by unfold Nm.may; simp; omega
            exact h
          go_enter Tryz.func190, Tryz.ntmps190
          go_wp2
          go_ret
          exact ⟨ret_bool (by rw [HM.out]; first | done | (simp; omega)), rfl⟩

/-- Is a character a slash or an escape? -/
def isQN (c : Nat) : Bool := c == 47 || c == 92
theorem size_len (s : ByteArray) : s.data.toList.length = s.size := by simp
theorem getD_data (s : ByteArray) (k : Nat) (h : k < s.size) : s.data.toList.getD k 0 = s[k] := by
  rw [List.getD_eq_getElem?_getD, List.getElem?_eq_getElem (by simpa using h)]
  rfl
theorem int_val {a b : Int} (h : a = b) : Value.int .i64 a = .int .i64 b := by rw [h]
theorem acc_step (s : ByteArray) (k : Nat) (h : k < s.size) (h1 : 1 ≤ k) (base : Nat) : Nm.acc s.data.toList base k = 64 * Nm.acc s.data.toList base (k - 1) + s[k].toNat - 128 := by
  obtain ⟨m, rfl⟩ : ∃ m, k = m + 1 := ⟨k - 1, by omega⟩
  rw [Nm.acc_succ, getD_data s (m + 1) h, Nat.add_sub_cancel]
/-- The bytes from the second on, so many, are such as stand behind a first one. -/
def contTo (l : List UInt8) (k : Nat) : Prop := ∀ j, 1 ≤ j → j < k → 128 ≤ (l.getD j 0).toNat ∧ (l.getD j 0).toNat ≤ 191
theorem cont_step {l : List UInt8} {k : Nat} {b : UInt8} (h : contTo l k) (hb : l.getD k 0 = b) (h1 : 128 ≤ b.toNat) (h2 : b.toNat ≤ 191) : contTo l (k + 1) := by
  intro j g1 g2
  by_cases e : j = k
  · subst e
    rw [hb]
    exact ⟨h1, h2⟩
  · exact h j g1 (by omega)
/-- What 'Char' tells, as the program's values. -/
def charV (l : List UInt8) : Value := .tuple #[.int .i64 ((Nm.charL l).1 : Nat), .int .i64 ((Nm.charL l).2 : Nat)]
theorem char_ret {l : List UInt8} {a b : Nat} (h : Nm.charL l = (a, b)) : Ending.returned (.tuple #[.int .i64 (a : Int), .int .i64 (b : Int)]) = .returned (charV l) := by unfold charV; rw [h]

set_option maxRecDepth 20000 in
set_option maxHeartbeats 2000000 in
theorem char_two (s : ByteArray) (w : World) (hs : s.size ≤ maxLen) (h0 : 0 < s.size) (hlo : 194 ≤ s[0].toNat) (hhi : s[0].toNat < 224) :
    Calls Tryz.prog 191 #[.string s] w fun e w' => e = .returned (charV s.data.toList) ∧ w' = w := by
  unfold maxLen at hs
  have hC : Nm.cls (s.data.toList.getD 0 0).toNat 2 128 (s[0].toNat - 192) := by
    rw [getD_data s 0 h0]
    unfold Nm.cls
    omega
  by_cases hn : s.size < 2
  · have HN : Hid (Nm.charL s.data.toList = (0, 0)) := by
      have h := Nm.cls_short _ _ _ _ hC (by rw [size_len]; exact hn)
      exact h
    clear hC
    go_enter Tryz.func191, Tryz.ntmps191
    go_wp2
    go_ret2
    exact ⟨char_ret HN.out, rfl⟩
  · have HC : Hid (Nm.cls (s.data.toList.getD 0 0).toNat 2 128 (s[0].toNat - 192)) := hC
    clear hC
    go_enter Tryz.func191, Tryz.ntmps191
    go_wp2
    go_loop [4, 7] (fun c i => ∃ k : Nat, 1 ≤ k ∧ k ≤ 2 ∧ i = .int .i64 k ∧ c = .int .i64 (Nm.acc s.data.toList (s[0].toNat - 192) (k - 1) : Nat) ∧ contTo s.data.toList k) (fun _ i => 2 - (intOf i).toNat)
    case atStart => exact ⟨1, by omega, by omega, rfl, by simp only [Nat.sub_self, Nm.acc_zero]; first | rfl | (apply int_val; omega), fun j h1 h2 => by omega⟩
    case round =>
      obtain ⟨k, hk1, hk2, rfl, rfl, hall⟩ := hrel
      have hab := Nm.acc_bound s.data.toList (s[0].toNat - 192) (by omega) (k - 1) (by omega)
      by_cases hlt : k < 2
      · have hks : k < s.size := by omega
        have HG : Hid (s.data.toList.getD k 0 = s[k]) := getD_data s k hks
        have HS : Hid (Nm.acc s.data.toList (s[0].toNat - 192) k = 64 * Nm.acc s.data.toList (s[0].toNat - 192) (k - 1) + s[k].toNat - 128) := acc_step s k hks hk1 _
        have hbk := s[k].toNat_lt
        generalize Nm.acc s.data.toList (s[0].toNat - 192) (k - 1) = c at *
        by_cases hb : s[k].toNat < 128
        · have HN : Hid (Nm.charL s.data.toList = (0, 0)) := by
            have h := Nm.cls_stop _ _ _ _ k HC.out hk1 hlt (by rw [HG.out]; exact .inl hb)
            exact h
          go_wp2
          go_ret2
          exact ⟨char_ret HN.out, rfl⟩
        · by_cases hb2 : 191 < s[k].toNat
          · have HN : Hid (Nm.charL s.data.toList = (0, 0)) := by
              have h := Nm.cls_stop _ _ _ _ k HC.out hk1 hlt (by rw [HG.out]; exact .inr hb2)
              exact h
            go_wp2
            go_ret2
            exact ⟨char_ret HN.out, rfl⟩
          · go_wp2
            go_round
            case rel =>
              refine ⟨_, _, _, _, ⟨k + 1, by omega, by omega, ?_, ?_, cont_step hall HG.out (by omega) (by omega)⟩, rfl, rfl, rfl, rfl⟩
              · go_num
              · rw [Nat.add_sub_cancel, HS.out]
                apply int_val
                omega
            case measure => first | (simp [intOf]; done) | (simp [intOf]; omega)
      · obtain rfl : k = 2 := by omega
        have HV : Hid (Nm.acc s.data.toList (s[0].toNat - 192) (2 - 1) = Nm.acc s.data.toList (s[0].toNat - 192) (2 - 1)) := rfl
        generalize hv : Nm.acc s.data.toList (s[0].toNat - 192) (2 - 1) = v at *
        have HW : Hid (Nm.acc s.data.toList (s[0].toNat - 192) (2 - 1) = v) := hv
        clear hv
        by_cases c1 : v < 128
        · have HN : Hid (Nm.charL s.data.toList = (0, 0)) := by
            have h := Nm.cls_wrong _ _ _ _ v HC.out hall HW.out (by omega)
            exact h
          go_wp2
          go_ret2
          exact ⟨char_ret HN.out, rfl⟩
        · by_cases c2 : 1114111 < v
          · have HN : Hid (Nm.charL s.data.toList = (0, 0)) := by
              have h := Nm.cls_wrong _ _ _ _ v HC.out hall HW.out (by omega)
              exact h
            go_wp2
            go_ret2
            exact ⟨char_ret HN.out, rfl⟩
          · by_cases c3 : v < 55296
            · have HN : Hid (Nm.charL s.data.toList = (v, 2)) := by
                have h := Nm.cls_right _ _ _ _ v HC.out (by rw [size_len]; omega) hall HW.out (by omega)
                exact h
              go_wp2
              go_ret2
              exact ⟨char_ret HN.out, rfl⟩
            · by_cases c4 : v ≤ 57343
              · have HN : Hid (Nm.charL s.data.toList = (0, 0)) := by
                  have h := Nm.cls_wrong _ _ _ _ v HC.out hall HW.out (by omega)
                  exact h
                go_wp2
                go_ret2
                exact ⟨char_ret HN.out, rfl⟩
              · have HN : Hid (Nm.charL s.data.toList = (v, 2)) := by
                  have h := Nm.cls_right _ _ _ _ v HC.out (by rw [size_len]; omega) hall HW.out (by omega)
                  exact h
                go_wp2
                go_ret2
                exact ⟨char_ret HN.out, rfl⟩

set_option maxRecDepth 20000 in
set_option maxHeartbeats 2000000 in
theorem char_three (s : ByteArray) (w : World) (hs : s.size ≤ maxLen) (h0 : 0 < s.size) (hlo : 224 ≤ s[0].toNat) (hhi : s[0].toNat < 240) :
    Calls Tryz.prog 191 #[.string s] w fun e w' => e = .returned (charV s.data.toList) ∧ w' = w := by
  unfold maxLen at hs
  have hC : Nm.cls (s.data.toList.getD 0 0).toNat 3 2048 (s[0].toNat - 224) := by
    rw [getD_data s 0 h0]
    unfold Nm.cls
    omega
  by_cases hn : s.size < 3
  · have HN : Hid (Nm.charL s.data.toList = (0, 0)) := by
      have h := Nm.cls_short _ _ _ _ hC (by rw [size_len]; exact hn)
      exact h
    clear hC
    go_enter Tryz.func191, Tryz.ntmps191
    go_wp2
    go_ret2
    exact ⟨char_ret HN.out, rfl⟩
  · have HC : Hid (Nm.cls (s.data.toList.getD 0 0).toNat 3 2048 (s[0].toNat - 224)) := hC
    clear hC
    go_enter Tryz.func191, Tryz.ntmps191
    go_wp2
    go_loop [4, 7] (fun c i => ∃ k : Nat, 1 ≤ k ∧ k ≤ 3 ∧ i = .int .i64 k ∧ c = .int .i64 (Nm.acc s.data.toList (s[0].toNat - 224) (k - 1) : Nat) ∧ contTo s.data.toList k) (fun _ i => 3 - (intOf i).toNat)
    case atStart => exact ⟨1, by omega, by omega, rfl, by simp only [Nat.sub_self, Nm.acc_zero]; first | rfl | (apply int_val; omega), fun j h1 h2 => by omega⟩
    case round =>
      obtain ⟨k, hk1, hk2, rfl, rfl, hall⟩ := hrel
      have hab := Nm.acc_bound s.data.toList (s[0].toNat - 224) (by omega) (k - 1) (by omega)
      by_cases hlt : k < 3
      · have hks : k < s.size := by omega
        have HG : Hid (s.data.toList.getD k 0 = s[k]) := getD_data s k hks
        have HS : Hid (Nm.acc s.data.toList (s[0].toNat - 224) k = 64 * Nm.acc s.data.toList (s[0].toNat - 224) (k - 1) + s[k].toNat - 128) := acc_step s k hks hk1 _
        have hbk := s[k].toNat_lt
        generalize Nm.acc s.data.toList (s[0].toNat - 224) (k - 1) = c at *
        by_cases hb : s[k].toNat < 128
        · have HN : Hid (Nm.charL s.data.toList = (0, 0)) := by
            have h := Nm.cls_stop _ _ _ _ k HC.out hk1 hlt (by rw [HG.out]; exact .inl hb)
            exact h
          go_wp2
          go_ret2
          exact ⟨char_ret HN.out, rfl⟩
        · by_cases hb2 : 191 < s[k].toNat
          · have HN : Hid (Nm.charL s.data.toList = (0, 0)) := by
              have h := Nm.cls_stop _ _ _ _ k HC.out hk1 hlt (by rw [HG.out]; exact .inr hb2)
              exact h
            go_wp2
            go_ret2
            exact ⟨char_ret HN.out, rfl⟩
          · go_wp2
            go_round
            case rel =>
              refine ⟨_, _, _, _, ⟨k + 1, by omega, by omega, ?_, ?_, cont_step hall HG.out (by omega) (by omega)⟩, rfl, rfl, rfl, rfl⟩
              · go_num
              · rw [Nat.add_sub_cancel, HS.out]
                apply int_val
                omega
            case measure => first | (simp [intOf]; done) | (simp [intOf]; omega)
      · obtain rfl : k = 3 := by omega
        have HV : Hid (Nm.acc s.data.toList (s[0].toNat - 224) (3 - 1) = Nm.acc s.data.toList (s[0].toNat - 224) (3 - 1)) := rfl
        generalize hv : Nm.acc s.data.toList (s[0].toNat - 224) (3 - 1) = v at *
        have HW : Hid (Nm.acc s.data.toList (s[0].toNat - 224) (3 - 1) = v) := hv
        clear hv
        by_cases c1 : v < 2048
        · have HN : Hid (Nm.charL s.data.toList = (0, 0)) := by
            have h := Nm.cls_wrong _ _ _ _ v HC.out hall HW.out (by omega)
            exact h
          go_wp2
          go_ret2
          exact ⟨char_ret HN.out, rfl⟩
        · by_cases c2 : 1114111 < v
          · have HN : Hid (Nm.charL s.data.toList = (0, 0)) := by
              have h := Nm.cls_wrong _ _ _ _ v HC.out hall HW.out (by omega)
              exact h
            go_wp2
            go_ret2
            exact ⟨char_ret HN.out, rfl⟩
          · by_cases c3 : v < 55296
            · have HN : Hid (Nm.charL s.data.toList = (v, 3)) := by
                have h := Nm.cls_right _ _ _ _ v HC.out (by rw [size_len]; omega) hall HW.out (by omega)
                exact h
              go_wp2
              go_ret2
              exact ⟨char_ret HN.out, rfl⟩
            · by_cases c4 : v ≤ 57343
              · have HN : Hid (Nm.charL s.data.toList = (0, 0)) := by
                  have h := Nm.cls_wrong _ _ _ _ v HC.out hall HW.out (by omega)
                  exact h
                go_wp2
                go_ret2
                exact ⟨char_ret HN.out, rfl⟩
              · have HN : Hid (Nm.charL s.data.toList = (v, 3)) := by
                  have h := Nm.cls_right _ _ _ _ v HC.out (by rw [size_len]; omega) hall HW.out (by omega)
                  exact h
                go_wp2
                go_ret2
                exact ⟨char_ret HN.out, rfl⟩

set_option maxRecDepth 20000 in
set_option maxHeartbeats 2000000 in
theorem char_four (s : ByteArray) (w : World) (hs : s.size ≤ maxLen) (h0 : 0 < s.size) (hlo : 240 ≤ s[0].toNat) (hhi : s[0].toNat < 245) :
    Calls Tryz.prog 191 #[.string s] w fun e w' => e = .returned (charV s.data.toList) ∧ w' = w := by
  unfold maxLen at hs
  have hC : Nm.cls (s.data.toList.getD 0 0).toNat 4 65536 (s[0].toNat - 240) := by
    rw [getD_data s 0 h0]
    unfold Nm.cls
    omega
  by_cases hn : s.size < 4
  · have HN : Hid (Nm.charL s.data.toList = (0, 0)) := by
      have h := Nm.cls_short _ _ _ _ hC (by rw [size_len]; exact hn)
      exact h
    clear hC
    go_enter Tryz.func191, Tryz.ntmps191
    go_wp2
    go_ret2
    exact ⟨char_ret HN.out, rfl⟩
  · have HC : Hid (Nm.cls (s.data.toList.getD 0 0).toNat 4 65536 (s[0].toNat - 240)) := hC
    clear hC
    go_enter Tryz.func191, Tryz.ntmps191
    go_wp2
    go_loop [4, 7] (fun c i => ∃ k : Nat, 1 ≤ k ∧ k ≤ 4 ∧ i = .int .i64 k ∧ c = .int .i64 (Nm.acc s.data.toList (s[0].toNat - 240) (k - 1) : Nat) ∧ contTo s.data.toList k) (fun _ i => 4 - (intOf i).toNat)
    case atStart => exact ⟨1, by omega, by omega, rfl, by simp only [Nat.sub_self, Nm.acc_zero]; first | rfl | (apply int_val; omega), fun j h1 h2 => by omega⟩
    case round =>
      obtain ⟨k, hk1, hk2, rfl, rfl, hall⟩ := hrel
      have hab := Nm.acc_bound s.data.toList (s[0].toNat - 240) (by omega) (k - 1) (by omega)
      by_cases hlt : k < 4
      · have hks : k < s.size := by omega
        have HG : Hid (s.data.toList.getD k 0 = s[k]) := getD_data s k hks
        have HS : Hid (Nm.acc s.data.toList (s[0].toNat - 240) k = 64 * Nm.acc s.data.toList (s[0].toNat - 240) (k - 1) + s[k].toNat - 128) := acc_step s k hks hk1 _
        have hbk := s[k].toNat_lt
        generalize Nm.acc s.data.toList (s[0].toNat - 240) (k - 1) = c at *
        by_cases hb : s[k].toNat < 128
        · have HN : Hid (Nm.charL s.data.toList = (0, 0)) := by
            have h := Nm.cls_stop _ _ _ _ k HC.out hk1 hlt (by rw [HG.out]; exact .inl hb)
            exact h
          go_wp2
          go_ret2
          exact ⟨char_ret HN.out, rfl⟩
        · by_cases hb2 : 191 < s[k].toNat
          · have HN : Hid (Nm.charL s.data.toList = (0, 0)) := by
              have h := Nm.cls_stop _ _ _ _ k HC.out hk1 hlt (by rw [HG.out]; exact .inr hb2)
              exact h
            go_wp2
            go_ret2
            exact ⟨char_ret HN.out, rfl⟩
          · go_wp2
            go_round
            case rel =>
              refine ⟨_, _, _, _, ⟨k + 1, by omega, by omega, ?_, ?_, cont_step hall HG.out (by omega) (by omega)⟩, rfl, rfl, rfl, rfl⟩
              · go_num
              · rw [Nat.add_sub_cancel, HS.out]
                apply int_val
                omega
            case measure => first | (simp [intOf]; done) | (simp [intOf]; omega)
      · obtain rfl : k = 4 := by omega
        have HV : Hid (Nm.acc s.data.toList (s[0].toNat - 240) (4 - 1) = Nm.acc s.data.toList (s[0].toNat - 240) (4 - 1)) := rfl
        generalize hv : Nm.acc s.data.toList (s[0].toNat - 240) (4 - 1) = v at *
        have HW : Hid (Nm.acc s.data.toList (s[0].toNat - 240) (4 - 1) = v) := hv
        clear hv
        by_cases c1 : v < 65536
        · have HN : Hid (Nm.charL s.data.toList = (0, 0)) := by
            have h := Nm.cls_wrong _ _ _ _ v HC.out hall HW.out (by omega)
            exact h
          go_wp2
          go_ret2
          exact ⟨char_ret HN.out, rfl⟩
        · by_cases c2 : 1114111 < v
          · have HN : Hid (Nm.charL s.data.toList = (0, 0)) := by
              have h := Nm.cls_wrong _ _ _ _ v HC.out hall HW.out (by omega)
              exact h
            go_wp2
            go_ret2
            exact ⟨char_ret HN.out, rfl⟩
          · by_cases c3 : v < 55296
            · have HN : Hid (Nm.charL s.data.toList = (v, 4)) := by
                have h := Nm.cls_right _ _ _ _ v HC.out (by rw [size_len]; omega) hall HW.out (by omega)
                exact h
              exfalso
              omega
            · by_cases c4 : v ≤ 57343
              · have HN : Hid (Nm.charL s.data.toList = (0, 0)) := by
                  have h := Nm.cls_wrong _ _ _ _ v HC.out hall HW.out (by omega)
                  exact h
                exfalso
                omega
              · have HN : Hid (Nm.charL s.data.toList = (v, 4)) := by
                  have h := Nm.cls_right _ _ _ _ v HC.out (by rw [size_len]; omega) hall HW.out (by omega)
                  exact h
                go_wp2
                go_ret2
                exact ⟨char_ret HN.out, rfl⟩

set_option maxRecDepth 20000 in
set_option maxHeartbeats 2000000 in
theorem char_any (s : ByteArray) (w : World) (hs : s.size ≤ maxLen) :
    Calls Tryz.prog 191 #[.string s] w fun e w' => e = .returned (charV s.data.toList) ∧ w' = w := by
  by_cases h0 : s.size = 0
  · have HN : Hid (Nm.charL s.data.toList = (0, 0)) := by
      have h : s.data.toList = [] := List.eq_nil_of_length_eq_zero (by rw [size_len]; exact h0)
      have h2 : Nm.charL s.data.toList = (0, 0) := by rw [h]; exact Nm.charL_nil
      exact h2
    unfold maxLen at hs
    go_enter Tryz.func191, Tryz.ntmps191
    go_wp2
    go_ret2
    exact ⟨char_ret HN.out, rfl⟩
  · have hp : 0 < s.size := by omega
    have hb := s[0].toNat_lt
    have HG : Hid (s.data.toList.getD 0 0 = s[0]) := getD_data s 0 hp
    by_cases h1 : s[0].toNat < 128
    · have HN : Hid (Nm.charL s.data.toList = (s[0].toNat, 1)) := by
        have h := Nm.charL_one s.data.toList (by intro e; have := size_len s; rw [e] at this; simp at this; omega) (by rw [HG.out]; exact h1)
        rw [HG.out] at h
        exact h
      unfold maxLen at hs
      go_enter Tryz.func191, Tryz.ntmps191
      go_wp2
      go_ret2
      exact ⟨char_ret HN.out, rfl⟩
    · by_cases h2 : s[0].toNat < 194
      · have HN : Hid (Nm.charL s.data.toList = (0, 0)) := by
          have h := Nm.charL_else s.data.toList (by rw [HG.out]; omega)
          exact h
        unfold maxLen at hs
        go_enter Tryz.func191, Tryz.ntmps191
        go_wp2
        go_ret2
        exact ⟨char_ret HN.out, rfl⟩
      · by_cases h3 : s[0].toNat < 224
        · exact char_two s w hs hp (by omega) h3
        · by_cases h4 : s[0].toNat < 240
          · exact char_three s w hs hp (by omega) h4
          · by_cases h5 : s[0].toNat < 245
            · exact char_four s w hs hp (by omega) h5
            · have HN : Hid (Nm.charL s.data.toList = (0, 0)) := by
                have h := Nm.charL_else s.data.toList (by rw [HG.out]; omega)
                exact h
              unfold maxLen at hs
              go_enter Tryz.func191, Tryz.ntmps191
              go_wp2
              go_ret2
              exact ⟨char_ret HN.out, rfl⟩

end Go.Proofs.YthlhopdlkkeohaaGreatDoor.U
