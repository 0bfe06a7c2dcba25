/- The walks of the calls on one character: mayStand, may, isQuoted, Char · The walks of the two 'Runes': a text's characters, put behind one another in memory of the call's own. -/
import Derived.Test.YthlhopdlkkeohaaGreatDoorChecked
import Derived.Test.YthlhopdlkkeohaaGreatDoorUtf
import Derived.WalkKit
import Derived.Deep.QuietTactic
import Derived.BigQuiet
import Derived.WalkSmall
import Derived.Test.YthlhopdlkkeohaaGreatDoorReaderAll
/- The walks of the calls on one character: mayStand, may, isQuoted, Char. -/
namespace Go.Proofs.YthlhopdlkkeohaaGreatDoor.U
open Go.RowKit

theorem ret_bool {a b : Bool} (h : a = b) : Ending.returned (.bool a) = .returned (.bool b) := by rw [h]

set_option maxRecDepth 20000 in
set_option maxHeartbeats 400000 in
theorem may_any (c : Nat) (w : World) (hc : c ≤ 2147483647) :
    Calls Tryz.prog 190 #[.int .i64 c] w fun e w' => e = .returned (.bool (Nm.may c)) ∧ w' = w := by
  by_cases h1 : c < 32
  · have HM : Hid (Nm.may c = false) := by
      have h : Nm.may c = false := by unfold Nm.may; simp; omega
      exact h
    go_enter Tryz.func190, Tryz.ntmps190
    go_wp2
    go_ret
    exact ⟨ret_bool (by rw [HM.out]; first | done | (simp; omega)), rfl⟩
  · by_cases h2 : c < 127
    · have HM : Hid (Nm.may c = true) := by
        have h : Nm.may c = true := by unfold Nm.may; simp; omega
        exact h
      have h3 : c ≠ 65533 := by omega
      go_enter Tryz.func190, Tryz.ntmps190
      go_wp2
      go_ret
      exact ⟨ret_bool (by rw [HM.out]; first | done | (simp; omega)), rfl⟩
    · by_cases h3 : c ≤ 159
      · have HM : Hid (Nm.may c = false) := by
          have h : Nm.may c = false := by unfold Nm.may; simp; omega
          exact h
        go_enter Tryz.func190, Tryz.ntmps190
        go_wp2
        go_ret
        exact ⟨ret_bool (by rw [HM.out]; first | done | (simp; omega)), rfl⟩
      · by_cases h4 : c = 65533
        · subst h4
          go_enter Tryz.func190, Tryz.ntmps190
          go_wp2
          go_ret
          exact ⟨ret_bool (by decide), rfl⟩
        · have HM : Hid (Nm.may c = true) := by
            have h : Nm.may c = true := by unfold Nm.may; simp; omega
            exact h
          go_enter Tryz.func190, Tryz.ntmps190
          go_wp2
          go_ret
          exact ⟨ret_bool (by rw [HM.out]; first | done | (simp; omega)), rfl⟩

/-- Is a character a slash or an escape? -/
def isQN (c : Nat) : Bool := c == 47 || c == 92
theorem size_len (s : ByteArray) : s.data.toList.length = s.size := by simp
theorem getD_data (s : ByteArray) (k : Nat) (h : k < s.size) : s.data.toList.getD k 0 = s[k] := by
  rw [List.getD_eq_getElem?_getD, List.getElem?_eq_getElem (by simpa using h)]
  rfl
theorem int_val {a b : Int} (h : a = b) : Value.int .i64 a = .int .i64 b := by rw [h]
theorem acc_step (s : ByteArray) (k : Nat) (h : k < s.size) (h1 : 1 ≤ k) (base : Nat) : Nm.acc s.data.toList base k = 64 * Nm.acc s.data.toList base (k - 1) + s[k].toNat - 128 := by
  obtain ⟨m, rfl⟩ : ∃ m, k = m + 1 := ⟨k - 1, by omega⟩
  rw [Nm.acc_succ, getD_data s (m + 1) h, Nat.add_sub_cancel]
/-- The bytes from the second on, so many, are such as stand behind a first one. -/
def contTo (l : List UInt8) (k : Nat) : Prop := ∀ j, 1 ≤ j → j < k → 128 ≤ (l.getD j 0).toNat ∧ (l.getD j 0).toNat ≤ 191
theorem cont_step {l : List UInt8} {k : Nat} {b : UInt8} (h : contTo l k) (hb : l.getD k 0 = b) (h1 : 128 ≤ b.toNat) (h2 : b.toNat ≤ 191) : contTo l (k + 1) := by
  intro j g1 g2
  by_cases e : j = k
  · subst e
    rw [hb]
    exact ⟨h1, h2⟩
  · exact h j g1 (by omega)
/-- What 'Char' tells, as the program's values. -/
def charV (l : List UInt8) : Value := .tuple #[.int .i64 ((Nm.charL l).1 : Nat), .int .i64 ((Nm.charL l).2 : Nat)]
theorem char_ret {l : List UInt8} {a b : Nat} (h : Nm.charL l = (a, b)) : Ending.returned (.tuple #[.int .i64 (a : Int), .int .i64 (b : Int)]) = .returned (charV l) := by unfold charV; rw [h]

set_option maxRecDepth 20000 in
set_option maxHeartbeats 2000000 in
theorem char_two (s : ByteArray) (w : World) (hs : s.size ≤ maxLen) (h0 : 0 < s.size) (hlo : 194 ≤ s[0].toNat) (hhi : s[0].toNat < 224) :
    Calls Tryz.prog 191 #[.string s] w fun e w' => e = .returned (charV s.data.toList) ∧ w' = w := by
  unfold maxLen at hs
  have hC : Nm.cls (s.data.toList.getD 0 0).toNat 2 128 (s[0].toNat - 192) := by
    rw [getD_data s 0 h0]
    unfold Nm.cls
    omega
  by_cases hn : s.size < 2
  · have HN : Hid (Nm.charL s.data.toList = (0, 0)) := by
      have h := Nm.cls_short _ _ _ _ hC (by rw [size_len]; exact hn)
      exact h
    clear hC
    go_enter Tryz.func191, Tryz.ntmps191
    go_wp2
    go_ret2
    exact ⟨char_ret HN.out, rfl⟩
  · have HC : Hid (Nm.cls (s.data.toList.getD 0 0).toNat 2 128 (s[0].toNat - 192)) := hC
    clear hC
    go_enter Tryz.func191, Tryz.ntmps191
    go_wp2
    go_loop [4, 7] (fun c i => ∃ k : Nat, 1 ≤ k ∧ k ≤ 2 ∧ i = .int .i64 k ∧ c = .int .i64 (Nm.acc s.data.toList (s[0].toNat - 192) (k - 1) : Nat) ∧ contTo s.data.toList k) (fun _ i => 2 - (intOf i).toNat)
    case atStart => exact ⟨1, by omega, by omega, rfl, by simp only [Nat.sub_self, Nm.acc_zero]; first | rfl | (apply int_val; omega), fun j h1 h2 => by omega⟩
    case round =>
      obtain ⟨k, hk1, hk2, rfl, rfl, hall⟩ := hrel
      have hab := Nm.acc_bound s.data.toList (s[0].toNat - 192) (by omega) (k - 1) (by omega)
      by_cases hlt : k < 2
      · have hks : k < s.size := by omega
        have HG : Hid (s.data.toList.getD k 0 = s[k]) := getD_data s k hks
        have HS : Hid (Nm.acc s.data.toList (s[0].toNat - 192) k = 64 * Nm.acc s.data.toList (s[0].toNat - 192) (k - 1) + s[k].toNat - 128) := acc_step s k hks hk1 _
        have hbk := s[k].toNat_lt
        generalize Nm.acc s.data.toList (s[0].toNat - 192) (k - 1) = c at *
        by_cases hb : s[k].toNat < 128
        · have HN : Hid (Nm.charL s.data.toList = (0, 0)) := by
            have h := Nm.cls_stop _ _ _ _ k HC.out hk1 hlt (by rw [HG.out]; exact .inl hb)
            exact h
          go_wp2
          go_ret2
          exact ⟨char_ret HN.out, rfl⟩
        · by_cases hb2 : 191 < s[k].toNat
          · have HN : Hid (Nm.charL s.data.toList = (0, 0)) := by
              have h := Nm.cls_stop _ _ _ _ k HC.out hk1 hlt (by rw [HG.out]; exact .inr hb2)
              exact h
            go_wp2
            go_ret2
            exact ⟨char_ret HN.out, rfl⟩
          · go_wp2
            go_round
            case rel =>
              refine ⟨_, _, _, _, ⟨k + 1, by omega, by omega, ?_, ?_, cont_step hall HG.out (by omega) (by omega)⟩, rfl, rfl, rfl, rfl⟩
              · go_num
              · rw [Nat.add_sub_cancel, HS.out]
                apply int_val
                omega
            case measure => first | (simp [intOf]; done) | (simp [intOf]; omega)
      · obtain rfl : k = 2 := by omega
        have HV : Hid (Nm.acc s.data.toList (s[0].toNat - 192) (2 - 1) = Nm.acc s.data.toList (s[0].toNat - 192) (2 - 1)) := rfl
        generalize hv : Nm.acc s.data.toList (s[0].toNat - 192) (2 - 1) = v at *
        have HW : Hid (Nm.acc s.data.toList (s[0].toNat - 192) (2 - 1) = v) := hv
        clear hv
        by_cases c1 : v < 128
        · have HN : Hid (Nm.charL s.data.toList = (0, 0)) := by
            have h := Nm.cls_wrong _ _ _ _ v HC.out hall HW.out (by omega)
            exact h
          go_wp2
          go_ret2
          exact ⟨char_ret HN.out, rfl⟩
        · by_cases c2 : 1114111 < v
          · have HN : Hid (Nm.charL s.data.toList = (0, 0)) := by
              have h := Nm.cls_wrong _ _ _ _ v HC.out hall HW.out (by omega)
              exact h
            go_wp2
            go_ret2
            exact ⟨char_ret HN.out, rfl⟩
          · by_cases c3 : v < 55296
            · have HN : Hid (Nm.charL s.data.toList = (v, 2)) := by
                have h := Nm.cls_right _ _ _ _ v HC.out (by rw [size_len]; omega) hall HW.out (by omega)
                exact h
              go_wp2
              go_ret2
              exact ⟨char_ret HN.out, rfl⟩
            · by_cases c4 : v ≤ 57343
              · have HN : Hid (Nm.charL s.data.toList = (0, 0)) := by
                  have h := Nm.cls_wrong _ _ _ _ v HC.out hall HW.out (by omega)
                  exact h
                go_wp2
                go_ret2
                exact ⟨char_ret HN.out, rfl⟩
              · have HN : Hid (Nm.charL s.data.toList = (v, 2)) := by
                  have h := Nm.cls_right _ _ _ _ v HC.out (by rw [size_len]; omega) hall HW.out (by omega)
                  exact h
                go_wp2
                go_ret2
                exact ⟨char_ret HN.out, rfl⟩

set_option maxRecDepth 20000 in
set_option maxHeartbeats 2000000 in
theorem char_three (s : ByteArray) (w : World) (hs : s.size ≤ maxLen) (h0 : 0 < s.size) (hlo : 224 ≤ s[0].toNat) (hhi : s[0].toNat < 240) :
    Calls Tryz.prog 191 #[.string s] w fun e w' => e = .returned (charV s.data.toList) ∧ w' = w := by
  unfold maxLen at hs
  have hC : Nm.cls (s.data.toList.getD 0 0).toNat 3 2048 (s[0].toNat - 224) := by
    rw [getD_data s 0 h0]
    unfold Nm.cls
    omega
  by_cases hn : s.size < 3
  · have HN : Hid (Nm.charL s.data.toList = (0, 0)) := by
      have h := Nm.cls_short _ _ _ _ hC (by rw [size_len]; exact hn)
      exact h
    clear hC
    go_enter Tryz.func191, Tryz.ntmps191
    go_wp2
    go_ret2
    exact ⟨char_ret HN.out, rfl⟩
  · have HC : Hid (Nm.cls (s.data.toList.getD 0 0).toNat 3 2048 (s[0].toNat - 224)) := hC
    clear hC
    go_enter Tryz.func191, Tryz.ntmps191
    go_wp2
    go_loop [4, 7] (fun c i => ∃ k : Nat, 1 ≤ k ∧ k ≤ 3 ∧ i = .int .i64 k ∧ c = .int .i64 (Nm.acc s.data.toList (s[0].toNat - 224) (k - 1) : Nat) ∧ contTo s.data.toList k) (fun _ i => 3 - (intOf i).toNat)
    case atStart => exact ⟨1, by omega, by omega, rfl, by simp only [Nat.sub_self, Nm.acc_zero]; first | rfl | (apply int_val; omega), fun j h1 h2 => by omega⟩
    case round =>
      obtain ⟨k, hk1, hk2, rfl, rfl, hall⟩ := hrel
      have hab := Nm.acc_bound s.data.toList (s[0].toNat - 224) (by omega) (k - 1) (by omega)
      by_cases hlt : k < 3
      · have hks : k < s.size := by omega
        have HG : Hid (s.data.toList.getD k 0 = s[k]) := getD_data s k hks
        have HS : Hid (Nm.acc s.data.toList (s[0].toNat - 224) k = 64 * Nm.acc s.data.toList (s[0].toNat - 224) (k - 1) + s[k].toNat - 128) := acc_step s k hks hk1 _
        have hbk := s[k].toNat_lt
        generalize Nm.acc s.data.toList (s[0].toNat - 224) (k - 1) = c at *
        by_cases hb : s[k].toNat < 128
        · have HN : Hid (Nm.charL s.data.toList = (0, 0)) := by
            have h := Nm.cls_stop _ _ _ _ k HC.out hk1 hlt (by rw [HG.out]; exact .inl hb)
            exact h
          go_wp2
          go_ret2
          exact ⟨char_ret HN.out, rfl⟩
        · by_cases hb2 : 191 < s[k].toNat
          · have HN : Hid (Nm.charL s.data.toList = (0, 0)) := by
              have h := Nm.cls_stop _ _ _ _ k HC.out hk1 hlt (by rw [HG.out]; exact .inr hb2)
              exact h
            go_wp2
            go_ret2
            exact ⟨char_ret HN.out, rfl⟩
          · go_wp2
            go_round
            case rel =>
              refine ⟨_, _, _, _, ⟨k + 1, by omega, by omega, ?_, ?_, cont_step hall HG.out (by omega) (by omega)⟩, rfl, rfl, rfl, rfl⟩
              · go_num
              · rw [Nat.add_sub_cancel, HS.out]
                apply int_val
                omega
            case measure => first | (simp [intOf]; done) | (simp [intOf]; omega)
      · obtain rfl : k = 3 := by omega
        have HV : Hid (Nm.acc s.data.toList (s[0].toNat - 224) (3 - 1) = Nm.acc s.data.toList (s[0].toNat - 224) (3 - 1)) := rfl
        generalize hv : Nm.acc s.data.toList (s[0].toNat - 224) (3 - 1) = v at *
        have HW : Hid (Nm.acc s.data.toList (s[0].toNat - 224) (3 - 1) = v) := hv
        clear hv
        by_cases c1 : v < 2048
        · have HN : Hid (Nm.charL s.data.toList = (0, 0)) := by
            have h := Nm.cls_wrong _ _ _ _ v HC.out hall HW.out (by omega)
            exact h
          go_wp2
          go_ret2
          exact ⟨char_ret HN.out, rfl⟩
        · by_cases c2 : 1114111 < v
          · have HN : Hid (Nm.charL s.data.toList = (0, 0)) := by
              have h := Nm.cls_wrong _ _ _ _ v HC.out hall HW.out (by omega)
              exact h
            go_wp2
            go_ret2
            exact ⟨char_ret HN.out, rfl⟩
          · by_cases c3 : v < 55296
            · have HN : Hid (Nm.charL s.data.toList = (v, 3)) := by
                have h := Nm.cls_right _ _ _ _ v HC.out (by rw [size_len]; omega) hall HW.out (by omega)
                exact h
              go_wp2
              go_ret2
              exact ⟨char_ret HN.out, rfl⟩
            · by_cases c4 : v ≤ 57343
              · have HN : Hid (Nm.charL s.data.toList = (0, 0)) := by
                  have h := Nm.cls_wrong _ _ _ _ v HC.out hall HW.out (by omega)
                  exact h
                go_wp2
                go_ret2
                exact ⟨char_ret HN.out, rfl⟩
              · have HN : Hid (Nm.charL s.data.toList = (v, 3)) := by
                  have h := Nm.cls_right _ _ _ _ v HC.out (by rw [size_len]; omega) hall HW.out (by omega)
                  exact h
                go_wp2
                go_ret2
                exact ⟨char_ret HN.out, rfl⟩

set_option maxRecDepth 20000 in
set_option maxHeartbeats 2000000 in
theorem char_four (s : ByteArray) (w : World) (hs : s.size ≤ maxLen) (h0 : 0 < s.size) (hlo : 240 ≤ s[0].toNat) (hhi : s[0].toNat < 245) :
    Calls Tryz.prog 191 #[.string s] w fun e w' => e = .returned (charV s.data.toList) ∧ w' = w := by
  unfold maxLen at hs
  have hC : Nm.cls (s.data.toList.getD 0 0).toNat 4 65536 (s[0].toNat - 240) := by
    rw [getD_data s 0 h0]
    unfold Nm.cls
    omega
  by_cases hn : s.size < 4
  · have HN : Hid (Nm.charL s.data.toList = (0, 0)) := by
      have h := Nm.cls_short _ _ _ _ hC (by rw [size_len]; exact hn)
      exact h
    clear hC
    go_enter Tryz.func191, Tryz.ntmps191
    go_wp2
    go_ret2
    exact ⟨char_ret HN.out, rfl⟩
  · have HC : Hid (Nm.cls (s.data.toList.getD 0 0).toNat 4 65536 (s[0].toNat - 240)) := hC
    clear hC
    go_enter Tryz.func191, Tryz.ntmps191
    go_wp2
    go_loop [4, 7] (fun c i => ∃ k : Nat, 1 ≤ k ∧ k ≤ 4 ∧ i = .int .i64 k ∧ c = .int .i64 (Nm.acc s.data.toList (s[0].toNat - 240) (k - 1) : Nat) ∧ contTo s.data.toList k) (fun _ i => 4 - (intOf i).toNat)
    case atStart => exact ⟨1, by omega, by omega, rfl, by simp only [Nat.sub_self, Nm.acc_zero]; first | rfl | (apply int_val; omega), fun j h1 h2 => by omega⟩
    case round =>
      obtain ⟨k, hk1, hk2, rfl, rfl, hall⟩ := hrel
      have hab := Nm.acc_bound s.data.toList (s[0].toNat - 240) (by omega) (k - 1) (by omega)
      by_cases hlt : k < 4
      · have hks : k < s.size := by omega
        have HG : Hid (s.data.toList.getD k 0 = s[k]) := getD_data s k hks
        have HS : Hid (Nm.acc s.data.toList (s[0].toNat - 240) k = 64 * Nm.acc s.data.toList (s[0].toNat - 240) (k - 1) + s[k].toNat - 128) := acc_step s k hks hk1 _
        have hbk := s[k].toNat_lt
        generalize Nm.acc s.data.toList (s[0].toNat - 240) (k - 1) = c at *
        by_cases hb : s[k].toNat < 128
        · have HN : Hid (Nm.charL s.data.toList = (0, 0)) := by
            have h := Nm.cls_stop _ _ _ _ k HC.out hk1 hlt (by rw [HG.out]; exact .inl hb)
            exact h
          go_wp2
          go_ret2
          exact ⟨char_ret HN.out, rfl⟩
        · by_cases hb2 : 191 < s[k].toNat
          · have HN : Hid (Nm.charL s.data.toList = (0, 0)) := by
              have h := Nm.cls_stop _ _ _ _ k HC.out hk1 hlt (by rw [HG.out]; exact .inr hb2)
              exact h
            go_wp2
            go_ret2
            exact ⟨char_ret HN.out, rfl⟩
          · go_wp2
            go_round
            case rel =>
              refine ⟨_, _, _, _, ⟨k + 1, by omega, by omega, ?_, ?_, cont_step hall HG.out (by omega) (by omega)⟩, rfl, rfl, rfl, rfl⟩
              · go_num
              · rw [Nat.add_sub_cancel, HS.out]
                apply int_val
                omega
            case measure => first | (simp [intOf]; done) | (simp [intOf]; omega)
      · obtain rfl : k = 4 := by omega
        have HV : Hid (Nm.acc s.data.toList (s[0].toNat - 240) (4 - 1) = Nm.acc s.data.toList (s[0].toNat - 240) (4 - 1)) := rfl
        generalize hv : Nm.acc s.data.toList (s[0].toNat - 240) (4 - 1) = v at *
        have HW : Hid (Nm.acc s.data.toList (s[0].toNat - 240) (4 - 1) = v) := hv
        clear hv
        by_cases c1 : v < 65536
        · have HN : Hid (Nm.charL s.data.toList = (0, 0)) := by
            have h := Nm.cls_wrong _ _ _ _ v HC.out hall HW.out (by omega)
            exact h
          go_wp2
          go_ret2
          exact ⟨char_ret HN.out, rfl⟩
        · by_cases c2 : 1114111 < v
          · have HN : Hid (Nm.charL s.data.toList = (0, 0)) := by
              have h := Nm.cls_wrong _ _ _ _ v HC.out hall HW.out (by omega)
              exact h
            go_wp2
            go_ret2
            exact ⟨char_ret HN.out, rfl⟩
          · by_cases c3 : v < 55296
            · have HN : Hid (Nm.charL s.data.toList = (v, 4)) := by
                have h := Nm.cls_right _ _ _ _ v HC.out (by rw [size_len]; omega) hall HW.out (by omega)
                exact h
              exfalso
              omega
            · by_cases c4 : v ≤ 57343
              · have HN : Hid (Nm.charL s.data.toList = (0, 0)) := by
                  have h := Nm.cls_wrong _ _ _ _ v HC.out hall HW.out (by omega)
                  exact h
                exfalso
                omega
              · have HN : Hid (Nm.charL s.data.toList = (v, 4)) := by
                  have h := Nm.cls_right _ _ _ _ v HC.out (by rw [size_len]; omega) hall HW.out (by omega)
                  exact h
                go_wp2
                go_ret2
                exact ⟨char_ret HN.out, rfl⟩

set_option maxRecDepth 20000 in
set_option maxHeartbeats 2000000 in
theorem char_any (s : ByteArray) (w : World) (hs : s.size ≤ maxLen) :
    Calls Tryz.prog 191 #[.string s] w fun e w' => e = .returned (charV s.data.toList) ∧ w' = w := by
  by_cases h0 : s.size = 0
  · have HN : Hid (Nm.charL s.data.toList = (0, 0)) := by
      have h : s.data.toList = [] := List.eq_nil_of_length_eq_zero (by rw [size_len]; exact h0)
      have h2 : Nm.charL s.data.toList = (0, 0) := by rw [h]; exact Nm.charL_nil
      exact h2
    unfold maxLen at hs
    go_enter Tryz.func191, Tryz.ntmps191
    go_wp2
    go_ret2
    exact ⟨char_ret HN.out, rfl⟩
  · have hp : 0 < s.size := by omega
    have hb := s[0].toNat_lt
    have HG : Hid (s.data.toList.getD 0 0 = s[0]) := getD_data s 0 hp
    by_cases h1 : s[0].toNat < 128
    · have HN : Hid (Nm.charL s.data.toList = (s[0].toNat, 1)) := by
        have h := Nm.charL_one s.data.toList (by intro e; have := size_len s; rw [e] at this; simp at this; omega) (by rw [HG.out]; exact h1)
        rw [HG.out] at h
        exact h
      unfold maxLen at hs
      go_enter Tryz.func191, Tryz.ntmps191
      go_wp2
      go_ret2
      exact ⟨char_ret HN.out, rfl⟩
    · by_cases h2 : s[0].toNat < 194
      · have HN : Hid (Nm.charL s.data.toList = (0, 0)) := by
          have h := Nm.charL_else s.data.toList (by rw [HG.out]; omega)
          exact h
        unfold maxLen at hs
        go_enter Tryz.func191, Tryz.ntmps191
        go_wp2
        go_ret2
        exact ⟨char_ret HN.out, rfl⟩
      · by_cases h3 : s[0].toNat < 224
        · exact char_two s w hs hp (by omega) h3
        · by_cases h4 : s[0].toNat < 240
          · exact char_three s w hs hp (by omega) h4
          · by_cases h5 : s[0].toNat < 245
            · exact char_four s w hs hp (by omega) h5
            · have HN : Hid (Nm.charL s.data.toList = (0, 0)) := by
                have h := Nm.charL_else s.data.toList (by rw [HG.out]; omega)
                exact h
              unfold maxLen at hs
              go_enter Tryz.func191, Tryz.ntmps191
              go_wp2
              go_ret2
              exact ⟨char_ret HN.out, rfl⟩

end Go.Proofs.YthlhopdlkkeohaaGreatDoor.U
/- The walks of the two 'Runes': a text's characters, put behind one another in memory of the call's own. -/
namespace Go.Proofs.YthlhopdlkkeohaaGreatDoor.U
open Go.RowKit

/-! ### Memory of the call's own, beside a range's iterator -/
/-- One element more: what lay below stands, and so does the iterator. -/
theorem own_below {w wr w1 : World} {B : Nat} {e : TypeId} {v : Value} {n : Nat} {xs : List Value} {o : Obj} (hown : wr.ownsRow B e 1 v n xs) (hB : B ≤ wr.heap.size) (hbw : Below B w wr) (hgrow : (wr.alloc o).grownBy w1 v.ownBlock) : Below B w w1 :=
  (hbw.alloc hB o).grown hgrow (by simp; omega) (fun k hk => (hown.lt k hk).1)
/-- Characters as cells. -/
def cells32 (l : List Nat) : List Value := l.map fun c : Nat => .int .i32 (c : Int)
def cells64 (l : List Nat) : List Value := l.map fun c : Nat => .int .i64 (c : Int)
theorem cells32_snoc (l : List Nat) (c : Nat) : cells32 l ++ [.int .i32 (c : Int)] = cells32 (l ++ [c]) := by simp [cells32]
theorem cells64_snoc (l : List Nat) (c : Nat) : cells64 l ++ [.int .i64 (c : Int)] = cells64 (l ++ [c]) := by simp [cells64]
theorem cells32_ff (l : List Nat) : cells32 l ++ [.int .i32 65533] = cells32 (l ++ [65533]) := by simp [cells32]
theorem cells32_length (l : List Nat) : (cells32 l).length = l.length := by simp [cells32]
theorem cells64_length (l : List Nat) : (cells64 l).length = l.length := by simp [cells64]
theorem info21 : (Tryz.prog.info? 21).map (fun i => (i.zero, i.size, i.bytes)) = some (some (.int .i32 0), 1, 4) := by kernel_rfl
theorem info3 : (Tryz.prog.info? 3).map (fun i => (i.zero, i.size, i.bytes)) = some (some (.int .i64 0), 1, 8) := by kernel_rfl
theorem info9 : (Tryz.prog.info? 9).map (fun i => (i.zero, i.size, i.bytes)) = some (some (.string ⟨#[]⟩), 1, 16) := by kernel_rfl
theorem one_cell32 (n : Int) : ∀ u ∈ [Value.int .i32 n], u.oneCell' = true := by intro u hu; simp at hu; subst hu; rfl
theorem one_cell64 (n : Int) : ∀ u ∈ [Value.int .i64 n], u.oneCell' = true := by intro u hu; simp at hu; subst hu; rfl
theorem one_cellS (s : ByteArray) : ∀ u ∈ [Value.string s], u.oneCell' = true := by intro u hu; simp at hu; subst hu; rfl

theorem extract_high (s : ByteArray) (k : Nat) : s.extract k s.size = ⟨(s.data.toList.drop k).toArray⟩ := by
  apply ByteArray.ext
  apply Array.toList_inj.1
  simp only [ByteArray.data_extract, Array.toList_extract, List.extract_eq_take_drop]
  exact List.take_of_length_le (by simp)
theorem drop_ne {s : ByteArray} {pos : Nat} (h : pos < s.size) : s.data.toList.drop pos ≠ [] := by
  intro e
  have := congrArg List.length e
  rw [List.length_drop, size_len] at this
  simp at this
  omega
theorem drop_nil {s : ByteArray} {pos : Nat} (h : ¬ pos < s.size) : s.data.toList.drop pos = [] := List.drop_eq_nil_of_le (by rw [size_len]; omega)

/-- Where a walk through the characters stands: those that were told, what is still to read. -/
def runesAt (l : List UInt8) (pos : Nat) (acc : List Nat) : Prop := pos ≤ l.length ∧ acc.length ≤ pos ∧ Nm.runes l = (Nm.runes (l.drop pos)).map (acc ++ ·)
theorem runesAt_zero (l : List UInt8) : runesAt l 0 [] := ⟨by omega, by simp, by simp⟩
theorem runesAt_step {l : List UInt8} {pos : Nat} {acc : List Nat} (h : runesAt l pos acc) (hne : l.drop pos ≠ []) (hb : Nm.isBad (l.drop pos) = false) :
    runesAt l (pos + (Lib.decodeL (l.drop pos)).2) (acc ++ [(Lib.decodeL (l.drop pos)).1]) := by
  have h1 := Lib.decodeL_le _ hne
  have h2 := Lib.decodeL_width (l.drop pos)
  rw [List.length_drop] at h1
  refine ⟨by have := h.1; omega, by have := h.2.1; simp; omega, ?_⟩
  rw [h.2.2, Nm.runes_step hne hb, Nm.drop_rest]
  cases Nm.runes (l.drop (pos + (Lib.decodeL (l.drop pos)).2)) <;> simp
theorem runesAt_bad {l : List UInt8} {pos : Nat} {acc : List Nat} (h : runesAt l pos acc) (hne : l.drop pos ≠ []) (hb : Nm.isBad (l.drop pos) = true) : Nm.runes l = none := by
  rw [h.2.2, Nm.runes_bad hne hb]; rfl
theorem runesAt_end {l : List UInt8} {pos : Nat} {acc : List Nat} (h : runesAt l pos acc) (hn : l.drop pos = []) : Nm.runes l = some acc := by
  rw [h.2.2, hn, Nm.runes_nil]; simp

/-- What the two tell. -/
def runesL (l : List UInt8) : List Nat := (Nm.runes l).getD []
def runesOk (l : List UInt8) : Bool := (Nm.runes l).isSome
theorem runesL_none {l : List UInt8} (h : Nm.runes l = none) : runesL l = [] ∧ runesOk l = false := by simp [runesL, runesOk, h]
theorem runesL_some {l : List UInt8} {acc : List Nat} (h : Nm.runes l = some acc) : runesL l = acc ∧ runesOk l = true := by simp [runesL, runesOk, h]
theorem ret_two {v : Value} {a b : Bool} (h : a = b) : Ending.returned (.tuple #[v, .bool a]) = .returned (.tuple #[v, .bool b]) := by rw [h]

theorem extract_size (s : ByteArray) (k : Nat) : (s.extract k s.size).size = s.size - k := by simp
theorem charL_drop {s : ByteArray} {pos : Nat} (hp : pos < s.size) (hb : Nm.isBad (s.data.toList.drop pos) = false) : Nm.charL (s.data.toList.drop pos) = Utf8.decode s pos := by
  rw [Nm.charL_good (drop_ne hp) hb, Lib.decodeL_drop]
/-- 'Char' of what stands from a place on. -/
theorem charAt_good {s : ByteArray} {pos : Nat} (hs : s.size ≤ 2000000) (hp : pos < s.size) (hb : Nm.isBad (s.data.toList.drop pos) = false) (w0 : World) :
    Calls Tryz.prog 191 #[.string (s.extract pos s.size)] w0 fun e w' => e = .returned (.tuple #[.int .i64 ((Utf8.decode s pos).1 : Nat), .int .i64 ((Utf8.decode s pos).2 : Nat)]) ∧ w' = w0 := by
  have h := char_any (s.extract pos s.size) w0 (by rw [extract_size s pos]; unfold maxLen; omega)
  have e1 : charV (s.extract pos s.size).data.toList = .tuple #[.int .i64 ((Utf8.decode s pos).1 : Nat), .int .i64 ((Utf8.decode s pos).2 : Nat)] := by
    rw [extract_high]
    simp only [charV]
    rw [charL_drop hp hb]
  rw [e1] at h
  exact h
theorem charAt_bad {s : ByteArray} {pos : Nat} (hs : s.size ≤ 2000000) (hp : pos < s.size) (hb : Nm.isBad (s.data.toList.drop pos) = true) (w0 : World) :
    Calls Tryz.prog 191 #[.string (s.extract pos s.size)] w0 fun e w' => e = .returned (.tuple #[.int .i64 0, .int .i64 0]) ∧ w' = w0 := by
  have h := char_any (s.extract pos s.size) w0 (by rw [extract_size s pos]; unfold maxLen; omega)
  have e1 : charV (s.extract pos s.size).data.toList = .tuple #[.int .i64 0, .int .i64 0] := by
    rw [extract_high]
    simp only [charV]
    rw [Nm.charL_bad hb]
    rfl
  rw [e1] at h
  exact h

set_option maxRecDepth 20000 in
set_option maxHeartbeats 2000000 in
theorem refRunes_any (s : ByteArray) (w : World) (hs : s.size ≤ 2000000) :
    Calls Tryz.prog 172 #[.string s] w fun e w' => ∃ v, e = .returned (.tuple #[v, .bool (runesOk s.data.toList)]) ∧ w'.ownsRow w.heap.size 3 1 v (runesL s.data.toList).length (cells64 (runesL s.data.toList)) ∧ Below w.heap.size w w' := by
  obtain ⟨i0, hi, hz0, hz1, hz2⟩ := info_parts info3
  go_enter Tryz.func172, Tryz.ntmps172
  go_wp2
  go_loopw [4, 5] (fun v i wr => ∃ (pos : Nat) (acc : List Nat), i = .int .i64 pos ∧ wr.ownsRow w.heap.size 3 1 v acc.length (cells64 acc) ∧ Below w.heap.size w wr ∧ runesAt s.data.toList pos acc) (fun _ i _ => s.size - (intOf i).toNat)
  case atStart => exact ⟨0, [], rfl, World.ownsRow_nil _ _ _ _, Below.refl _ w, runesAt_zero _⟩
  case round =>
    obtain ⟨pos, acc, rfl, hown, hbw, hR⟩ := hrel
    have hsz := hbw.size
    have hpl := hR.1
    rw [size_len] at hpl
    have hal := hR.2.1
    by_cases hp : pos < s.size
    · have HE : Hid (s.data.toList.drop pos ≠ []) := drop_ne hp
      have HD : Hid (Lib.decodeL (s.data.toList.drop pos) = Utf8.decode s pos) := Lib.decodeL_drop s pos
      have hd1 := decode_le s pos
      have hwd : 1 ≤ (Utf8.decode s pos).2 := by rw [← HD.out]; exact Lib.decodeL_width _
      have hwe : (Utf8.decode s pos).2 ≤ s.size - pos := by
        have h := Lib.decodeL_le _ HE.out
        rw [HD.out, List.length_drop, size_len] at h
        exact h
      by_cases hb : Nm.isBad (s.data.toList.drop pos) = true
      · have HL : Hid (runesL s.data.toList = [] ∧ runesOk s.data.toList = false) := by
          have h := runesL_none (runesAt_bad hR HE.out hb)
          exact h
        have HC := charAt_bad hs hp hb
        clear hb
        go_wp2_with (first | (go_at_call 191; refine (HC _).mono ?_; rintro e W1 ⟨rfl, rfl⟩) | go_in)
        go_ret2
        exact ⟨_, ret_two HL.out.2.symm, by rw [HL.out.1]; exact World.ownsRow_nil _ _ _ _, hbw⟩
      · have hb' : Nm.isBad (s.data.toList.drop pos) = false := by simpa using hb
        have HC := charAt_good hs hp hb'
        have HR : Hid (runesAt s.data.toList (pos + (Utf8.decode s pos).2) (acc ++ [(Utf8.decode s pos).1])) := by
          have h := runesAt_step hR HE.out hb'
          rw [HD.out] at h
          exact h
        clear hb hb' HD
        generalize (Utf8.decode s pos).1 = c at *
        generalize (Utf8.decode s pos).2 = d at *
        go_wp2_with (first
          | (go_at_call 191; refine (HC _).mono ?_; rintro e W1 ⟨rfl, rfl⟩)
          | (at_builtin; refine wpList_append_own _ rfl _ _ 199 rfl w.heap.size 3 i0 (.int .i64 0) 1 8 Tryz.underlying199 hi hz0 hz1 hz2 rfl (by decide) _ _ _ rfl (hown.alloc _) ⟨_, 0, none⟩ 1 1 [.int .i64 (c : Int)] rfl rfl (one_new5 _ _ _) (one_cell64 _) ?c3 ?c4 ?c5 ?_)
          | go_in)
        case c3 => unfold maxLen; omega
        case c4 => omega
        case c5 => simp; omega
        intro v' w1 hown' hgrow _
        have R1 := own_below hown hsz hbw hgrow
        rw [cells64_snoc] at hown'
        clear hgrow hown
        go_wp2
        go_roundw
        case rel => exact ⟨pos + d, acc ++ [c], by go_num, by simpa using hown', R1, HR.out⟩
        case measure => simp [intOf]; omega
    · have HL : Hid (runesL s.data.toList = acc ∧ runesOk s.data.toList = true) := by
        have h := runesL_some (runesAt_end hR (drop_nil hp))
        exact h
      go_wp2
      go_ret2
      exact ⟨_, ret_two HL.out.2.symm, by rw [HL.out.1]; exact hown, hbw⟩

end Go.Proofs.YthlhopdlkkeohaaGreatDoor.U
