/- The walk of the document's number. -/
import Derived.Test.YthphoclfoejbfaaDoorSteps
namespace Go.Proofs.YthphoclfoejbfaaDoor
open Go.RowKit

/-- All of these are digits. -/
def digs (l : List UInt8) : Prop := ∀ c ∈ l, 48 ≤ c.toNat ∧ c.toNat ≤ 57
/-- How far the digits have been read. -/
def readTo (rest : List UInt8) (j m : Nat) : Prop := j ≤ rest.length ∧ digs (rest.take j) ∧ m = Dt.dval (rest.take j)
theorem readTo_zero (rest : List UInt8) : readTo rest 0 0 := ⟨Nat.zero_le _, by simp [digs], by simp [Dt.dval]⟩
theorem readTo_lt {rest : List UInt8} {j m : Nat} (h : readTo rest j m) (hr : rest.length ≤ 10) : m < 10000000000 := by
  obtain ⟨h1, h2, rfl⟩ := h
  have := Dt.dval_lt (rest.take j) (fun c hc => (h2 c hc).2)
  have h3 : 10 ^ (rest.take j).length ≤ 10 ^ 10 := Nat.pow_le_pow_right (by omega) (by simp; omega)
  omega
theorem readTo_succ {rest : List UInt8} {j m : Nat} (h : readTo rest j m) (hj : j < rest.length) (h48 : 48 ≤ rest[j].toNat) (h57 : rest[j].toNat ≤ 57) : readTo rest (j + 1) (10 * m + (rest[j].toNat - 48)) := by
  obtain ⟨h1, h2, rfl⟩ := h
  have e : rest.take (j + 1) = rest.take j ++ [rest[j]] := by rw [List.take_add_one, List.getElem?_eq_getElem hj]; rfl
  refine ⟨hj, ?_, by rw [e, Dt.dval_snoc]⟩
  rw [e]
  intro c hc
  rcases List.mem_append.1 hc with hc | hc
  · exact h2 c hc
  · simp only [List.mem_singleton] at hc; subst hc; exact ⟨h48, h57⟩
theorem readTo_bad {rest : List UInt8} {j : Nat} (hj : j < rest.length) (h : ¬ (48 ≤ rest[j].toNat ∧ rest[j].toNat ≤ 57)) : ¬ digs rest := fun hd => h (hd _ (List.getElem_mem hj))
theorem readTo_all {rest : List UInt8} {m : Nat} (h : readTo rest rest.length m) : m = Dt.dval rest := by obtain ⟨_, _, e⟩ := h; rwa [List.take_length] at e

theorem nDig10 {n : Nat} (h : n ≤ 2147483647) : Lib.nDigits n ≤ 10 := by
  by_cases h0 : n = 0
  · subst h0; rw [Lib.nDigits_small (by omega)]; omega
  · have key : ∀ k, k ≤ 9 → 10 ^ k ≤ n → n < 10 ^ (k + 1) → Lib.nDigits n ≤ 10 := fun k hk h1 h2 => by rw [Lib.nDigits_unique k n h1 h2]; omega
    by_cases h1 : n < 10
    · exact key 0 (by omega) (by omega) (by omega)
    by_cases h2 : n < 100
    · exact key 1 (by omega) (by omega) (by omega)
    by_cases h3 : n < 1000
    · exact key 2 (by omega) (by omega) (by omega)
    by_cases h4 : n < 10000
    · exact key 3 (by omega) (by omega) (by omega)
    by_cases h5 : n < 100000
    · exact key 4 (by omega) (by omega) (by omega)
    by_cases h6 : n < 1000000
    · exact key 5 (by omega) (by omega) (by omega)
    by_cases h7 : n < 10000000
    · exact key 6 (by omega) (by omega) (by omega)
    by_cases h8 : n < 100000000
    · exact key 7 (by omega) (by omega) (by omega)
    by_cases h9 : n < 1000000000
    · exact key 8 (by omega) (by omega) (by omega)
    exact key 9 (by omega) (by omega) (by omega)
theorem dec_len10 {n : Nat} (h : n ≤ 2147483647) : 1 ≤ (Lib.decDigits n).length ∧ (Lib.decDigits n).length ≤ 10 := by
  rw [Lib.decDigits_length]; exact ⟨Lib.nDigits_pos n, nDig10 h⟩
/-- Of how many bytes the sign is. -/
def signL (l : List UInt8) : Nat := if l.head? = some 45 then 1 else 0
/-- A right number's text: a sign or none, then its digits. -/
theorem itoa_parts {n : Int} (h1 : -2147483647 ≤ n) (h2 : n ≤ 2147483647) : ∃ a : Nat, a ≤ 2147483647 ∧ (Lib.itoa n).drop (signL (Lib.itoa n)) = Lib.decDigits a ∧ n = (if signL (Lib.itoa n) = 1 then -(a : Int) else (a : Int)) := by
  by_cases hn : 0 ≤ n
  · obtain ⟨a, rfl⟩ := Int.eq_ofNat_of_zero_le hn
    have hs : signL (Lib.itoa (a : Int)) = 0 := by
      unfold signL
      rw [if_neg]
      rw [Lib.itoa_nonneg]
      intro e
      have := Dt.dec_digit a 45 (List.mem_of_mem_head? e)
      have e4 : (45 : UInt8).toNat = 45 := rfl
      omega
    refine ⟨a, by omega, ?_, ?_⟩
    · rw [hs, Lib.itoa_nonneg]; rfl
    · rw [hs]; simp
  · obtain ⟨a, rfl⟩ : ∃ a : Nat, n = -(a : Int) := ⟨n.natAbs, by omega⟩
    have hs : signL (Lib.itoa (-(a : Int))) = 1 := by
      unfold signL
      rw [if_pos]
      rw [Lib.itoa_neg a (by omega)]; rfl
    refine ⟨a, by omega, ?_, ?_⟩
    · rw [hs, Lib.itoa_neg a (by omega)]; rfl
    · rw [hs]; simp
/-- What the document's number tells: if it is so, it is told so; a right number that is told so is this one. -/
def NumTold (l : List UInt8) (m : Int) (ok : Bool) : Prop := (-9223372036854775808 ≤ m ∧ m ≤ 9223372036854775807) ∧ (ok = true → Lib.itoa m = l) ∧ ∀ n, -2147483647 ≤ n → n ≤ 2147483647 → Lib.itoa n = l → m = n ∧ ok = true
theorem told_short {l : List UInt8} (h : l.length = signL l ∨ signL l + 10 < l.length) : NumTold l 0 false := by
  refine ⟨by omega, (fun h => by cases h), ?_⟩
  rintro n h1 h2 rfl
  obtain ⟨a, h3, h4, _⟩ := itoa_parts h1 h2
  have h5 := dec_len10 h3
  have h6 := congrArg List.length h4
  rw [List.length_drop] at h6
  omega
theorem told_bad {l : List UInt8} (h : ¬ digs (l.drop (signL l))) : NumTold l 0 false := by
  refine ⟨by omega, (fun h => by cases h), ?_⟩
  rintro n h1 h2 rfl
  obtain ⟨a, h3, h4, _⟩ := itoa_parts h1 h2
  exact absurd (h4 ▸ fun c hc => Dt.dec_digit a c hc) h
theorem told_all {l : List UInt8} (h : Dt.dval (l.drop (signL l)) < 10000000000) : NumTold l (if signL l = 1 then -(Dt.dval (l.drop (signL l)) : Int) else (Dt.dval (l.drop (signL l)) : Int)) (decide (Lib.itoa (if signL l = 1 then -(Dt.dval (l.drop (signL l)) : Int) else (Dt.dval (l.drop (signL l)) : Int)) = l)) := by
  refine ⟨by split <;> omega, fun h => of_decide_eq_true h, ?_⟩
  rintro n h1 h2 rfl
  obtain ⟨a, h3, h4, h5⟩ := itoa_parts h1 h2
  rw [h4, Dt.dval_dec, ← h5]
  exact ⟨rfl, by simp⟩
theorem signL_le (l : List UInt8) : signL l ≤ l.length := by
  unfold signL; split
  · cases l with
    | nil => simp_all
    | cons => simp
  · omega

/-- How far the digits of a text have been read, from a place on. -/
def rdTo (s : ByteArray) (f p m : Nat) : Prop := f ≤ p ∧ p ≤ s.size ∧ readTo (s.data.toList.drop f) (p - f) m
theorem rdTo_zero (s : ByteArray) (f : Nat) (h : f ≤ s.size) : rdTo s f f 0 := ⟨Nat.le_refl _, h, by rw [Nat.sub_self]; exact readTo_zero _⟩
theorem at_drop (s : ByteArray) {f p : Nat} (hf : f ≤ p) (hp : p < s.size) : p - f < (s.data.toList.drop f).length ∧ ∀ h : p - f < (s.data.toList.drop f).length, (s.data.toList.drop f)[p - f] = s[p] := by
  have h0 : p - f < (s.data.toList.drop f).length := by rw [List.length_drop, size_len]; omega
  refine ⟨h0, fun h => ?_⟩
  rw [List.getElem_drop]
  have e : f + (p - f) = p := by omega
  simp only [e]
  rfl
theorem rdTo_succ {s : ByteArray} {f p m : Nat} (h : rdTo s f p m) (hp : p < s.size) (h48 : 48 ≤ s[p].toNat) (h57 : s[p].toNat ≤ 57) : rdTo s f (p + 1) (10 * m + (s[p].toNat - 48)) := by
  obtain ⟨h1, h2, h3⟩ := h
  obtain ⟨h4, h5⟩ := at_drop s h1 hp
  refine ⟨by omega, by omega, ?_⟩
  rw [show p + 1 - f = p - f + 1 by omega]
  have := readTo_succ h3 h4 (by rw [h5]; exact h48) (by rw [h5]; exact h57)
  rw [h5] at this
  exact this
theorem rdTo_bad {s : ByteArray} {f p : Nat} (hf : f ≤ p) (hp : p < s.size) (h : ¬ (48 ≤ s[p].toNat ∧ s[p].toNat ≤ 57)) : ¬ digs (s.data.toList.drop f) := by
  obtain ⟨h4, h5⟩ := at_drop s hf hp
  exact readTo_bad h4 (by rw [h5]; exact h)
theorem rdTo_lt {s : ByteArray} {f p m : Nat} (h : rdTo s f p m) (hs : s.size ≤ f + 10) : m < 10000000000 := readTo_lt h.2.2 (by rw [List.length_drop, size_len]; omega)
theorem rdTo_end {s : ByteArray} {f p m : Nat} (h : rdTo s f p m) (hp : ¬ p < s.size) : m = Dt.dval (s.data.toList.drop f) := by
  obtain ⟨h1, h2, h3⟩ := h
  have e : p - f = (s.data.toList.drop f).length := by rw [List.length_drop, size_len]; omega
  rw [e] at h3
  exact readTo_all h3
theorem sign_yes {s : ByteArray} (h : 0 < s.size) (h45 : s[0].toNat = 45) : signL s.data.toList = 1 := by
  have h1 : s.data.toList = s[0] :: s.data.toList.drop 1 := by
    have := List.drop_eq_getElem_cons (l := s.data.toList) (i := 0) (by rw [size_len]; exact h)
    rw [List.drop_zero] at this
    exact this
  unfold signL
  rw [h1, if_pos]
  rw [List.head?_cons, show s[0] = 45 from UInt8.toNat_inj.1 h45]
theorem sign_no {s : ByteArray} (h : 0 < s.size) (h45 : s[0].toNat ≠ 45) : signL s.data.toList = 0 := by
  have h1 : s.data.toList = s[0] :: s.data.toList.drop 1 := by
    have := List.drop_eq_getElem_cons (l := s.data.toList) (i := 0) (by rw [size_len]; exact h)
    rw [List.drop_zero] at this
    exact this
  unfold signL
  rw [h1, if_neg]
  rw [List.head?_cons]
  intro e
  simp only [Option.some.injEq] at e
  exact h45 (by rw [e]; rfl)
theorem sign_nil {s : ByteArray} (h : s.size = 0) : signL s.data.toList = 0 := by
  have : s.data.toList = [] := List.eq_nil_of_length_eq_zero (by rw [size_len]; exact h)
  rw [this]; rfl
/-- What the document's number hands back. -/
def NumEnds (l : List UInt8) (e : Ending) : Prop := ∃ (m : Int) (ok : Bool), e = .returned (.tuple #[.int .i64 m, .bool ok]) ∧ NumTold l m ok
theorem eq_list (x : List UInt8) (s : ByteArray) : (x == s.toList) = decide (x = s.data.toList) := by
  rw [Lib.toList_data, Bool.eq_iff_iff]; simp

set_option maxRecDepth 20000 in
set_option maxHeartbeats 4000000 in
theorem refNumber_any (s : ByteArray) (w : World) (hs : s.size ≤ 2000000) :
    Calls Tryd.prog 42 #[.string s] w fun e w' => NumEnds s.data.toList e ∧ Below w.heap.size w w' := by
  by_cases h0 : s.size = 0
  · have HT : Hid (NumTold s.data.toList 0 false) := by
      have h := told_short (l := s.data.toList) (.inl (by rw [size_len, sign_nil h0]; exact h0))
      exact h
    have h0' : ¬ (0 : Int) < (s.size : Int) := by omega
    have h0e : ((s.size : Int) == 0) = true := by rw [h0]; rfl
    go_enter Tryd.func42, Tryd.ntmps42
    go_wp2
    go_ret2
    exact ⟨⟨_, _, rfl, HT.out⟩, Below.refl _ _⟩
  have h0' : (0 : Int) < (s.size : Int) := by omega
  have h0n : 0 < s.size := by omega
  by_cases h45 : s[0].toNat = 45
  · have hsg := sign_yes h0n h45
    have T := told_all (l := s.data.toList)
    rw [hsg] at T
    have e45 : ((s[0].toNat : Int) == 45) = true := by rw [h45]; rfl
    by_cases h1 : s.size = 1 ∨ 11 < s.size
    · have HT : Hid (NumTold s.data.toList 0 false) := by
        have h := told_short (l := s.data.toList) (by rw [size_len, hsg]; omega)
        exact h
      have D : ((s.size : Int) == 1) = true ∨ (((s.size : Int) == 1) = false ∧ (11 : Int) < (s.size : Int)) := by
        by_cases e : s.size = 1
        · left; rw [e]; rfl
        · right; exact ⟨beq_eq_false_iff_ne.2 (by omega), by omega⟩
      clear h1 T
      rcases D with d1 | ⟨d1, d2⟩
      all_goals
        go_enter Tryd.func42, Tryd.ntmps42
        go_wp2
        go_ret2
        exact ⟨⟨_, _, rfl, HT.out⟩, Below.refl _ _⟩
    · have d1 : ((s.size : Int) == 1) = false := beq_eq_false_iff_ne.2 (by omega)
      have d2 : ¬ (11 : Int) < (s.size : Int) := by omega
      have HB : Hid (∀ p, 1 ≤ p → (hp : p < s.size) → ¬ (48 ≤ s[p].toNat ∧ s[p].toNat ≤ 57) → NumTold s.data.toList 0 false) := by
        have h : ∀ p, 1 ≤ p → (hp : p < s.size) → ¬ (48 ≤ s[p].toNat ∧ s[p].toNat ≤ 57) → NumTold s.data.toList 0 false := fun p h2 hp h3 => told_bad (by rw [hsg]; exact rdTo_bad h2 hp h3)
        exact h
      have HT : Hid (∀ p m, rdTo s 1 p m → ¬ p < s.size → NumTold s.data.toList (-(m : Int)) (decide (Lib.itoa (-(m : Int)) = s.data.toList))) := by
        have h : ∀ p m, rdTo s 1 p m → ¬ p < s.size → NumTold s.data.toList (-(m : Int)) (decide (Lib.itoa (-(m : Int)) = s.data.toList)) := fun p m hR hp => by
          have hm := rdTo_end hR hp
          have hlt := rdTo_lt hR (by omega)
          rw [hm] at hlt ⊢
          have := T hlt
          simpa using this
        exact h
      clear T hsg
      have hfs : 1 ≤ s.size := by omega
      go_enter Tryd.func42, Tryd.ntmps42
      go_wp2
      go_loop [6, 7] (fun n i => ∃ p m : Nat, n = .int .i64 (m : Int) ∧ i = .int .i64 (p : Int) ∧ rdTo s 1 p m) (fun _ i => s.size - (intOf i).toNat)
      case atStart => exact ⟨1, 0, rfl, rfl, rdTo_zero s 1 hfs⟩
      case round =>
        obtain ⟨p, m, rfl, rfl, hR⟩ := hrel
        have hp1 := hR.1
        have hp2 := hR.2.1
        have hm := rdTo_lt hR (by omega)
        by_cases hp : p < s.size
        · have hu := s[p].toNat_lt
          by_cases h48 : s[p].toNat < 48
          · have HE : Hid (NumTold s.data.toList 0 false) := by
              have h := HB.out p hp1 hp (by omega)
              exact h
            have e48 : (s[p].toNat : Int) < 48 := by omega
            clear hR
            go_wp2
            go_ret2
            exact ⟨⟨_, _, rfl, HE.out⟩, Below.refl _ _⟩
          · by_cases h57 : 57 < s[p].toNat
            · have HE : Hid (NumTold s.data.toList 0 false) := by
                have h := HB.out p hp1 hp (by omega)
                exact h
              have e48 : ¬ (s[p].toNat : Int) < 48 := by omega
              have e57 : (57 : Int) < (s[p].toNat : Int) := by omega
              clear hR
              go_wp2
              go_ret2
              exact ⟨⟨_, _, rfl, HE.out⟩, Below.refl _ _⟩
            · have HR : Hid (rdTo s 1 (p + 1) (10 * m + (s[p].toNat - 48))) := by
                have h := rdTo_succ hR hp (by omega) (by omega)
                exact h
              have e48 : ¬ (s[p].toNat : Int) < 48 := by omega
              have e57 : ¬ (57 : Int) < (s[p].toNat : Int) := by omega
              clear hR
              go_wp2
              go_round
              case rel => exact ⟨p + 1, _, by go_num, by go_num, HR.out⟩
              case measure => simp [intOf]; omega
        · have HE : Hid (NumTold s.data.toList (-(m : Int)) (decide (Lib.itoa (-(m : Int)) = s.data.toList))) := by
            have h := HT.out p m hR hp
            exact h
          clear hR
          have C35 := fun w => digits_any (-(m : Int)) w (by omega) (by omega)
          have hq := eq_list (Lib.itoa (-(m : Int))) s
          generalize Lib.itoa (-(m : Int)) = it at *
          go_wp2_with (go_at_call 35; refine (C35 _).mono ?_; rintro e w1 ⟨rfl, hb⟩)
          go_ret2
          exact ⟨⟨_, _, rfl, HE.out⟩, hb⟩
  · have hsg := sign_no h0n h45
    have T := told_all (l := s.data.toList)
    rw [hsg] at T
    have e45 : ((s[0].toNat : Int) == 45) = false := beq_eq_false_iff_ne.2 (by omega)
    by_cases h1 : s.size = 0 ∨ 10 < s.size
    · have HT : Hid (NumTold s.data.toList 0 false) := by
        have h := told_short (l := s.data.toList) (by rw [size_len, hsg]; omega)
        exact h
      have D : ((s.size : Int) == 0) = true ∨ (((s.size : Int) == 0) = false ∧ (10 : Int) < (s.size : Int)) := by
        by_cases e : s.size = 0
        · left; rw [e]; rfl
        · right; exact ⟨beq_eq_false_iff_ne.2 (by omega), by omega⟩
      clear h1 T
      rcases D with d1 | ⟨d1, d2⟩
      all_goals
        go_enter Tryd.func42, Tryd.ntmps42
        go_wp2
        go_ret2
        exact ⟨⟨_, _, rfl, HT.out⟩, Below.refl _ _⟩
    · have d1 : ((s.size : Int) == 0) = false := beq_eq_false_iff_ne.2 (by omega)
      have d2 : ¬ (10 : Int) < (s.size : Int) := by omega
      have HB : Hid (∀ p, 0 ≤ p → (hp : p < s.size) → ¬ (48 ≤ s[p].toNat ∧ s[p].toNat ≤ 57) → NumTold s.data.toList 0 false) := by
        have h : ∀ p, 0 ≤ p → (hp : p < s.size) → ¬ (48 ≤ s[p].toNat ∧ s[p].toNat ≤ 57) → NumTold s.data.toList 0 false := fun p h2 hp h3 => told_bad (by rw [hsg]; exact rdTo_bad h2 hp h3)
        exact h
      have HT : Hid (∀ p m, rdTo s 0 p m → ¬ p < s.size → NumTold s.data.toList ((m : Int)) (decide (Lib.itoa ((m : Int)) = s.data.toList))) := by
        have h : ∀ p m, rdTo s 0 p m → ¬ p < s.size → NumTold s.data.toList ((m : Int)) (decide (Lib.itoa ((m : Int)) = s.data.toList)) := fun p m hR hp => by
          have hm := rdTo_end hR hp
          have hlt := rdTo_lt hR (by omega)
          rw [hm] at hlt ⊢
          have := T hlt
          simpa using this
        exact h
      clear T hsg
      have hfs : 0 ≤ s.size := by omega
      go_enter Tryd.func42, Tryd.ntmps42
      go_wp2
      go_loop [6, 7] (fun n i => ∃ p m : Nat, n = .int .i64 (m : Int) ∧ i = .int .i64 (p : Int) ∧ rdTo s 0 p m) (fun _ i => s.size - (intOf i).toNat)
      case atStart => exact ⟨0, 0, rfl, rfl, rdTo_zero s 0 hfs⟩
      case round =>
        obtain ⟨p, m, rfl, rfl, hR⟩ := hrel
        have hp1 := hR.1
        have hp2 := hR.2.1
        have hm := rdTo_lt hR (by omega)
        by_cases hp : p < s.size
        · have hu := s[p].toNat_lt
          by_cases h48 : s[p].toNat < 48
          · have HE : Hid (NumTold s.data.toList 0 false) := by
              have h := HB.out p hp1 hp (by omega)
              exact h
            have e48 : (s[p].toNat : Int) < 48 := by omega
            clear hR
            go_wp2
            go_ret2
            exact ⟨⟨_, _, rfl, HE.out⟩, Below.refl _ _⟩
          · by_cases h57 : 57 < s[p].toNat
            · have HE : Hid (NumTold s.data.toList 0 false) := by
                have h := HB.out p hp1 hp (by omega)
                exact h
              have e48 : ¬ (s[p].toNat : Int) < 48 := by omega
              have e57 : (57 : Int) < (s[p].toNat : Int) := by omega
              clear hR
              go_wp2
              go_ret2
              exact ⟨⟨_, _, rfl, HE.out⟩, Below.refl _ _⟩
            · have HR : Hid (rdTo s 0 (p + 1) (10 * m + (s[p].toNat - 48))) := by
                have h := rdTo_succ hR hp (by omega) (by omega)
                exact h
              have e48 : ¬ (s[p].toNat : Int) < 48 := by omega
              have e57 : ¬ (57 : Int) < (s[p].toNat : Int) := by omega
              clear hR
              go_wp2
              go_round
              case rel => exact ⟨p + 1, _, by go_num, by go_num, HR.out⟩
              case measure => simp [intOf]; omega
        · have HE : Hid (NumTold s.data.toList ((m : Int)) (decide (Lib.itoa ((m : Int)) = s.data.toList))) := by
            have h := HT.out p m hR hp
            exact h
          clear hR
          have C35 := fun w => digits_any ((m : Int)) w (by omega) (by omega)
          have hq := eq_list (Lib.itoa ((m : Int))) s
          generalize Lib.itoa ((m : Int)) = it at *
          go_wp2_with (go_at_call 35; refine (C35 _).mono ?_; rintro e w1 ⟨rfl, hb⟩)
          go_ret2
          exact ⟨⟨_, _, rfl, HE.out⟩, hb⟩
end Go.Proofs.YthphoclfoejbfaaDoor
