/- Dots as plain mathematics: which are right, how they stand, their texts; a text is at most one dot's. -/
import Derived.Lib.ItoaNum
import Derived.Lib.ItoaMem
import Derived.Lib.AtoiAll
import Derived.Lib.ItoaLen
import Derived.Lib.Bytealg
import Derived.Lib.Small
namespace Go.Proofs.YthphoclfoejbfaaDoor
namespace Dt
open Go.Lib

/-- May a dot be? -/
def right (r n : Int) : Bool := decide (0 ≤ r) && decide (r < 16) && decide (1 ≤ n) && decide (n ≤ 1048576)
theorem right_iff {r n : Int} : right r n = true ↔ 0 ≤ r ∧ r < 16 ∧ 1 ≤ n ∧ n ≤ 1048576 := by simp [right, and_assoc]
/-- How two stand: by the first number, then by the second. -/
def two (x y : Int) : Int := if x = 0 then y else x
def comp (r n r' n' : Int) : Int := two (compareInt r r') (compareInt n n')
theorem compareInt_zero {x y : Int} : compareInt x y = 0 ↔ x = y := by
  unfold compareInt; constructor
  · intro h; split at h
    · cases h
    · split at h
      · cases h
      · omega
  · rintro rfl; simp
theorem compareInt_cases (x y : Int) : (x < y ∧ compareInt x y = -1) ∨ (x = y ∧ compareInt x y = 0) ∨ (y < x ∧ compareInt x y = 1) := by
  unfold compareInt
  by_cases h : x < y
  · left; exact ⟨h, if_pos h⟩
  · by_cases h' : y < x
    · right; right; exact ⟨h', by rw [if_neg h, if_pos h']⟩
    · right; left; exact ⟨by omega, by rw [if_neg h, if_neg h']⟩
theorem comp_cases (r n r' n' : Int) : ((r < r' ∨ (r = r' ∧ n < n')) ∧ comp r n r' n' = -1) ∨ (r = r' ∧ n = n' ∧ comp r n r' n' = 0) ∨ ((r' < r ∨ (r = r' ∧ n' < n)) ∧ comp r n r' n' = 1) := by
  unfold comp two
  rcases compareInt_cases r r' with ⟨h, e⟩ | ⟨h, e⟩ | ⟨h, e⟩ <;> rw [e]
  · left; exact ⟨.inl h, by simp⟩
  · rcases compareInt_cases n n' with ⟨h2, e2⟩ | ⟨h2, e2⟩ | ⟨h2, e2⟩ <;> rw [e2]
    · left; exact ⟨.inr ⟨h, h2⟩, by simp⟩
    · right; left; exact ⟨h, h2, by simp⟩
    · right; right; exact ⟨.inr ⟨h, h2⟩, by simp⟩
  · right; right; exact ⟨.inl h, by simp⟩

/-- A dot's text. -/
def text (r n : Int) : List UInt8 := itoa r ++ 46 :: itoa n

theorem dig_toNat {k : Nat} (h : k < 10) : (UInt8.ofNat (48 + k)).toNat = 48 + k := by
  simp; omega
theorem dec_digit (u : Nat) : ∀ c ∈ decDigits u, 48 ≤ c.toNat ∧ c.toNat ≤ 57 := by
  induction u using Nat.strongRecOn with
  | _ u ih =>
    intro c hc
    by_cases h : u < 10
    · rw [decDigits_one h] at hc
      simp only [List.mem_singleton] at hc
      subst hc
      rw [dig_toNat h]; omega
    · rw [decDigits, dif_neg h] at hc
      rcases List.mem_append.1 hc with hc | hc
      · exact ih (u / 10) (by omega) c hc
      · simp only [List.mem_singleton] at hc
        subst hc
        rw [dig_toNat (by omega)]; omega
theorem dec_ne (u : Nat) : decDigits u ≠ [] := by
  intro h
  have := decDigits_length u
  have := nDigits_pos u
  rw [h] at *; simp at *; omega
theorem dec_no_point {u : Nat} {c : UInt8} (hc : c ∈ decDigits u) : c ≠ 46 := by
  rintro rfl
  have := dec_digit u _ hc
  have e : (46 : UInt8).toNat = 46 := rfl
  omega

/-- What digits tell: as both parsers reckon. -/
def dval (l : List UInt8) : Nat := l.foldl (fun a c => 10 * a + (c.toNat - 48)) 0
theorem dval_snoc (l : List UInt8) (c : UInt8) : dval (l ++ [c]) = 10 * dval l + (c.toNat - 48) := by simp [dval]
theorem dval_dec (u : Nat) : dval (decDigits u) = u := by
  induction u using Nat.strongRecOn with
  | _ u ih =>
    by_cases h : u < 10
    · rw [decDigits_one h]
      show 10 * 0 + ((UInt8.ofNat (48 + u)).toNat - 48) = u
      rw [dig_toNat h]; omega
    · rw [decDigits, dif_neg h, dval_snoc, ih (u / 10) (by omega), dig_toNat (by omega)]; omega
theorem dec_inj {u v : Nat} (h : decDigits u = decDigits v) : u = v := by rw [← dval_dec u, ← dval_dec v, h]
theorem dval_go : ∀ (l : List UInt8) (a : Nat), (∀ c ∈ l, c.toNat ≤ 57) → l.foldl (fun a c => 10 * a + (c.toNat - 48)) a < (a + 1) * 10 ^ l.length
  | [], a, _ => by simp
  | c :: l, a, h => by
    have h1 := dval_go l (10 * a + (c.toNat - 48)) (fun x hx => h x (by simp [hx]))
    have h2 := h c (by simp)
    have h3 : (10 * a + (c.toNat - 48) + 1) * 10 ^ l.length ≤ (10 * (a + 1)) * 10 ^ l.length := Nat.mul_le_mul_right _ (by omega)
    rw [List.foldl_cons, List.length_cons, Nat.pow_succ, Nat.mul_comm (10 ^ l.length) 10, ← Nat.mul_assoc, Nat.mul_comm (a + 1) 10]
    omega
theorem dval_lt (l : List UInt8) (h : ∀ c ∈ l, c.toNat ≤ 57) : dval l < 10 ^ l.length := by
  have := dval_go l 0 h; simpa [dval] using this

/-- The library's parser reads them back. -/
theorem parse_dec (u : Nat) (hu : u < 18446744073709551616) : ∀ r, parseUint10 0 (decDigits u ++ r) = parseUint10 u r := by
  induction u using Nat.strongRecOn with
  | _ u ih =>
    intro r
    by_cases h : u < 10
    · rw [decDigits_one h]
      simp only [List.singleton_append, parseUint10]
      rw [dig_toNat h, if_pos (by omega), if_neg (by omega), if_neg (by omega)]
      congr 1; omega
    · rw [decDigits, dif_neg h, List.append_assoc, ih (u / 10) (by omega) (by omega)]
      simp only [List.singleton_append, parseUint10]
      rw [dig_toNat (by omega), if_pos (by omega), if_neg (by omega), if_neg (by omega)]
      congr 1; omega
theorem atoi_dec (u : Nat) (hu : u < 9223372036854775808) : atoiAll (decDigits u) = .ok (u : Int) := by
  have hm : parseMag (decDigits u) = .ok u := by
    unfold parseMag
    rw [if_neg (dec_ne u)]
    have := parse_dec u (by omega) []
    rw [List.append_nil] at this
    rw [this]; rfl
  cases hd : decDigits u with
  | nil => exact absurd hd (dec_ne u)
  | cons c r =>
    have hc := dec_digit u c (by rw [hd]; simp)
    rw [hd] at hm
    unfold atoiAll
    simp only
    rw [if_neg (by omega), hm]
    simp only
    rw [if_neg (by omega), if_neg (by omega), if_neg (by omega)]

/-- A text is parted in one way at its first point. -/
theorem part_point : ∀ {a b x y : List UInt8}, (∀ c ∈ a, c ≠ 46) → (∀ c ∈ b, c ≠ 46) → a ++ 46 :: x = b ++ 46 :: y → a = b ∧ x = y
  | [], [], _, _, _, _, h => ⟨rfl, by simpa using h⟩
  | [], c :: b, _, _, _, hb, h => by simp only [List.nil_append, List.cons_append, List.cons.injEq] at h; exact absurd h.1.symm (hb c (by simp))
  | c :: a, [], _, _, ha, _, h => by simp only [List.nil_append, List.cons_append, List.cons.injEq] at h; exact absurd h.1 (ha c (by simp))
  | c :: a, d :: b, x, y, ha, hb, h => by
    simp only [List.cons_append, List.cons.injEq] at h
    have := part_point (fun z hz => ha z (by simp [hz])) (fun z hz => hb z (by simp [hz])) h.2
    exact ⟨by rw [h.1, this.1], this.2⟩
theorem text_nat (r n : Nat) : text (r : Int) (n : Int) = decDigits r ++ 46 :: decDigits n := by
  unfold text; rw [itoa_nonneg, itoa_nonneg]
theorem text_inj {r n r' n' : Nat} (h : text (r : Int) (n : Int) = text (r' : Int) (n' : Int)) : r = r' ∧ n = n' := by
  rw [text_nat, text_nat] at h
  have := part_point (fun c hc => dec_no_point hc) (fun c hc => dec_no_point hc) h
  exact ⟨dec_inj this.1, dec_inj this.2⟩
/-- Where the first point stands. -/
theorem index_point : ∀ (a x : List UInt8), (∀ c ∈ a, c ≠ 46) → indexByte (a ++ 46 :: x) 46 = (a.length : Int)
  | [], x, _ => by simp [indexByte]
  | c :: a, x, h => by
    have := index_point a x (fun z hz => h z (by simp [hz]))
    have hc : c ≠ 46 := h c (by simp)
    simp only [List.cons_append, indexByte, this]
    simp [hc]

/-- Of a text: the right dot that is told so, or there is none. -/
def isDot (l : List UInt8) (r n : Int) : Prop := right r n = true ∧ text r n = l
def noDot (l : List UInt8) : Prop := ∀ r n : Int, right r n = true → text r n ≠ l
theorem isDot_one {l : List UInt8} {r n r' n' : Int} (h : isDot l r n) (h' : isDot l r' n') : r = r' ∧ n = n' := by
  obtain ⟨h1, h2⟩ := h; obtain ⟨h3, h4⟩ := h'
  rw [right_iff] at h1 h3
  obtain ⟨a, rfl⟩ := Int.eq_ofNat_of_zero_le h1.1
  obtain ⟨b, rfl⟩ := Int.eq_ofNat_of_zero_le (show 0 ≤ n by omega)
  obtain ⟨c, rfl⟩ := Int.eq_ofNat_of_zero_le h3.1
  obtain ⟨d, rfl⟩ := Int.eq_ofNat_of_zero_le (show 0 ≤ n' by omega)
  have := text_inj (h2.trans h4.symm)
  omega
theorem text_len (r n : Int) (h0 : -9223372036854775808 ≤ r) (h1 : r ≤ 9223372036854775807) (h2 : -9223372036854775808 ≤ n) (h3 : n ≤ 9223372036854775807) : (text r n).length ≤ 43 := by
  have := itoa_length_le r h0 h1
  have := itoa_length_le n h2 h3
  simp only [text, List.length_append, List.length_cons]; omega
end Dt
end Go.Proofs.YthphoclfoejbfaaDoor
