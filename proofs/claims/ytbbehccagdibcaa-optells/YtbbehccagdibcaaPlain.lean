/- Numbers as bytes, seven bits each, the lowest first: told, and read again. Plain mathematics; nothing of the program is named. -/
namespace Go.Proofs.Ytbbehccagdibcaa.Pk

/-- A number's bytes, so many at the most and one more. -/
def encF : Nat → Nat → List UInt8
  | 0, n => [UInt8.ofNat n]
  | k + 1, n => if n < 128 then [UInt8.ofNat n] else UInt8.ofNat (n % 128 + 128) :: encF k (n / 128)
theorem encF_small (k : Nat) {n : Nat} (h : n < 128) : encF k n = [UInt8.ofNat n] := by
  cases k with
  | zero => rfl
  | succ k => rw [encF, if_pos h]
theorem encF_big (k : Nat) {n : Nat} (h : ¬ n < 128) : encF (k + 1) n = UInt8.ofNat (n % 128 + 128) :: encF k (n / 128) := by rw [encF, if_neg h]
theorem encF_fuel (k : Nat) : ∀ (j n : Nat), n ≤ k → n ≤ j → encF k n = encF j n := by
  induction k with
  | zero => intro j n h _; rw [encF_small 0 (by omega), encF_small j (by omega)]
  | succ k ih =>
    intro j n h1 h2
    by_cases h : n < 128
    · rw [encF_small _ h, encF_small _ h]
    · obtain _ | j := j
      · omega
      · rw [encF_big k h, encF_big j h, ih j (n / 128) (by omega) (by omega)]
/-- A number's bytes. -/
def enc (n : Nat) : List UInt8 := encF n n
theorem enc_small {n : Nat} (h : n < 128) : enc n = [UInt8.ofNat n] := encF_small n h
theorem enc_big {n : Nat} (h : ¬ n < 128) : enc n = UInt8.ofNat (n % 128 + 128) :: enc (n / 128) := by
  unfold enc
  rw [encF_fuel n ((n / 128) + n) n (Nat.le_refl _) (by omega)]
  obtain ⟨k, hk⟩ : ∃ k, n / 128 + n = k + 1 := ⟨n / 128 + n - 1, by omega⟩
  rw [hk, encF_big k h, encF_fuel k (n / 128) (n / 128) (by omega) (Nat.le_refl _)]
theorem enc_pos (n : Nat) : 0 < (enc n).length := by
  by_cases h : n < 128
  · rw [enc_small h]; simp
  · rw [enc_big h]; simp
theorem enc_len (k n : Nat) (h : n < 128 ^ (k + 1)) : (enc n).length ≤ k + 1 := by
  induction k generalizing n with
  | zero => rw [enc_small (by simpa using h)]; simp
  | succ k ih =>
    by_cases h1 : n < 128
    · rw [enc_small h1]; simp
    · rw [enc_big h1]
      have h2 : n / 128 < 128 ^ (k + 1) := by
        apply Nat.div_lt_of_lt_mul
        rw [Nat.pow_succ] at h; omega
      have := ih (n / 128) h2
      simp; omega
theorem enc_len9 {n : Nat} (h : n < 9223372036854775808) : (enc n).length ≤ 9 := enc_len 8 n h
theorem enc_len8 {n : Nat} (h : n < 72057594037927936) : (enc n).length ≤ 8 := enc_len 7 n h

/-- The number that bytes tell. -/
def val : List UInt8 → Nat
  | [] => 0
  | b :: r => b.toNat % 128 + 128 * val r
theorem val_cons (b : UInt8) (r : List UInt8) : val (b :: r) = b.toNat % 128 + 128 * val r := rfl
theorem val_lt (l : List UInt8) : val l < 128 ^ l.length := by
  induction l with
  | nil => simp [val]
  | cons b r ih => rw [val_cons, List.length_cons, Nat.pow_succ]; omega

/-- Where the number's last byte stands; the length, if nowhere. -/
def last : List UInt8 → Nat
  | [] => 0
  | b :: r => if b.toNat < 128 then 0 else last r + 1
theorem last_le (l : List UInt8) : last l ≤ l.length := by
  induction l with
  | nil => simp [last]
  | cons b r ih => simp only [last, List.length_cons]; split <;> omega
/-- The first k bytes are high ones, the next is low: that is where it stands. -/
theorem last_at (l : List UInt8) (k : Nat) (h : k < l.length) (hh : ∀ j (hj : j < k), 128 ≤ (l[j]'(by omega)).toNat) (hl : l[k].toNat < 128) : last l = k := by
  induction l generalizing k with
  | nil => simp at h
  | cons b r ih =>
    cases k with
    | zero => simp only [last]; rw [if_pos (by simpa using hl)]
    | succ k =>
      have h0 := hh 0 (by omega)
      simp only [List.getElem_cons_zero] at h0
      simp only [last]; rw [if_neg (by omega)]
      have := ih k (by simpa using h) (fun j hj => by simpa using hh (j + 1) (by omega)) (by simpa using hl)
      omega
theorem last_none (l : List UInt8) (hh : ∀ j (hj : j < l.length), 128 ≤ l[j].toNat) : last l = l.length := by
  induction l with
  | nil => rfl
  | cons b r ih =>
    have h0 := hh 0 (by simp)
    simp only [List.getElem_cons_zero] at h0
    simp only [last, List.length_cons]; rw [if_neg (by omega), ih (fun j hj => by have := hh (j + 1) (by rw [List.length_cons]; omega); rwa [List.getElem_cons_succ] at this)]

/-- What is read of a text: the number, what stands behind it, what is wrong. -/
def num (l : List UInt8) : Nat × List UInt8 × Nat :=
  if last l = l.length then (0, [], 4)
  else if 8 ≤ last l then (0, [], 6)
  else if 0 < last l ∧ (l.getD (last l) 0).toNat = 0 then (0, [], 3)
  else (val (l.take (last l + 1)), l.drop (last l + 1), 0)

theorem u8_nat (k : Nat) (h : k < 256) : (UInt8.ofNat k).toNat = k := by simp; omega

theorem last_enc (n : Nat) (t : List UInt8) : last (enc n ++ t) + 1 = (enc n).length := by
  induction n using Nat.strongRecOn with
  | _ n ih =>
    by_cases h : n < 128
    · rw [enc_small h]
      simp only [List.cons_append, List.nil_append, last]
      rw [if_pos (by rw [u8_nat _ (by omega)]; omega)]; simp
    · rw [enc_big h]
      have := ih (n / 128) (by omega)
      simp only [List.cons_append, last]
      rw [if_neg (by rw [u8_nat _ (by omega)]; omega)]
      simp; omega
theorem val_enc (n : Nat) : val (enc n) = n := by
  induction n using Nat.strongRecOn with
  | _ n ih =>
    by_cases h : n < 128
    · rw [enc_small h, val_cons, u8_nat _ (by omega)]; simp [val]; omega
    · rw [enc_big h, val_cons, ih (n / 128) (by omega), u8_nat _ (by omega)]; omega
theorem enc_top (n : Nat) (t : List UInt8) (h : 1 < (enc n).length) : ((enc n ++ t).getD ((enc n).length - 1) 0).toNat ≠ 0 := by
  induction n using Nat.strongRecOn with
  | _ n ih =>
    by_cases h1 : n < 128
    · rw [enc_small h1] at h; simp at h
    · rw [enc_big h1]
      have hp := enc_pos (n / 128)
      have e : (UInt8.ofNat (n % 128 + 128) :: enc (n / 128)).length - 1 = ((enc (n / 128)).length - 1) + 1 := by simp; omega
      rw [e, List.cons_append, List.getD_cons_succ]
      by_cases h2 : 1 < (enc (n / 128)).length
      · exact ih (n / 128) (by omega) h2
      · have h3 : n / 128 < 128 := by
          apply Decidable.byContradiction; intro hc
          rw [enc_big hc] at h2
          have := enc_pos (n / 128 / 128)
          rw [List.length_cons] at h2; omega
        rw [enc_small h3]
        simp only [List.length_singleton, Nat.sub_self, List.cons_append, List.nil_append, List.getD_cons_zero]
        rw [u8_nat _ (by omega)]; omega

/-- A NUMBER IS READ AS IT WAS TOLD. -/
theorem num_enc {n : Nat} (h : n < 72057594037927936) (t : List UInt8) : num (enc n ++ t) = (n, t, 0) := by
  have hl := last_enc n t
  have h8 := enc_len8 h
  have hp := enc_pos n
  unfold num
  rw [if_neg (by rw [List.length_append]; omega), if_neg (by omega), if_neg, hl, List.take_left, List.drop_left, val_enc]
  rintro ⟨h0, h1⟩
  have e : last (enc n ++ t) = (enc n).length - 1 := by omega
  rw [e] at h1
  exact enc_top n t (by omega) h1

theorem val_pos (l : List UInt8) (h : last l < l.length) (hz : (l.getD (last l) 0).toNat ≠ 0) : 0 < val (l.take (last l + 1)) := by
  induction l with
  | nil => simp at h
  | cons b r ih =>
    by_cases hb : b.toNat < 128
    · have e : last (b :: r) = 0 := by simp only [last]; rw [if_pos hb]
      rw [e] at hz ⊢
      simp only [List.getD_cons_zero] at hz
      simp [val]; omega
    · have e : last (b :: r) = last r + 1 := by simp only [last]; rw [if_neg hb]
      rw [e] at hz h ⊢
      rw [List.getD_cons_succ] at hz
      have := ih (by simpa using h) hz
      rw [List.take_succ_cons, val_cons]; omega
theorem enc_val (l : List UInt8) (h : last l < l.length) (hz : (l.getD (last l) 0).toNat ≠ 0) : enc (val (l.take (last l + 1))) = l.take (last l + 1) := by
  induction l with
  | nil => simp at h
  | cons b r ih =>
    by_cases hb : b.toNat < 128
    · have e : last (b :: r) = 0 := by simp only [last]; rw [if_pos hb]
      rw [e]
      simp only [Nat.zero_add, List.take_succ_cons, List.take_zero, val_cons, val, Nat.mul_zero, Nat.add_zero]
      rw [Nat.mod_eq_of_lt hb, enc_small hb]
      simp
    · have e : last (b :: r) = last r + 1 := by simp only [last]; rw [if_neg hb]
      rw [e] at hz h ⊢
      rw [List.getD_cons_succ] at hz
      have h' : last r < r.length := by simpa using h
      have hv := val_pos r h' hz
      have hi := ih h' hz
      rw [List.take_succ_cons, val_cons]
      generalize val (r.take (last r + 1)) = v at hv hi ⊢
      have hbl := UInt8.toNat_lt b
      rw [enc_big (by omega)]
      have e1 : (b.toNat % 128 + 128 * v) % 128 + 128 = b.toNat := by omega
      have e2 : (b.toNat % 128 + 128 * v) / 128 = v := by omega
      rw [e1, e2, hi]; simp
theorem val_lt8 (l : List UInt8) (h : last l < 8) : val (l.take (last l + 1)) < 72057594037927936 := by
  have h1 := val_lt (l.take (last l + 1))
  have h2 : (l.take (last l + 1)).length ≤ 8 := by simp; omega
  have h3 : 128 ^ (l.take (last l + 1)).length ≤ 128 ^ 8 := Nat.pow_le_pow_right (by omega) h2
  have h4 : 128 ^ 8 = 72057594037927936 := by decide
  omega

theorem val_lt8' (l : List UInt8) (m : Nat) (h : m ≤ 8) : val (l.take m) < 72057594037927936 := by
  have h1 := val_lt (l.take m)
  have h2 : (l.take m).length ≤ 8 := by simp; omega
  have h3 : 128 ^ (l.take m).length ≤ 128 ^ 8 := Nat.pow_le_pow_right (by omega) h2
  have h4 : 128 ^ 8 = 72057594037927936 := by decide
  omega

/-- WHAT IS READ IS TOLD AS JUST THESE BYTES. -/
theorem num_once (l : List UInt8) (h : (num l).2.2 = 0) : l = enc (num l).1 ++ (num l).2.1 ∧ (num l).1 < 72057594037927936 := by
  have hle := last_le l
  unfold num at h ⊢
  by_cases h1 : last l = l.length
  · rw [if_pos h1] at h; simp at h
  rw [if_neg h1] at h ⊢
  by_cases h2 : 8 ≤ last l
  · rw [if_pos h2] at h; simp at h
  rw [if_neg h2] at h ⊢
  by_cases h3 : 0 < last l ∧ (l.getD (last l) 0).toNat = 0
  · rw [if_pos h3] at h; simp at h
  rw [if_neg h3]
  refine ⟨?_, val_lt8 l (by omega)⟩
  simp only
  by_cases hz : (l.getD (last l) 0).toNat = 0
  · have h0 : last l = 0 := by
      apply Decidable.byContradiction; intro hc
      exact h3 ⟨by omega, hz⟩
    rw [h0] at hz ⊢
    match l, h1 with
    | b :: r, _ =>
      simp only [List.getD_cons_zero] at hz
      have hb : b = 0 := UInt8.toNat_inj.1 (by simpa using hz)
      subst hb
      have : enc 0 = [0] := by rw [enc_small (by omega)]; rfl
      simp [val, this]
    | [], h1 => simp [last] at h1
  · rw [enc_val l (by omega) hz, List.take_append_drop]
theorem num_lt (l : List UInt8) : (num l).1 < 72057594037927936 := by
  by_cases h : (num l).2.2 = 0
  · exact (num_once l h).2
  · unfold num at h ⊢
    split
    · simp
    · split
      · simp
      · split
        · simp
        · rename_i a b c; rw [if_neg a, if_neg b, if_neg c] at h; simp at h
theorem num_bad (l : List UInt8) (h : ¬ (num l).2.2 = 0) : (num l).1 = 0 ∧ (num l).2.1 = [] := by
  unfold num at h ⊢
  split
  · simp
  · split
    · simp
    · split
      · simp
      · rename_i a b c; rw [if_neg a, if_neg b, if_neg c] at h; simp at h

end Go.Proofs.Ytbbehccagdibcaa.Pk
