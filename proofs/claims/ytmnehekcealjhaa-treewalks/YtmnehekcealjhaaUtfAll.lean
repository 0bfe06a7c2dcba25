/- Names of keys, as plain functions over bytes: the characters of a text, whether it is a name, the name that it is like, quoted, split; and what follows. Nothing of the program is named · Numbers as bytes, seven bits each, the lowest first: told, and read again. Plain mathematics; nothing of the program is named · Paths as plain mathematics: what is wrong with one, how two stand, whether the one begins with the other, their texts and bytes · Values as plain mathematics: which are right, what is in them, their bytes · Dots as plain mathematics: which are right, how they stand · Operations as plain mathematics: how references stand, which rise, what is wrong with an operation, its bytes. -/
import Derived.Lib.MapLaws
import Derived.Lib.Strings
import Derived.Lib.Bytealg
import Derived.Lib.Join
/- Names of keys, as plain functions over bytes: the characters of a text, whether it is a name, the name that it is like, quoted, split; and what follows. Nothing of the program is named. -/
namespace Go.Proofs.Ytmnehekcealjhaa.Nm
open Go.Lib

/-- The bytes in front are no character's. -/
def isBad (l : List UInt8) : Bool := (decodeL l).1 == 65533 && (decodeL l).2 == 1
theorem isBad_iff (l : List UInt8) : isBad l = true ↔ ((decodeL l).1 = 65533 ∧ (decodeL l).2 = 1) := by simp [isBad]
theorem not_bad {l : List UInt8} (h : isBad l = false) : ¬ ((decodeL l).1 = 65533 ∧ (decodeL l).2 = 1) := fun h1 => by rw [(isBad_iff l).2 h1] at h; cases h
theorem bad_width {l : List UInt8} (h : isBad l = true) : (decodeL l).2 = 1 := ((isBad_iff l).1 h).2
theorem bad_rune {l : List UInt8} (h : isBad l = true) : (decodeL l).1 = 65533 := ((isBad_iff l).1 h).1
theorem not_bad_of {l : List UInt8} (h : (decodeL l).1 ≠ 65533) : isBad l = false := by
  cases hb : isBad l with
  | false => rfl
  | true => exact absurd (bad_rune hb) h

theorem decodeN_one (n b0 b1 b2 b3 : Nat) (h : b0 < 128) : decodeN n b0 b1 b2 b3 = (b0, 1) := by unfold decodeN; rw [if_pos h]
theorem decodeN_two (n b0 b1 b2 b3 : Nat) (c1 : b0 / 32 = 6) (c2 : 1 < n) (c3 : b1 / 64 = 2) (cv : 128 ≤ b0 % 32 * 64 + b1 % 64) : decodeN n b0 b1 b2 b3 = (b0 % 32 * 64 + b1 % 64, 2) := by
  unfold decodeN
  rw [if_neg (by omega), if_pos ⟨c1, c2, c3⟩, if_pos cv]
theorem decodeN_three (n b0 b1 b2 b3 : Nat) (c1 : b0 / 16 = 14) (c2 : 2 < n) (c3 : b1 / 64 = 2) (c4 : b2 / 64 = 2) (cv : 2048 ≤ b0 % 16 * 4096 + b1 % 64 * 64 + b2 % 64) (cs : b0 % 16 * 4096 + b1 % 64 * 64 + b2 % 64 < 55296 ∨ 57344 ≤ b0 % 16 * 4096 + b1 % 64 * 64 + b2 % 64) :
    decodeN n b0 b1 b2 b3 = (b0 % 16 * 4096 + b1 % 64 * 64 + b2 % 64, 3) := by
  unfold decodeN
  rw [if_neg (by omega), if_neg (by omega), if_pos ⟨c1, ⟨by omega, c3⟩, c2, c4⟩, if_pos ⟨cv, by omega⟩]
theorem decodeN_four (n b0 b1 b2 b3 : Nat) (c1 : b0 / 8 = 30) (c2 : 3 < n) (c3 : b1 / 64 = 2) (c4 : b2 / 64 = 2) (c5 : b3 / 64 = 2) (cv : 65536 ≤ b0 % 8 * 262144 + b1 % 64 * 4096 + b2 % 64 * 64 + b3 % 64) (cw : b0 % 8 * 262144 + b1 % 64 * 4096 + b2 % 64 * 64 + b3 % 64 ≤ 1114111) :
    decodeN n b0 b1 b2 b3 = (b0 % 8 * 262144 + b1 % 64 * 4096 + b2 % 64 * 64 + b3 % 64, 4) := by
  unfold decodeN
  rw [if_neg (by omega), if_neg (by omega), if_neg (by omega), if_pos ⟨c1, ⟨by omega, c3⟩, ⟨by omega, c4⟩, c2, c5⟩, if_pos ⟨cv, by omega⟩]

/-- A character that stands in front is told by its own bytes, whatever stands behind them. -/
theorem decode_prefix (l : List UInt8) (hne : l ≠ []) (hb : isBad l = false) (t : List UInt8) : decodeL (l.take (decodeL l).2 ++ t) = decodeL l := by
  have hl : 0 < l.length := List.length_pos_iff.2 hne
  have hv := not_bad hb
  rw [decodeL_N l] at hv ⊢
  rcases decodeN_shape l.length (l.getD 0 0).toNat (l.getD 1 0).toNat (l.getD 2 0).toNat (l.getD 3 0).toNat with ⟨c, e⟩ | ⟨c1, c2, c3, cv, e⟩ | ⟨c1, c2, c3, c4, cv, cs, e⟩ | ⟨c1, c2, c3, c4, c5, cv, cw, e⟩ | e
  · rw [e]
    dsimp only
    rw [takeA l hl, decodeL_N]
    exact decodeN_one _ _ _ _ _ (by simpa using c)
  · rw [e]
    dsimp only
    rw [takeB l c2, decodeL_N]
    exact decodeN_two _ _ _ _ _ (by simpa using c1) (by simp) (by simpa using c3) (by simpa using cv)
  · rw [e]
    dsimp only
    rw [takeC l c2, decodeL_N]
    exact decodeN_three _ _ _ _ _ (by simpa using c1) (by simp) (by simpa using c3) (by simpa using c4) (by simpa using cv) (by simpa using cs)
  · rw [e]
    dsimp only
    rw [takeD l c2, decodeL_N]
    exact decodeN_four _ _ _ _ _ (by simpa using c1) (by simp) (by simpa using c3) (by simpa using c4) (by simpa using c5) (by simpa using cv) (by simpa using cw)
  · rw [e] at hv
    exact absurd ⟨rfl, rfl⟩ hv

/-- What stands in front is one byte below 128, or bytes of 128 and above alone. -/
theorem chunk (l : List UInt8) (hne : l ≠ []) : ((l.getD 0 0).toNat < 128 ∧ decodeL l = ((l.getD 0 0).toNat, 1)) ∨ (128 ≤ (l.getD 0 0).toNat ∧ 128 ≤ (decodeL l).1 ∧ ∀ x ∈ l.take (decodeL l).2, 128 ≤ x.toNat) := by
  have hl : 0 < l.length := List.length_pos_iff.2 hne
  rw [decodeL_N l]
  have k0 := (l.getD 0 0).toNat_lt
  rcases decodeN_shape l.length (l.getD 0 0).toNat (l.getD 1 0).toNat (l.getD 2 0).toNat (l.getD 3 0).toNat with ⟨c, e⟩ | ⟨c1, c2, c3, cv, e⟩ | ⟨c1, c2, c3, c4, cv, cs, e⟩ | ⟨c1, c2, c3, c4, c5, cv, cw, e⟩ | e
  · exact .inl ⟨c, e⟩
  · rw [e]
    dsimp only
    rw [takeB l c2]
    refine .inr ⟨by omega, by omega, ?_⟩
    intro x hx
    simp only [List.mem_cons, List.not_mem_nil, or_false] at hx
    rcases hx with rfl | rfl <;> omega
  · rw [e]
    dsimp only
    rw [takeC l c2]
    refine .inr ⟨by omega, by omega, ?_⟩
    intro x hx
    simp only [List.mem_cons, List.not_mem_nil, or_false] at hx
    rcases hx with rfl | rfl | rfl <;> omega
  · rw [e]
    dsimp only
    rw [takeD l c2]
    refine .inr ⟨by omega, by omega, ?_⟩
    intro x hx
    simp only [List.mem_cons, List.not_mem_nil, or_false] at hx
    rcases hx with rfl | rfl | rfl | rfl <;> omega
  · have hb : ¬ (l.getD 0 0).toNat < 128 := by
      intro h
      rw [decodeN_one _ _ _ _ _ h] at e
      have := congrArg Prod.fst e
      simp only at this
      omega
    rw [e]
    dsimp only
    rw [takeA l hl]
    refine .inr ⟨by omega, by omega, ?_⟩
    intro x hx
    simp only [List.mem_cons, List.not_mem_nil, or_false] at hx
    rcases hx with rfl
    omega

/-- FFFD that a range tells: a byte that is no character's, but where FFFD's own three bytes stand. -/
theorem bad_ff (l : List UInt8) (hne : l ≠ []) (h : (decodeL l).1 = 65533) : isBad l = !hasPrefix l [239, 191, 189] := by
  cases hb : isBad l with
  | true =>
    cases hp : hasPrefix l [239, 191, 189] with
    | false => rfl
    | true =>
      exfalso
      obtain ⟨t, ht⟩ := List.isPrefixOf_iff_prefix.1 hp
      have h1 := bad_width hb
      rw [← ht, decodeL_N, decodeN_three _ _ _ _ _ (by simp) (by simp) (by simp) (by simp) (by simp) (by simp)] at h1
      simp at h1
  | false =>
    have h1 := encode_decode l hne (not_bad hb)
    rw [h] at h1
    have h2 : encodeRune (65533 : Int) = [239, 191, 189] := by decide
    have h3 : ((65533 : Nat) : Int) = 65533 := rfl
    rw [h3, h2] at h1
    have h4 : hasPrefix l [239, 191, 189] = true := by
      rw [h1]
      exact List.isPrefixOf_iff_prefix.2 (List.take_prefix _ _)
    rw [h4]; rfl

/-- What the document's own reader tells of the bytes in front. -/
def charL (l : List UInt8) : Nat × Nat := if l = [] ∨ isBad l = true then (0, 0) else decodeL l
theorem charL_nil : charL [] = (0, 0) := by simp [charL]
theorem charL_bad {l : List UInt8} (h : isBad l = true) : charL l = (0, 0) := by simp [charL, h]
theorem charL_good {l : List UInt8} (hne : l ≠ []) (h : isBad l = false) : charL l = decodeL l := by simp [charL, h, hne]

theorem ff_bad {l : List UInt8} (h : decodeN l.length (l.getD 0 0).toNat (l.getD 1 0).toNat (l.getD 2 0).toNat (l.getD 3 0).toNat = (65533, 1)) : charL l = (0, 0) := by
  apply charL_bad
  rw [isBad_iff, decodeL_N, h]
  exact ⟨rfl, rfl⟩
theorem charL_one (l : List UInt8) (hne : l ≠ []) (h : (l.getD 0 0).toNat < 128) : charL l = ((l.getD 0 0).toNat, 1) := by
  have e : decodeL l = ((l.getD 0 0).toNat, 1) := by rw [decodeL_N]; exact decodeN_one _ _ _ _ _ h
  rw [charL_good hne (not_bad_of (by rw [e]; dsimp only; omega)), e]
theorem charL_else (l : List UInt8) (h : (128 ≤ (l.getD 0 0).toNat ∧ (l.getD 0 0).toNat < 194) ∨ 245 ≤ (l.getD 0 0).toNat) : charL l = (0, 0) := by
  apply ff_bad
  have k0 := (l.getD 0 0).toNat_lt
  have k1 := (l.getD 1 0).toNat_lt
  have k2 := (l.getD 2 0).toNat_lt
  have k3 := (l.getD 3 0).toNat_lt
  revert h k0 k1 k2 k3
  generalize (l.getD 0 0).toNat = b0, (l.getD 1 0).toNat = b1, (l.getD 2 0).toNat = b2, (l.getD 3 0).toNat = b3, l.length = n
  intro h k0 k1 k2 k3
  unfold decodeN
  repeat' split
  all_goals first | rfl | (exfalso; omega)

/-- The classes of a first byte: how many bytes, the least, what is left of the first. -/
def cls (b0 n least base : Nat) : Prop := (194 ≤ b0 ∧ b0 < 224 ∧ n = 2 ∧ least = 128 ∧ base = b0 - 192) ∨ (224 ≤ b0 ∧ b0 < 240 ∧ n = 3 ∧ least = 2048 ∧ base = b0 - 224) ∨ (240 ≤ b0 ∧ b0 < 245 ∧ n = 4 ∧ least = 65536 ∧ base = b0 - 240)
/-- What is reckoned of the first bytes. -/
def acc (l : List UInt8) (base : Nat) : Nat → Nat
  | 0 => base
  | k + 1 => 64 * acc l base k + (l.getD (k + 1) 0).toNat - 128
theorem acc_zero (l : List UInt8) (base : Nat) : acc l base 0 = base := rfl
theorem acc_succ (l : List UInt8) (base k : Nat) : acc l base (k + 1) = 64 * acc l base k + (l.getD (k + 1) 0).toNat - 128 := rfl
theorem acc_one (l : List UInt8) (base : Nat) : acc l base 1 = 64 * base + (l.getD 1 0).toNat - 128 := rfl
theorem acc_two (l : List UInt8) (base : Nat) : acc l base 2 = 64 * (64 * base + (l.getD 1 0).toNat - 128) + (l.getD 2 0).toNat - 128 := rfl
theorem acc_three (l : List UInt8) (base : Nat) : acc l base 3 = 64 * (64 * (64 * base + (l.getD 1 0).toNat - 128) + (l.getD 2 0).toNat - 128) + (l.getD 3 0).toNat - 128 := rfl
theorem acc_lt (l : List UInt8) (base : Nat) (hb : base < 32) (k : Nat) : acc l base k + 3 ≤ 224 * 64 ^ k := by
  induction k with
  | zero => rw [acc_zero]; omega
  | succ k ih =>
    have := (l.getD (k + 1) 0).toNat_lt
    have h1 : 1 ≤ 64 ^ k := Nat.one_le_pow _ _ (by omega)
    rw [acc_succ, Nat.pow_succ]
    omega
theorem acc_bound (l : List UInt8) (base : Nat) (hb : base < 32) (k : Nat) (hk : k ≤ 3) : acc l base k < 58720256 := by
  have h := acc_lt l base hb k
  have h1 : 64 ^ k ≤ 64 ^ 3 := Nat.pow_le_pow_right (by omega) hk
  have h2 : 64 ^ 3 = 262144 := by decide
  omega

theorem cls_short (l : List UInt8) (n least base : Nat) (h : cls (l.getD 0 0).toNat n least base) (hs : l.length < n) : charL l = (0, 0) := by
  apply ff_bad
  unfold cls at h
  revert h hs
  generalize (l.getD 0 0).toNat = b0, (l.getD 1 0).toNat = b1, (l.getD 2 0).toNat = b2, (l.getD 3 0).toNat = b3, l.length = m
  intro h hs
  unfold decodeN
  repeat' split
  all_goals first | rfl | (exfalso; omega)
theorem cls_stop (l : List UInt8) (n least base k : Nat) (h : cls (l.getD 0 0).toNat n least base) (h1 : 1 ≤ k) (hk : k < n) (hs : (l.getD k 0).toNat < 128 ∨ 191 < (l.getD k 0).toNat) : charL l = (0, 0) := by
  apply ff_bad
  unfold cls at h
  have hk4 : k = 1 ∨ k = 2 ∨ k = 3 := by omega
  have k1 := (l.getD 1 0).toNat_lt
  have k2 := (l.getD 2 0).toNat_lt
  have k3 := (l.getD 3 0).toNat_lt
  rcases hk4 with rfl | rfl | rfl
  all_goals
    revert h hs k1 k2 k3
    generalize (l.getD 0 0).toNat = b0, (l.getD 1 0).toNat = b1, (l.getD 2 0).toNat = b2, (l.getD 3 0).toNat = b3, l.length = m
    intro h hs k1 k2 k3
    unfold decodeN
    repeat' split
    all_goals first | rfl | (exfalso; omega)
set_option maxRecDepth 20000 in
theorem cls_wrong (l : List UInt8) (n least base v : Nat) (h : cls (l.getD 0 0).toNat n least base) (hs : ∀ j, 1 ≤ j → j < n → 128 ≤ (l.getD j 0).toNat ∧ (l.getD j 0).toNat ≤ 191)
    (hv : acc l base (n - 1) = v) (hc : v < least ∨ 1114111 < v ∨ (55296 ≤ v ∧ v ≤ 57343)) : charL l = (0, 0) := by
  unfold cls at h
  apply ff_bad
  rcases h with ⟨h0, h1, rfl, rfl, rfl⟩ | ⟨h0, h1, rfl, rfl, rfl⟩ | ⟨h0, h1, rfl, rfl, rfl⟩
  · have g1 := hs 1 (by omega) (by omega)
    have hv' : 64 * ((l.getD 0 0).toNat - 192) + (l.getD 1 0).toNat - 128 = v := hv
    omega
  · have g1 := hs 1 (by omega) (by omega)
    have g2 := hs 2 (by omega) (by omega)
    have hv' : 64 * (64 * ((l.getD 0 0).toNat - 224) + (l.getD 1 0).toNat - 128) + (l.getD 2 0).toNat - 128 = v := hv
    clear hv hs
    revert hc g1 g2 h0 h1 hv'
    generalize (l.getD 0 0).toNat = b0, (l.getD 1 0).toNat = b1, (l.getD 2 0).toNat = b2, (l.getD 3 0).toNat = b3, l.length = m
    intro hc g1 g2 h0 h1 hv'
    unfold decodeN
    repeat' split
    all_goals first | rfl | (exfalso; omega)
  · have g1 := hs 1 (by omega) (by omega)
    have g2 := hs 2 (by omega) (by omega)
    have g3 := hs 3 (by omega) (by omega)
    have hv' : 64 * (64 * (64 * ((l.getD 0 0).toNat - 240) + (l.getD 1 0).toNat - 128) + (l.getD 2 0).toNat - 128) + (l.getD 3 0).toNat - 128 = v := hv
    clear hv hs
    revert hc g1 g2 g3 h0 h1 hv'
    generalize (l.getD 0 0).toNat = b0, (l.getD 1 0).toNat = b1, (l.getD 2 0).toNat = b2, (l.getD 3 0).toNat = b3, l.length = m
    intro hc g1 g2 g3 h0 h1 hv'
    unfold decodeN
    repeat' split
    all_goals first | rfl | (exfalso; omega)
set_option maxRecDepth 20000 in
theorem cls_right (l : List UInt8) (n least base v : Nat) (h : cls (l.getD 0 0).toNat n least base) (hn : n ≤ l.length) (hs : ∀ j, 1 ≤ j → j < n → 128 ≤ (l.getD j 0).toNat ∧ (l.getD j 0).toNat ≤ 191)
    (hv : acc l base (n - 1) = v) (hc : ¬ (v < least ∨ 1114111 < v ∨ (55296 ≤ v ∧ v ≤ 57343))) : charL l = (v, n) := by
  unfold cls at h
  have hne : l ≠ [] := by intro e; subst e; simp at hn; omega
  rcases h with ⟨h0, h1, rfl, rfl, rfl⟩ | ⟨h0, h1, rfl, rfl, rfl⟩ | ⟨h0, h1, rfl, rfl, rfl⟩
  · have g1 := hs 1 (by omega) (by omega)
    have hv' : 64 * ((l.getD 0 0).toNat - 192) + (l.getD 1 0).toNat - 128 = v := hv
    have e : decodeL l = (v, 2) := by
      rw [decodeL_N, decodeN_two _ _ _ _ _ (by omega) (by omega) (by omega) (by omega)]
      apply Prod.ext <;> simp only <;> omega
    rw [charL_good hne (not_bad_of (by rw [e]; dsimp only; omega)), e]
  · have g1 := hs 1 (by omega) (by omega)
    have g2 := hs 2 (by omega) (by omega)
    have hv' : 64 * (64 * ((l.getD 0 0).toNat - 224) + (l.getD 1 0).toNat - 128) + (l.getD 2 0).toNat - 128 = v := hv
    have e : decodeL l = (v, 3) := by
      rw [decodeL_N, decodeN_three _ _ _ _ _ (by omega) (by omega) (by omega) (by omega) (by omega) (by omega)]
      apply Prod.ext <;> simp only <;> omega
    have hb : isBad l = false := by
      cases hb : isBad l with
      | false => rfl
      | true => have := bad_width hb; rw [e] at this; simp at this
    rw [charL_good hne hb, e]
  · have g1 := hs 1 (by omega) (by omega)
    have g2 := hs 2 (by omega) (by omega)
    have g3 := hs 3 (by omega) (by omega)
    have hv' : 64 * (64 * (64 * ((l.getD 0 0).toNat - 240) + (l.getD 1 0).toNat - 128) + (l.getD 2 0).toNat - 128) + (l.getD 3 0).toNat - 128 = v := hv
    have e : decodeL l = (v, 4) := by
      rw [decodeL_N, decodeN_four _ _ _ _ _ (by omega) (by omega) (by omega) (by omega) (by omega) (by omega) (by omega)]
      apply Prod.ext <;> simp only <;> omega
    have hb : isBad l = false := by
      cases hb : isBad l with
      | false => rfl
      | true => have := bad_width hb; rw [e] at this; simp at this
    rw [charL_good hne hb, e]

/-! ### The characters; a name -/
/-- May a character stand in a name? -/
def may (c : Nat) : Bool := decide (32 ≤ c) && (decide (c < 127) || decide (159 < c)) && decide (c ≠ 65533)
theorem may_ff : may 65533 = false := by decide
theorem may_good {l : List UInt8} (h : may (decodeL l).1 = true) : isBad l = false := not_bad_of (fun e => by rw [e, may_ff] at h; cases h)

/-- What is behind the character in front. -/
def rest (l : List UInt8) : List UInt8 := l.drop (decodeL l).2
theorem rest_lt {l : List UInt8} (h : l ≠ []) : (rest l).length < l.length := by
  have h1 := decodeL_width l
  have h2 : 0 < l.length := List.length_pos_iff.2 h
  rw [rest, List.length_drop]; omega
theorem drop_rest (l : List UInt8) (i : Nat) : rest (l.drop i) = l.drop (i + (decodeL (l.drop i)).2) := by rw [rest, List.drop_drop]

def runesF : Nat → List UInt8 → Option (List Nat)
  | 0, _ => some []
  | n + 1, l => if l = [] then some [] else if isBad l = true then none else (runesF n (rest l)).map ((decodeL l).1 :: ·)
def runes (l : List UInt8) : Option (List Nat) := runesF l.length l
theorem runesF_nil (n : Nat) : runesF n [] = some [] := by cases n <;> simp [runesF]
theorem runesF_fuel (n : Nat) : ∀ (m : Nat) (l : List UInt8), l.length ≤ n → l.length ≤ m → runesF n l = runesF m l := by
  induction n with
  | zero =>
    intro m l h _
    obtain rfl : l = [] := List.eq_nil_of_length_eq_zero (by omega)
    rw [runesF_nil, runesF_nil]
  | succ n ih =>
    intro m l h1 h2
    by_cases hne : l = []
    · subst hne; rw [runesF_nil, runesF_nil]
    · have h3 := rest_lt hne
      obtain _ | m := m
      · have := List.length_pos_iff.2 hne; omega
      · simp only [runesF, if_neg hne]
        rw [ih m (rest l) (by omega) (by omega)]
theorem runes_nil : runes [] = some [] := rfl
theorem runes_bad {l : List UInt8} (hne : l ≠ []) (h : isBad l = true) : runes l = none := by
  obtain ⟨n, hn⟩ : ∃ n, l.length = n + 1 := ⟨l.length - 1, by have := List.length_pos_iff.2 hne; omega⟩
  rw [runes, hn, runesF, if_neg hne, if_pos h]
theorem runes_step {l : List UInt8} (hne : l ≠ []) (h : isBad l = false) : runes l = (runes (rest l)).map ((decodeL l).1 :: ·) := by
  obtain ⟨n, hn⟩ : ∃ n, l.length = n + 1 := ⟨l.length - 1, by have := List.length_pos_iff.2 hne; omega⟩
  have h3 := rest_lt hne
  rw [runes, hn, runesF, if_neg hne, if_neg (by rw [h]; simp), runes, runesF_fuel n (rest l).length (rest l) (by omega) (Nat.le_refl _)]

/-- Is a text, behind so many characters, the rest of a name? -/
def rgoF : Nat → Nat → List UInt8 → Bool
  | 0, n, _ => decide (0 < n)
  | f + 1, n, l => if l = [] then decide (0 < n) else if n = 24 ∨ may (decodeL l).1 = false then false else rgoF f (n + 1) (rest l)
def rgo (n : Nat) (l : List UInt8) : Bool := rgoF l.length n l
theorem rgoF_nil (f n : Nat) : rgoF f n [] = decide (0 < n) := by cases f <;> simp [rgoF]
theorem rgoF_fuel (f : Nat) : ∀ (g n : Nat) (l : List UInt8), l.length ≤ f → l.length ≤ g → rgoF f n l = rgoF g n l := by
  induction f with
  | zero =>
    intro g n l h _
    obtain rfl : l = [] := List.eq_nil_of_length_eq_zero (by omega)
    rw [rgoF_nil, rgoF_nil]
  | succ f ih =>
    intro g n l h1 h2
    by_cases hne : l = []
    · subst hne; rw [rgoF_nil, rgoF_nil]
    · have h3 := rest_lt hne
      obtain _ | g := g
      · have := List.length_pos_iff.2 hne; omega
      · simp only [rgoF, if_neg hne]
        rw [ih g (n + 1) (rest l) (by omega) (by omega)]
theorem rgo_nil (n : Nat) : rgo n [] = decide (0 < n) := rgoF_nil _ _
theorem rgo_no {n : Nat} {l : List UInt8} (hne : l ≠ []) (h : n = 24 ∨ may (decodeL l).1 = false) : rgo n l = false := by
  obtain ⟨m, hm⟩ : ∃ n, l.length = n + 1 := ⟨l.length - 1, by have := List.length_pos_iff.2 hne; omega⟩
  rw [rgo, hm, rgoF, if_neg hne, if_pos h]
theorem rgo_step {n : Nat} {l : List UInt8} (hne : l ≠ []) (h : n ≠ 24) (hm : may (decodeL l).1 = true) : rgo n l = rgo (n + 1) (rest l) := by
  obtain ⟨m, hm'⟩ : ∃ n, l.length = n + 1 := ⟨l.length - 1, by have := List.length_pos_iff.2 hne; omega⟩
  have h3 := rest_lt hne
  rw [rgo, hm', rgoF, if_neg hne, if_neg (by rw [hm]; simp [h]), rgo, rgoF_fuel m (rest l).length (n + 1) (rest l) (by omega) (Nat.le_refl _)]
/-- Is a text a name? -/
def right (l : List UInt8) : Bool := rgo 0 l
/-- So the document says it. -/
def isName (l : List UInt8) : Bool := match runes l with
  | none => false
  | some rs => rs.all may && decide (1 ≤ rs.length) && decide (rs.length ≤ 24)
theorem rgo_runes (m : Nat) : ∀ (n : Nat) (l : List UInt8), l.length ≤ m → n ≤ 24 → rgo n l = match runes l with
    | none => false
    | some rs => rs.all may && decide (1 ≤ n + rs.length) && decide (n + rs.length ≤ 24) := by
  induction m with
  | zero =>
    intro n l h hn
    obtain rfl : l = [] := List.eq_nil_of_length_eq_zero (by omega)
    rw [rgo_nil, runes_nil]
    simp [hn]
    omega
  | succ m ih =>
    intro n l h hn
    by_cases hne : l = []
    · subst hne
      rw [rgo_nil, runes_nil]
      simp [hn]
      omega
    · have h3 := rest_lt hne
      cases hb : isBad l with
      | true =>
        rw [runes_bad hne hb, rgo_no hne (.inr (by rw [bad_rune hb]; exact may_ff))]
      | false =>
        rw [runes_step hne hb]
        cases hm : may (decodeL l).1 with
        | false =>
          rw [rgo_no hne (.inr hm)]
          cases runes (rest l) with
          | none => rfl
          | some rs => simp [hm]
        | true =>
          by_cases h24 : n = 24
          · rw [rgo_no hne (.inl h24)]
            cases runes (rest l) with
            | none => rfl
            | some rs =>
              subst h24
              simp
          · rw [rgo_step hne h24 hm, ih (n + 1) (rest l) (by omega) (by omega)]
            cases runes (rest l) with
            | none => rfl
            | some rs =>
              have e : n + 1 + rs.length = n + (rs.length + 1) := by omega
              simp [hm, e]
theorem right_isName (l : List UInt8) : right l = isName l := by
  rw [right, rgo_runes l.length 0 l (Nat.le_refl _) (by omega), isName]
  simp only [Nat.zero_add]

/-! ### The name that a text is like -/
def cgoF : Nat → Nat → List UInt8 → List UInt8
  | 0, _, _ => []
  | f + 1, n, l => if l = [] ∨ n = 24 then [] else if may (decodeL l).1 = true then l.take (decodeL l).2 ++ cgoF f (n + 1) (rest l) else cgoF f n (rest l)
def cgo (n : Nat) (l : List UInt8) : List UInt8 := cgoF l.length n l
theorem cgoF_nil (f n : Nat) : cgoF f n [] = [] := by cases f <;> simp [cgoF]
theorem cgoF_fuel (f : Nat) : ∀ (g n : Nat) (l : List UInt8), l.length ≤ f → l.length ≤ g → cgoF f n l = cgoF g n l := by
  induction f with
  | zero =>
    intro g n l h _
    obtain rfl : l = [] := List.eq_nil_of_length_eq_zero (by omega)
    rw [cgoF_nil, cgoF_nil]
  | succ f ih =>
    intro g n l h1 h2
    by_cases hne : l = []
    · subst hne; rw [cgoF_nil, cgoF_nil]
    · have h3 := rest_lt hne
      obtain _ | g := g
      · have := List.length_pos_iff.2 hne; omega
      · simp only [cgoF]
        rw [ih g (n + 1) (rest l) (by omega) (by omega), ih g n (rest l) (by omega) (by omega)]
theorem cgo_nil (n : Nat) : cgo n [] = [] := cgoF_nil _ _
theorem cgo_full (l : List UInt8) : cgo 24 l = [] := by
  unfold cgo
  cases l.length <;> simp [cgoF]
theorem cgo_keep {n : Nat} {l : List UInt8} (hne : l ≠ []) (h : n ≠ 24) (hm : may (decodeL l).1 = true) : cgo n l = l.take (decodeL l).2 ++ cgo (n + 1) (rest l) := by
  obtain ⟨m, hm'⟩ : ∃ n, l.length = n + 1 := ⟨l.length - 1, by have := List.length_pos_iff.2 hne; omega⟩
  have h3 := rest_lt hne
  rw [cgo, hm', cgoF, if_neg (by simp [hne, h]), if_pos hm, cgo, cgoF_fuel m (rest l).length (n + 1) (rest l) (by omega) (Nat.le_refl _)]
theorem cgo_skip {n : Nat} {l : List UInt8} (hne : l ≠ []) (hm : may (decodeL l).1 = false) : cgo n l = cgo n (rest l) := by
  by_cases h : n = 24
  · subst h; rw [cgo_full, cgo_full]
  · obtain ⟨m, hm'⟩ : ∃ n, l.length = n + 1 := ⟨l.length - 1, by have := List.length_pos_iff.2 hne; omega⟩
    have h3 := rest_lt hne
    rw [cgo, hm', cgoF, if_neg (by simp [hne, h]), if_neg (by rw [hm]; simp), cgo, cgoF_fuel m (rest l).length n (rest l) (by omega) (Nat.le_refl _)]
/-- The name that a text is like. -/
def clean (l : List UInt8) : List UInt8 := if cgo 0 l = [] then [95] else cgo 0 l

/-- The bytes of a character that may stand in a name. -/
def Good (q : List UInt8) : Prop := ∃ c, may c = true ∧ ∀ t, decodeL (q ++ t) = (c, q.length)
theorem good_ne {q : List UInt8} (h : Good q) (t : List UInt8) : q ++ t ≠ [] := by
  obtain ⟨c, _, hd⟩ := h
  intro e
  have h1 := decodeL_width (q ++ t)
  rw [hd t] at h1
  rw [List.append_eq_nil_iff] at e
  rw [e.1] at h1
  simp at h1
theorem good_rest {q : List UInt8} (h : Good q) (t : List UInt8) : rest (q ++ t) = t := by
  obtain ⟨c, _, hd⟩ := h
  rw [rest, hd t]
  simp
theorem good_take {q : List UInt8} (h : Good q) (t : List UInt8) : (q ++ t).take (decodeL (q ++ t)).2 = q := by
  obtain ⟨c, _, hd⟩ := h
  rw [hd t]
  simp
theorem good_may {q : List UInt8} (h : Good q) (t : List UInt8) : may (decodeL (q ++ t)).1 = true := by
  obtain ⟨c, hm, hd⟩ := h
  rw [hd t]
  exact hm
theorem good_front {l : List UInt8} (hne : l ≠ []) (hm : may (decodeL l).1 = true) : Good (l.take (decodeL l).2) := by
  refine ⟨(decodeL l).1, hm, fun t => ?_⟩
  rw [decode_prefix l hne (may_good hm) t, List.length_take, Nat.min_eq_left (decodeL_le l hne)]
theorem good_one : Good [95] := by
  refine ⟨95, by decide, fun t => ?_⟩
  rw [decodeL_N]
  exact decodeN_one _ _ _ _ _ (by simp)

theorem cgo_good (m : Nat) : ∀ (n : Nat) (l : List UInt8), l.length ≤ m → n ≤ 24 → ∃ qs : List (List UInt8), qs.length + n ≤ 24 ∧ (∀ q ∈ qs, Good q) ∧ cgo n l = qs.flatten := by
  induction m with
  | zero =>
    intro n l h hn
    obtain rfl : l = [] := List.eq_nil_of_length_eq_zero (by omega)
    exact ⟨[], by simpa using hn, by simp, by simp [cgo_nil]⟩
  | succ m ih =>
    intro n l h hn
    by_cases hne : l = []
    · subst hne
      exact ⟨[], by simpa using hn, by simp, by simp [cgo_nil]⟩
    · have h3 := rest_lt hne
      by_cases h24 : n = 24
      · subst h24
        exact ⟨[], by simp, by simp, by simp [cgo_full]⟩
      · cases hm : may (decodeL l).1 with
        | false =>
          rw [cgo_skip hne hm]
          exact ih n (rest l) (by omega) hn
        | true =>
          obtain ⟨qs, h1, h2, h4⟩ := ih (n + 1) (rest l) (by omega) (by omega)
          refine ⟨l.take (decodeL l).2 :: qs, by simp; omega, ?_, ?_⟩
          · intro q hq
            rcases List.mem_cons.1 hq with rfl | hq
            · exact good_front hne hm
            · exact h2 q hq
          · rw [cgo_keep hne h24 hm, h4, List.flatten_cons]
theorem clean_good (l : List UInt8) : ∃ qs : List (List UInt8), 1 ≤ qs.length ∧ qs.length ≤ 24 ∧ (∀ q ∈ qs, Good q) ∧ clean l = qs.flatten := by
  obtain ⟨qs, h1, h2, h3⟩ := cgo_good l.length 0 l (Nat.le_refl _) (by omega)
  unfold clean
  by_cases h : cgo 0 l = []
  · rw [if_pos h]
    exact ⟨[[95]], by simp, by simp, by intro q hq; simp at hq; subst hq; exact good_one, rfl⟩
  · rw [if_neg h]
    refine ⟨qs, ?_, by omega, h2, h3⟩
    cases qs with
    | nil => exact absurd h3 h
    | cons => simp
theorem rgo_good (qs : List (List UInt8)) : ∀ n, n + qs.length ≤ 24 → (∀ q ∈ qs, Good q) → rgo n qs.flatten = decide (0 < n + qs.length) := by
  induction qs with
  | nil => intro n _ _; simp [rgo_nil]
  | cons q qs ih =>
    intro n h hq
    have g := hq q (by simp)
    rw [List.flatten_cons, rgo_step (good_ne g _) (by simp at h; omega) (good_may g _), good_rest g, ih (n + 1) (by simp at h; omega) (fun x hx => hq x (by simp [hx]))]
    simp
    omega
theorem cgo_same (qs : List (List UInt8)) : ∀ n, n + qs.length ≤ 24 → (∀ q ∈ qs, Good q) → cgo n qs.flatten = qs.flatten := by
  induction qs with
  | nil => intro n _ _; simp [cgo_nil]
  | cons q qs ih =>
    intro n h hq
    have g := hq q (by simp)
    rw [List.flatten_cons, cgo_keep (good_ne g _) (by simp at h; omega) (good_may g _), good_rest g, good_take g, ih (n + 1) (by simp at h; omega) (fun x hx => hq x (by simp [hx]))]
theorem right_clean (l : List UInt8) : right (clean l) = true := by
  obtain ⟨qs, h1, h2, h3, h4⟩ := clean_good l
  rw [h4, right, rgo_good qs 0 (by omega) h3]
  simp; omega
theorem flatten_ne {qs : List (List UInt8)} (h1 : 1 ≤ qs.length) (h3 : ∀ q ∈ qs, Good q) : qs.flatten ≠ [] := by
  cases qs with
  | nil => simp at h1
  | cons q qs => rw [List.flatten_cons]; exact good_ne (h3 q (by simp)) _
theorem clean_clean (l : List UInt8) : clean (clean l) = clean l := by
  obtain ⟨qs, h1, h2, h3, h4⟩ := clean_good l
  rw [h4, clean, cgo_same qs 0 (by omega) h3, if_neg (flatten_ne h1 h3)]
theorem rgo_cgo (m : Nat) : ∀ (n : Nat) (l : List UInt8), l.length ≤ m → rgo n l = true → cgo n l = l := by
  induction m with
  | zero =>
    intro n l h _
    obtain rfl : l = [] := List.eq_nil_of_length_eq_zero (by omega)
    exact cgo_nil n
  | succ m ih =>
    intro n l h hr
    by_cases hne : l = []
    · subst hne; exact cgo_nil n
    · have h3 := rest_lt hne
      by_cases h24 : n = 24
      · rw [rgo_no hne (.inl h24)] at hr; cases hr
      · cases hm : may (decodeL l).1 with
        | false => rw [rgo_no hne (.inr hm)] at hr; cases hr
        | true =>
          rw [rgo_step hne h24 hm] at hr
          rw [cgo_keep hne h24 hm, ih (n + 1) (rest l) (by omega) hr, rest, List.take_append_drop]
theorem right_iff (l : List UInt8) : right l = decide (clean l = l) := by
  cases h : right l with
  | true =>
    have h1 := rgo_cgo l.length 0 l (Nat.le_refl _) h
    have h2 : l ≠ [] := by
      intro e
      subst e
      rw [right, rgo_nil] at h
      simp at h
    rw [clean, h1, if_neg h2]
    simp
  | false =>
    by_cases h1 : clean l = l
    · have h2 := right_clean l
      rw [h1, h] at h2
      cases h2
    · simp [h1]

/-! ### Quoted, and split -/
def isQ (b : UInt8) : Bool := b == 47 || b == 92
def quote (l : List UInt8) : List UInt8 := l.flatMap fun b => if isQ b = true then [92, b] else [b]
theorem quote_nil : quote [] = [] := rfl
theorem quote_cons (b : UInt8) (l : List UInt8) : quote (b :: l) = (if isQ b = true then [92, b] else [b]) ++ quote l := rfl
theorem quote_append (a b : List UInt8) : quote (a ++ b) = quote a ++ quote b := by simp [quote]
theorem isQ_high {b : UInt8} (h : 128 ≤ b.toNat) : isQ b = false := by
  simp only [isQ, Bool.or_eq_false_iff, beq_eq_false_iff_ne]
  constructor <;> (intro e; subst e; simp at h)
theorem quote_high {l : List UInt8} (h : ∀ x ∈ l, isQ x = false) : quote l = l := by
  induction l with
  | nil => rfl
  | cons b l ih =>
    rw [quote_cons, h b (by simp), ih (fun x hx => h x (by simp [hx]))]
    simp
theorem quote_length (l : List UInt8) : (quote l).length ≤ 2 * l.length := by
  induction l with
  | nil => simp [quote_nil]
  | cons b l ih =>
    rw [quote_cons, List.length_append, List.length_cons]
    split <;> simp <;> omega

/-- The texts that slashes part: what is still to read, whether an escape stands ahead, the texts that were told, the one under way. -/
def sp : List UInt8 → Bool → List (List UInt8) → List UInt8 → Option (List (List UInt8))
  | [], true, _, _ => none
  | [], false, out, word => some (out ++ [word])
  | b :: r, true, out, word => if isQ b = true then sp r false out (word ++ [b]) else none
  | b :: r, false, out, word => if b = 92 then sp r true out word else if b = 47 then sp r false (out ++ [word]) [] else sp r false out (word ++ [b])
def split (l : List UInt8) : Option (List (List UInt8)) := sp l false [] []
theorem sp_plain {q : List UInt8} (h : ∀ x ∈ q, isQ x = false) (t : List UInt8) (out : List (List UInt8)) : ∀ word, sp (q ++ t) false out word = sp t false out (word ++ q) := by
  induction q with
  | nil => intro word; simp
  | cons b q ih =>
    intro word
    have hb := h b (by simp)
    simp only [isQ, Bool.or_eq_false_iff, beq_eq_false_iff_ne] at hb
    rw [List.cons_append, sp, if_neg hb.2, if_neg hb.1, ih (fun x hx => h x (by simp [hx]))]
    simp
theorem sp_quote (l t : List UInt8) (out : List (List UInt8)) : ∀ word, sp (quote l ++ t) false out word = sp t false out (word ++ l) := by
  induction l with
  | nil => intro word; simp [quote_nil]
  | cons b l ih =>
    intro word
    rw [quote_cons]
    cases hb : isQ b with
    | true =>
      simp only [if_true, List.cons_append, List.nil_append]
      rw [sp, if_pos rfl, sp, if_pos hb, ih]
      simp
    | false =>
      simp only [isQ, Bool.or_eq_false_iff, beq_eq_false_iff_ne] at hb
      simp only [Bool.false_eq_true, if_false, List.cons_append, List.nil_append]
      rw [sp, if_neg hb.2, if_neg hb.1, ih]
      simp
/-- Texts quoted, with a slash between. -/
def joined : List (List UInt8) → List UInt8
  | [] => []
  | [a] => quote a
  | a :: r => quote a ++ 47 :: joined r
theorem joined_two (a b : List UInt8) (r : List (List UInt8)) : joined (a :: b :: r) = quote a ++ 47 :: joined (b :: r) := rfl
theorem joined_snoc (l : List (List UInt8)) (x : List UInt8) (h : l ≠ []) : joined (l ++ [x]) = joined l ++ 47 :: quote x := by
  induction l with
  | nil => exact absurd rfl h
  | cons a r ih =>
    cases r with
    | nil => simp [joined]
    | cons b r =>
      have := ih (by simp)
      simp only [List.cons_append] at this ⊢
      rw [joined_two, this, joined_two]
      simp
theorem sp_joined (l : List (List UInt8)) : ∀ out, l ≠ [] → sp (joined l) false out [] = some (out ++ l) := by
  induction l with
  | nil => intro out h; exact absurd rfl h
  | cons a r ih =>
    intro out _
    cases r with
    | nil =>
      have h := sp_quote a [] out []
      rw [List.append_nil] at h
      rw [joined, h, sp]
      simp
    | cons b r =>
      rw [joined_two, sp_quote, sp, if_neg (by decide), if_pos rfl, ih _ (by simp)]
      simp
theorem split_joined (l : List (List UInt8)) (h : l ≠ []) : split (joined l) = some l := by
  rw [split, sp_joined l [] h]; simp

end Go.Proofs.Ytmnehekcealjhaa.Nm
/- Numbers as bytes, seven bits each, the lowest first: told, and read again. Plain mathematics; nothing of the program is named. -/
namespace Go.Proofs.Ytmnehekcealjhaa.Pk

/-- A number's bytes, so many at the most and one more. -/
def encF : Nat → Nat → List UInt8
  | 0, n => [UInt8.ofNat n]
  | k + 1, n => if n < 128 then [UInt8.ofNat n] else UInt8.ofNat (n % 128 + 128) :: encF k (n / 128)
theorem encF_small (k : Nat) {n : Nat} (h : n < 128) : encF k n = [UInt8.ofNat n] := by
  cases k with
  | zero => rfl
  | succ k => rw [encF, if_pos h]
theorem encF_big (k : Nat) {n : Nat} (h : ¬ n < 128) : encF (k + 1) n = UInt8.ofNat (n % 128 + 128) :: encF k (n / 128) := by rw [encF, if_neg h]
theorem encF_fuel (k : Nat) : ∀ (j n : Nat), n ≤ k → n ≤ j → encF k n = encF j n := by
  induction k with
  | zero => intro j n h _; rw [encF_small 0 (by omega), encF_small j (by omega)]
  | succ k ih =>
    intro j n h1 h2
    by_cases h : n < 128
    · rw [encF_small _ h, encF_small _ h]
    · obtain _ | j := j
      · omega
      · rw [encF_big k h, encF_big j h, ih j (n / 128) (by omega) (by omega)]
/-- A number's bytes. -/
def enc (n : Nat) : List UInt8 := encF n n
theorem enc_small {n : Nat} (h : n < 128) : enc n = [UInt8.ofNat n] := encF_small n h
theorem enc_big {n : Nat} (h : ¬ n < 128) : enc n = UInt8.ofNat (n % 128 + 128) :: enc (n / 128) := by
  unfold enc
  rw [encF_fuel n ((n / 128) + n) n (Nat.le_refl _) (by omega)]
  obtain ⟨k, hk⟩ : ∃ k, n / 128 + n = k + 1 := ⟨n / 128 + n - 1, by omega⟩
  rw [hk, encF_big k h, encF_fuel k (n / 128) (n / 128) (by omega) (Nat.le_refl _)]
theorem enc_pos (n : Nat) : 0 < (enc n).length := by
  by_cases h : n < 128
  · rw [enc_small h]; simp
  · rw [enc_big h]; simp
theorem enc_len (k n : Nat) (h : n < 128 ^ (k + 1)) : (enc n).length ≤ k + 1 := by
  induction k generalizing n with
  | zero => rw [enc_small (by simpa using h)]; simp
  | succ k ih =>
    by_cases h1 : n < 128
    · rw [enc_small h1]; simp
    · rw [enc_big h1]
      have h2 : n / 128 < 128 ^ (k + 1) := by
        apply Nat.div_lt_of_lt_mul
        rw [Nat.pow_succ] at h; omega
      have := ih (n / 128) h2
      simp; omega
theorem enc_len9 {n : Nat} (h : n < 9223372036854775808) : (enc n).length ≤ 9 := enc_len 8 n h
theorem enc_len8 {n : Nat} (h : n < 72057594037927936) : (enc n).length ≤ 8 := enc_len 7 n h

/-- The number that bytes tell. -/
def val : List UInt8 → Nat
  | [] => 0
  | b :: r => b.toNat % 128 + 128 * val r
theorem val_cons (b : UInt8) (r : List UInt8) : val (b :: r) = b.toNat % 128 + 128 * val r := rfl
theorem val_lt (l : List UInt8) : val l < 128 ^ l.length := by
  induction l with
  | nil => simp [val]
  | cons b r ih => rw [val_cons, List.length_cons, Nat.pow_succ]; omega

/-- Where the number's last byte stands; the length, if nowhere. -/
def last : List UInt8 → Nat
  | [] => 0
  | b :: r => if b.toNat < 128 then 0 else last r + 1
theorem last_le (l : List UInt8) : last l ≤ l.length := by
  induction l with
  | nil => simp [last]
  | cons b r ih => simp only [last, List.length_cons]; split <;> omega
/-- The first k bytes are high ones, the next is low: that is where it stands. -/
theorem last_at (l : List UInt8) (k : Nat) (h : k < l.length) (hh : ∀ j (hj : j < k), 128 ≤ (l[j]'(by omega)).toNat) (hl : l[k].toNat < 128) : last l = k := by
  induction l generalizing k with
  | nil => simp at h
  | cons b r ih =>
    cases k with
    | zero => simp only [last]; rw [if_pos (by simpa using hl)]
    | succ k =>
      have h0 := hh 0 (by omega)
      simp only [List.getElem_cons_zero] at h0
      simp only [last]; rw [if_neg (by omega)]
      have := ih k (by simpa using h) (fun j hj => by simpa using hh (j + 1) (by omega)) (by simpa using hl)
      omega
theorem last_none (l : List UInt8) (hh : ∀ j (hj : j < l.length), 128 ≤ l[j].toNat) : last l = l.length := by
  induction l with
  | nil => rfl
  | cons b r ih =>
    have h0 := hh 0 (by simp)
    simp only [List.getElem_cons_zero] at h0
    simp only [last, List.length_cons]; rw [if_neg (by omega), ih (fun j hj => by have := hh (j + 1) (by rw [List.length_cons]; omega); rwa [List.getElem_cons_succ] at this)]

/-- What is read of a text: the number, what stands behind it, what is wrong. -/
def num (l : List UInt8) : Nat × List UInt8 × Nat :=
  if last l = l.length then (0, [], 4)
  else if 8 ≤ last l then (0, [], 6)
  else if 0 < last l ∧ (l.getD (last l) 0).toNat = 0 then (0, [], 3)
  else (val (l.take (last l + 1)), l.drop (last l + 1), 0)

theorem u8_nat (k : Nat) (h : k < 256) : (UInt8.ofNat k).toNat = k := by simp; omega

theorem last_enc (n : Nat) (t : List UInt8) : last (enc n ++ t) + 1 = (enc n).length := by
  induction n using Nat.strongRecOn with
  | _ n ih =>
    by_cases h : n < 128
    · rw [enc_small h]
      simp only [List.cons_append, List.nil_append, last]
      rw [if_pos (by rw [u8_nat _ (by omega)]; omega)]; simp
    · rw [enc_big h]
      have := ih (n / 128) (by omega)
      simp only [List.cons_append, last]
      rw [if_neg (by rw [u8_nat _ (by omega)]; omega)]
      simp; omega
theorem val_enc (n : Nat) : val (enc n) = n := by
  induction n using Nat.strongRecOn with
  | _ n ih =>
    by_cases h : n < 128
    · rw [enc_small h, val_cons, u8_nat _ (by omega)]; simp [val]; omega
    · rw [enc_big h, val_cons, ih (n / 128) (by omega), u8_nat _ (by omega)]; omega
theorem enc_top (n : Nat) (t : List UInt8) (h : 1 < (enc n).length) : ((enc n ++ t).getD ((enc n).length - 1) 0).toNat ≠ 0 := by
  induction n using Nat.strongRecOn with
  | _ n ih =>
    by_cases h1 : n < 128
    · rw [enc_small h1] at h; simp at h
    · rw [enc_big h1]
      have hp := enc_pos (n / 128)
      have e : (UInt8.ofNat (n % 128 + 128) :: enc (n / 128)).length - 1 = ((enc (n / 128)).length - 1) + 1 := by simp; omega
      rw [e, List.cons_append, List.getD_cons_succ]
      by_cases h2 : 1 < (enc (n / 128)).length
      · exact ih (n / 128) (by omega) h2
      · have h3 : n / 128 < 128 := by
          apply Decidable.byContradiction; intro hc
          rw [enc_big hc] at h2
          have := enc_pos (n / 128 / 128)
          rw [List.length_cons] at h2; omega
        rw [enc_small h3]
        simp only [List.length_singleton, Nat.sub_self, List.cons_append, List.nil_append, List.getD_cons_zero]
        rw [u8_nat _ (by omega)]; omega

/-- A NUMBER IS READ AS IT WAS TOLD. -/
theorem num_enc {n : Nat} (h : n < 72057594037927936) (t : List UInt8) : num (enc n ++ t) = (n, t, 0) := by
  have hl := last_enc n t
  have h8 := enc_len8 h
  have hp := enc_pos n
  unfold num
  rw [if_neg (by rw [List.length_append]; omega), if_neg (by omega), if_neg, hl, List.take_left, List.drop_left, val_enc]
  rintro ⟨h0, h1⟩
  have e : last (enc n ++ t) = (enc n).length - 1 := by omega
  rw [e] at h1
  exact enc_top n t (by omega) h1

theorem val_pos (l : List UInt8) (h : last l < l.length) (hz : (l.getD (last l) 0).toNat ≠ 0) : 0 < val (l.take (last l + 1)) := by
  induction l with
  | nil => simp at h
  | cons b r ih =>
    by_cases hb : b.toNat < 128
    · have e : last (b :: r) = 0 := by simp only [last]; rw [if_pos hb]
      rw [e] at hz ⊢
      simp only [List.getD_cons_zero] at hz
      simp [val]; omega
    · have e : last (b :: r) = last r + 1 := by simp only [last]; rw [if_neg hb]
      rw [e] at hz h ⊢
      rw [List.getD_cons_succ] at hz
      have := ih (by simpa using h) hz
      rw [List.take_succ_cons, val_cons]; omega
theorem enc_val (l : List UInt8) (h : last l < l.length) (hz : (l.getD (last l) 0).toNat ≠ 0) : enc (val (l.take (last l + 1))) = l.take (last l + 1) := by
  induction l with
  | nil => simp at h
  | cons b r ih =>
    by_cases hb : b.toNat < 128
    · have e : last (b :: r) = 0 := by simp only [last]; rw [if_pos hb]
      rw [e]
      simp only [Nat.zero_add, List.take_succ_cons, List.take_zero, val_cons, val, Nat.mul_zero, Nat.add_zero]
      rw [Nat.mod_eq_of_lt hb, enc_small hb]
      simp
    · have e : last (b :: r) = last r + 1 := by simp only [last]; rw [if_neg hb]
      rw [e] at hz h ⊢
      rw [List.getD_cons_succ] at hz
      have h' : last r < r.length := by simpa using h
      have hv := val_pos r h' hz
      have hi := ih h' hz
      rw [List.take_succ_cons, val_cons]
      generalize val (r.take (last r + 1)) = v at hv hi ⊢
      have hbl := UInt8.toNat_lt b
      rw [enc_big (by omega)]
      have e1 : (b.toNat % 128 + 128 * v) % 128 + 128 = b.toNat := by omega
      have e2 : (b.toNat % 128 + 128 * v) / 128 = v := by omega
      rw [e1, e2, hi]; simp
theorem val_lt8 (l : List UInt8) (h : last l < 8) : val (l.take (last l + 1)) < 72057594037927936 := by
  have h1 := val_lt (l.take (last l + 1))
  have h2 : (l.take (last l + 1)).length ≤ 8 := by simp; omega
  have h3 : 128 ^ (l.take (last l + 1)).length ≤ 128 ^ 8 := Nat.pow_le_pow_right (by omega) h2
  have h4 : 128 ^ 8 = 72057594037927936 := by decide
  omega

theorem val_lt8' (l : List UInt8) (m : Nat) (h : m ≤ 8) : val (l.take m) < 72057594037927936 := by
  have h1 := val_lt (l.take m)
  have h2 : (l.take m).length ≤ 8 := by simp; omega
  have h3 : 128 ^ (l.take m).length ≤ 128 ^ 8 := Nat.pow_le_pow_right (by omega) h2
  have h4 : 128 ^ 8 = 72057594037927936 := by decide
  omega

/-- WHAT IS READ IS TOLD AS JUST THESE BYTES. -/
theorem num_once (l : List UInt8) (h : (num l).2.2 = 0) : l = enc (num l).1 ++ (num l).2.1 ∧ (num l).1 < 72057594037927936 := by
  have hle := last_le l
  unfold num at h ⊢
  by_cases h1 : last l = l.length
  · rw [if_pos h1] at h; simp at h
  rw [if_neg h1] at h ⊢
  by_cases h2 : 8 ≤ last l
  · rw [if_pos h2] at h; simp at h
  rw [if_neg h2] at h ⊢
  by_cases h3 : 0 < last l ∧ (l.getD (last l) 0).toNat = 0
  · rw [if_pos h3] at h; simp at h
  rw [if_neg h3]
  refine ⟨?_, val_lt8 l (by omega)⟩
  simp only
  by_cases hz : (l.getD (last l) 0).toNat = 0
  · have h0 : last l = 0 := by
      apply Decidable.byContradiction; intro hc
      exact h3 ⟨by omega, hz⟩
    rw [h0] at hz ⊢
    match l, h1 with
    | b :: r, _ =>
      simp only [List.getD_cons_zero] at hz
      have hb : b = 0 := UInt8.toNat_inj.1 (by simpa using hz)
      subst hb
      have : enc 0 = [0] := by rw [enc_small (by omega)]; rfl
      simp [val, this]
    | [], h1 => simp [last] at h1
  · rw [enc_val l (by omega) hz, List.take_append_drop]
theorem num_lt (l : List UInt8) : (num l).1 < 72057594037927936 := by
  by_cases h : (num l).2.2 = 0
  · exact (num_once l h).2
  · unfold num at h ⊢
    split
    · simp
    · split
      · simp
      · split
        · simp
        · rename_i a b c; rw [if_neg a, if_neg b, if_neg c] at h; simp at h
theorem num_bad (l : List UInt8) (h : ¬ (num l).2.2 = 0) : (num l).1 = 0 ∧ (num l).2.1 = [] := by
  unfold num at h ⊢
  split
  · simp
  · split
    · simp
    · split
      · simp
      · rename_i a b c; rw [if_neg a, if_neg b, if_neg c] at h; simp at h

end Go.Proofs.Ytmnehekcealjhaa.Pk
/- Paths as plain mathematics: what is wrong with one, how two stand, whether the one begins with the other, their texts and bytes. -/
namespace Go.Proofs.Ytmnehekcealjhaa
namespace Pt
open Go.Lib

/-! ### The row of texts -/
theorem cb_self (a : List UInt8) : compareBytes a a = 0 := by
  induction a with
  | nil => rfl
  | cons x a ih => simp [compareBytes, ih]
theorem cb_zero : ∀ {a b : List UInt8}, compareBytes a b = 0 → a = b
  | [], [], _ => rfl
  | [], _ :: _, h => by simp [compareBytes] at h
  | _ :: _, [], h => by simp [compareBytes] at h
  | x :: a, y :: b, h => by
    simp only [compareBytes] at h
    split at h
    · cases h
    · split at h
      · cases h
      · rename_i h1 h2
        have e : x = y := UInt8.le_antisymm (UInt8.not_lt.1 h2) (UInt8.not_lt.1 h1)
        rw [e, cb_zero h]
theorem cb_turn : ∀ (a b : List UInt8), compareBytes b a = - compareBytes a b
  | [], [] => rfl
  | [], _ :: _ => rfl
  | _ :: _, [] => rfl
  | x :: a, y :: b => by
    simp only [compareBytes]
    have h := cb_turn a b
    by_cases h1 : x < y
    · have h2 : ¬ y < x := UInt8.not_lt.2 (UInt8.le_of_lt h1)
      simp [h1, h2]
    · by_cases h2 : y < x
      · simp [h1, h2]
      · simp [h1, h2, h]
theorem cb_cases (a b : List UInt8) : compareBytes a b = -1 ∨ compareBytes a b = 0 ∨ compareBytes a b = 1 := by
  induction a generalizing b with
  | nil => cases b <;> simp [compareBytes]
  | cons x a ih =>
    cases b with
    | nil => simp [compareBytes]
    | cons y b =>
      simp only [compareBytes]
      split
      · simp
      · split
        · simp
        · exact ih b
theorem cb_trans : ∀ (a b c : List UInt8), compareBytes a b ≤ 0 → compareBytes b c ≤ 0 → compareBytes a c ≤ 0
  | [], _, [], _, _ => by simp [compareBytes]
  | [], _, _ :: _, _, _ => by simp [compareBytes]
  | _ :: _, [], _, h, _ => by simp [compareBytes] at h
  | _ :: _, _ :: _, [], _, h => by simp [compareBytes] at h
  | x :: a, y :: b, z :: c, h1, h2 => by
    simp only [compareBytes] at h1 h2 ⊢
    have t := cb_trans a b c
    have hx : x.toNat = x.toNat := rfl
    simp only [UInt8.lt_iff_toNat_lt] at *
    by_cases a1 : x.toNat < y.toNat
    · by_cases a2 : y.toNat < z.toNat
      · have : x.toNat < z.toNat := by omega
        simp [this]
      · rw [if_neg a2] at h2
        by_cases a3 : z.toNat < y.toNat
        · rw [if_pos a3] at h2; omega
        · have : x.toNat < z.toNat := by omega
          simp [this]
    · rw [if_neg a1] at h1
      by_cases a4 : y.toNat < x.toNat
      · rw [if_pos a4] at h1; omega
      · rw [if_neg a4] at h1
        by_cases a2 : y.toNat < z.toNat
        · have : x.toNat < z.toNat := by omega
          simp [this]
        · rw [if_neg a2] at h2
          by_cases a3 : z.toNat < y.toNat
          · rw [if_pos a3] at h2; omega
          · rw [if_neg a3] at h2
            rw [if_neg (by omega), if_neg (by omega)]
            exact t h1 h2
theorem less_iff : ∀ (a b : List UInt8), Op.bytesLess a b = decide (compareBytes a b = -1)
  | [], [] => by simp [Op.bytesLess, compareBytes]
  | [], _ :: _ => by simp [Op.bytesLess, compareBytes]
  | _ :: _, [] => by simp [Op.bytesLess, compareBytes]
  | x :: a, y :: b => by
    have h := less_iff a b
    simp only [Op.bytesLess, compareBytes]
    by_cases h1 : x < y
    · simp [h1]
    · by_cases h2 : y < x
      · have h3 : ¬ x = y := fun e => by subst e; exact h1 h2
        simp [h1, h2, h3]
      · have e : x = y := UInt8.le_antisymm (UInt8.not_lt.1 h2) (UInt8.not_lt.1 h1)
        subst e
        simp [h, h1]

/-! ### What is wrong with a path -/
def check (xs : List (List UInt8)) : Nat := if xs.length = 0 then 8 else if 8 < xs.length then 9 else if xs.all Nm.right = true then 0 else 8
theorem check_none {xs : List (List UInt8)} (h : xs.length = 0) : check xs = 8 := by simp [check, h]
theorem check_deep {xs : List (List UInt8)} (h : 8 < xs.length) : check xs = 9 := by unfold check; rw [if_neg (by omega), if_pos h]
theorem check_all {xs : List (List UInt8)} (h0 : xs.length ≠ 0) (h : ¬ 8 < xs.length) (ha : xs.all Nm.right = true) : check xs = 0 := by unfold check; rw [if_neg h0, if_neg h, if_pos ha]
theorem check_not {xs : List (List UInt8)} (h0 : xs.length ≠ 0) (h : ¬ 8 < xs.length) (ha : xs.all Nm.right = false) : check xs = 8 := by unfold check; rw [if_neg h0, if_neg h, if_neg (by rw [ha]; simp)]
theorem check_le (xs : List (List UInt8)) : check xs ≤ 9 := by unfold check; split <;> (try split) <;> (try split) <;> omega
theorem check_zero {xs : List (List UInt8)} (h : check xs = 0) : 1 ≤ xs.length ∧ xs.length ≤ 8 ∧ ∀ x ∈ xs, Nm.right x = true := by
  unfold check at h
  split at h
  · cases h
  · split at h
    · cases h
    · split at h
      · rename_i h1 h2 h3
        exact ⟨by omega, by omega, fun x hx => List.all_eq_true.1 h3 x hx⟩
      · cases h

theorem width4 (l : List UInt8) : (decodeL l).2 ≤ 4 := by
  rw [decodeL_N]
  unfold decodeN
  repeat' split
  all_goals simp
theorem rgo_len (m : Nat) : ∀ (n : Nat) (l : List UInt8), l.length ≤ m → n ≤ 24 → Nm.rgo n l = true → l.length ≤ 4 * (24 - n) := by
  induction m with
  | zero => intro n l h _ _; omega
  | succ m ih =>
    intro n l h hn hr
    by_cases hne : l = []
    · subst hne; simp
    · by_cases h1 : n = 24 ∨ Nm.may (decodeL l).1 = false
      · rw [Nm.rgo_no hne h1] at hr; cases hr
      · have h2 : n ≠ 24 := fun e => h1 (Or.inl e)
        have h3 : Nm.may (decodeL l).1 = true := by
          cases e : Nm.may (decodeL l).1 with
          | true => rfl
          | false => exact absurd (Or.inr e) h1
        rw [Nm.rgo_step hne h2 h3] at hr
        have h4 := Nm.rest_lt hne
        have h5 := ih (n + 1) (Nm.rest l) (by omega) (by omega) hr
        have h6 := width4 l
        have h7 : (Nm.rest l).length = l.length - (decodeL l).2 := by simp [Nm.rest]
        omega
theorem right_len {l : List UInt8} (h : Nm.right l = true) : l.length ≤ 96 := rgo_len l.length 0 l (Nat.le_refl _) (by omega) h
theorem right_pos {l : List UInt8} (h : Nm.right l = true) : 1 ≤ l.length := by
  cases l with
  | nil => simp [Nm.right, Nm.rgo_nil] at h
  | cons a l => simp

/-! ### How two paths stand -/
def comp : List (List UInt8) → List (List UInt8) → Int
  | [], [] => 0
  | [], _ :: _ => -1
  | _ :: _, [] => 1
  | a :: as, b :: bs => if compareBytes a b = 0 then comp as bs else compareBytes a b
theorem comp_self (xs : List (List UInt8)) : comp xs xs = 0 := by
  induction xs with
  | nil => rfl
  | cons x xs ih => simp [comp, cb_self, ih]
theorem comp_zero : ∀ {xs ys : List (List UInt8)}, comp xs ys = 0 → xs = ys
  | [], [], _ => rfl
  | [], _ :: _, h => by simp [comp] at h
  | _ :: _, [], h => by simp [comp] at h
  | x :: xs, y :: ys, h => by
    simp only [comp] at h
    split at h
    · rename_i h1
      rw [cb_zero h1, comp_zero h]
    · rename_i h1; exact absurd h h1
theorem comp_iff (xs ys : List (List UInt8)) : decide (comp xs ys = 0) = decide (xs = ys) := by
  apply decide_eq_decide.2
  exact ⟨comp_zero, fun h => by rw [h]; exact comp_self _⟩
theorem comp_turn : ∀ (xs ys : List (List UInt8)), comp ys xs = - comp xs ys
  | [], [] => rfl
  | [], _ :: _ => rfl
  | _ :: _, [] => rfl
  | x :: xs, y :: ys => by
    simp only [comp]
    have h := comp_turn xs ys
    have h1 := cb_turn x y
    by_cases h2 : compareBytes x y = 0
    · rw [if_pos h2, if_pos (by omega), h]
    · rw [if_neg h2, if_neg (by omega), h1]
theorem comp_cases (xs ys : List (List UInt8)) : comp xs ys = -1 ∨ comp xs ys = 0 ∨ comp xs ys = 1 := by
  induction xs generalizing ys with
  | nil => cases ys <;> simp [comp]
  | cons x xs ih =>
    cases ys with
    | nil => simp [comp]
    | cons y ys =>
      simp only [comp]
      split
      · exact ih ys
      · exact cb_cases x y
theorem comp_trans : ∀ (a b c : List (List UInt8)), comp a b ≤ 0 → comp b c ≤ 0 → comp a c ≤ 0
  | [], _, [], _, _ => by simp [comp]
  | [], _, _ :: _, _, _ => by simp [comp]
  | _ :: _, [], _, h, _ => by simp [comp] at h
  | _ :: _, _ :: _, [], _, h => by simp [comp] at h
  | x :: a, y :: b, z :: c, h1, h2 => by
    simp only [comp] at h1 h2 ⊢
    have t := comp_trans a b c
    have t0 := cb_trans x y z
    by_cases a1 : compareBytes x y = 0
    · have e := cb_zero a1
      subst e
      rw [if_pos a1] at h1
      by_cases a2 : compareBytes x z = 0
      · rw [if_pos a2] at h2 ⊢; exact t h1 h2
      · rw [if_neg a2] at h2 ⊢; exact h2
    · rw [if_neg a1] at h1
      by_cases a2 : compareBytes y z = 0
      · have e := cb_zero a2
        subst e
        rw [if_neg a1]; exact h1
      · rw [if_neg a2] at h2
        have h3 := t0 h1 h2
        by_cases a3 : compareBytes x z = 0
        · have e := cb_zero a3
          subst e
          have := cb_turn x y
          omega
        · rw [if_neg a3]; exact h3

/-! ### What begins with what -/
def under (xs ys : List (List UInt8)) : Bool := decide (ys.length ≤ xs.length) && decide (xs.take ys.length = ys)
theorem under_nil (xs : List (List UInt8)) : under xs [] = true := by simp [under]
theorem under_iff {xs ys : List (List UInt8)} : under xs ys = true ↔ ∃ r, xs = ys ++ r := by
  unfold under
  constructor
  · intro h
    simp only [Bool.and_eq_true, decide_eq_true_eq] at h
    exact ⟨xs.drop ys.length, by have := List.take_append_drop ys.length xs; rw [h.2] at this; exact this.symm⟩
  · rintro ⟨r, rfl⟩
    simp
theorem comp_app : ∀ (ys r : List (List UInt8)), 0 ≤ comp (ys ++ r) ys
  | [], [] => by simp [comp]
  | [], _ :: _ => by simp [comp]
  | y :: ys, r => by
    have h := comp_app ys r
    simp [comp, cb_self, h]
theorem under_behind {xs ys : List (List UInt8)} (h : under xs ys = true) : 0 ≤ comp xs ys := by
  obtain ⟨r, rfl⟩ := under_iff.1 h
  exact comp_app _ _
theorem under_both {a b c : List (List UInt8)} (h1 : under c a = true) (h2 : under c b = true) : under a b = true ∨ under b a = true := by
  obtain ⟨r, h1⟩ := under_iff.1 h1
  obtain ⟨q, h2⟩ := under_iff.1 h2
  rw [h1] at h2
  rcases List.append_eq_append_iff.1 h2 with ⟨x, e, _⟩ | ⟨x, e, _⟩
  · exact Or.inr (under_iff.2 ⟨x, e⟩)
  · exact Or.inl (under_iff.2 ⟨x, e⟩)

/-! ### Short ones -/
def short (xs : List (List UInt8)) : Bool := decide (xs.length ≤ 12) && xs.all fun x => decide (x.length ≤ 120)
theorem short_iff {xs : List (List UInt8)} (h : short xs = true) : xs.length ≤ 12 ∧ ∀ x ∈ xs, x.length ≤ 120 := by
  unfold short at h
  simp only [Bool.and_eq_true, decide_eq_true_eq] at h
  exact ⟨h.1, fun x hx => by simpa using List.all_eq_true.1 h.2 x hx⟩

/-! ### Texts and bytes -/
theorem joined_join (xs : List (List UInt8)) : join (xs.map Nm.quote) [47] = Nm.joined xs := by
  induction xs with
  | nil => rfl
  | cons x r ih =>
    cases r with
    | nil => simp [join_one, Nm.joined]
    | cons y r =>
      rw [Nm.joined_two, ← ih]
      simp only [List.map_cons]
      rw [join_cons, join_cons]
      simp [joinTail]
def textL (l : List UInt8) : List UInt8 := Pk.enc l.length ++ l
def code (xs : List (List UInt8)) : List UInt8 := Pk.enc xs.length ++ (xs.map textL).flatten
theorem join_empty (xs : List (List UInt8)) : join xs [] = xs.flatten := by
  cases xs with
  | nil => rfl
  | cons x r => rw [join_cons]; simp [joinTail]

end Pt
end Go.Proofs.Ytmnehekcealjhaa
/- Values as plain mathematics: which are right, what is in them, their bytes. -/
namespace Go.Proofs.Ytmnehekcealjhaa
namespace Vl
open Go.Lib
/-- Is a text UTF-8? -/
def utf (l : List UInt8) : Bool := (Nm.runes l).isSome
theorem utf_nil : utf [] = true := rfl
/-- May a value be? -/
def Right (k n : Int) (l : List UInt8) : Prop := (k = 1 ∧ l = [] ∧ -2147483647 ≤ n ∧ n ≤ 2147483647) ∨ (k = 2 ∧ n = 0 ∧ utf l = true ∧ l.length ≤ 64) ∨ (k = 3 ∧ l = [] ∧ 0 ≤ n ∧ n ≤ 1)
def right (k n : Int) (l : List UInt8) : Bool :=
  (decide (k = 1) && (decide (l = []) && (decide (-2147483647 ≤ n) && decide (n ≤ 2147483647)))) || (decide (k = 2) && (decide (n = 0) && (utf l && decide (l.length ≤ 64)))) || (decide (k = 3) && (decide (l = []) && (decide (0 ≤ n) && decide (n ≤ 1))))
theorem right_iff {k n : Int} {l : List UInt8} : right k n l = true ↔ Right k n l := by
  simp [right, Right, or_assoc]
theorem right_no {k n : Int} {l : List UInt8} (h : ¬ Right k n l) : right k n l = false := by
  cases e : right k n l with
  | false => rfl
  | true => exact absurd (right_iff.1 e) h
theorem right_yes {k n : Int} {l : List UInt8} (h : Right k n l) : right k n l = true := right_iff.2 h
theorem Right.len {k n : Int} {l : List UInt8} (h : Right k n l) : l.length ≤ 64 := by
  rcases h with ⟨_, rfl, _⟩ | ⟨_, _, _, h⟩ | ⟨_, rfl, _⟩ <;> simp_all
theorem Right.amount {k n : Int} {l : List UInt8} (h : Right k n l) : -2147483647 ≤ n ∧ n ≤ 2147483647 := by
  rcases h with ⟨_, _, h1, h2⟩ | ⟨_, rfl, _, h⟩ | ⟨_, _, h1, h2⟩ <;> omega
theorem Right.kind {k n : Int} {l : List UInt8} (h : Right k n l) : 1 ≤ k ∧ k ≤ 3 := by
  rcases h with ⟨rfl, _⟩ | ⟨rfl, _⟩ | ⟨rfl, _⟩ <;> omega
theorem Right.utf {k n : Int} {l : List UInt8} (h : Right k n l) : utf l = true := by
  rcases h with ⟨_, rfl, _⟩ | ⟨_, _, h, _⟩ | ⟨_, rfl, _⟩
  · rfl
  · exact h
  · rfl

/-! ### What is in a value, and the way back -/
inductive In where
  | int (n : Int)
  | str (l : List UInt8)
  | bool (b : Bool)
def inside (k n : Int) (l : List UInt8) : In := if k = 1 then .int n else if k = 2 then .str l else .bool (n == 1)
def In.k : In → Int | .int _ => 1 | .str _ => 2 | .bool _ => 3
def In.n : In → Int | .int n => n | .str _ => 0 | .bool b => if b then 1 else 0
def In.s : In → List UInt8 | .int _ => [] | .str l => l | .bool _ => []
def In.is (x : In) (k n : Int) (l : List UInt8) : Prop := x.k = k ∧ x.n = n ∧ x.s = l
theorem inside_is {k n : Int} {l : List UInt8} (h : Right k n l) : (inside k n l).is k n l := by
  rcases h with ⟨rfl, rfl, _⟩ | ⟨rfl, rfl, _⟩ | ⟨rfl, rfl, h1, h2⟩
  · exact ⟨rfl, rfl, rfl⟩
  · exact ⟨rfl, rfl, rfl⟩
  · have : n = 0 ∨ n = 1 := by omega
    rcases this with rfl | rfl <;> exact ⟨rfl, rfl, rfl⟩
theorem right_of_is {k n : Int} {l : List UInt8} (h : (inside k n l).is k n l) (h1 : -2147483647 ≤ n) (h2 : n ≤ 2147483647) (h3 : l.length ≤ 64) (h4 : utf l = true) : Right k n l := by
  obtain ⟨a, b, c⟩ := h
  unfold inside at a b c
  split at a
  · rename_i e
    rw [if_pos e] at c
    exact .inl ⟨e, c.symm, h1, h2⟩
  · rename_i e
    rw [if_neg e] at b c
    split at a
    · rename_i e2
      rw [if_pos e2] at b
      exact .inr (.inl ⟨e2, b.symm, h4, h3⟩)
    · rename_i e2
      rw [if_neg e2] at b c
      refine .inr (.inr ⟨a.symm, c.symm, ?_⟩)
      cases hb : (n == 1) <;> rw [hb] at b <;> simp [In.n] at b <;> omega
/-! ### Bytes -/
def fold (n : Int) : Int := if n < 0 then -2 * n - 1 else 2 * n
theorem fold_pos (n : Int) : 0 ≤ fold n := by unfold fold; split <;> omega
theorem fold_le {n : Int} (h1 : -2147483647 ≤ n) (h2 : n ≤ 2147483647) : fold n ≤ 4294967294 := by unfold fold; split <;> omega
def unfold' (n : Int) : Int := if n % 2 = 0 then n / 2 else -(n / 2) - 1
theorem unfold_fold (n : Int) : unfold' (fold n) = n := by
  unfold unfold' fold
  split <;> split <;> omega
/-- A right value's bytes. -/
def code (k n : Int) (l : List UInt8) : List UInt8 := Pk.enc k.toNat ++ (if k = 2 then Pk.enc l.length ++ l else Pk.enc (fold n).toNat)

end Vl
end Go.Proofs.Ytmnehekcealjhaa
/- Dots as plain mathematics: which are right, how they stand. -/
namespace Go.Proofs.Ytmnehekcealjhaa
namespace Dt
/-- How two numbers stand: -1, 0, 1. -/
def compareInt (x y : Int) : Int := if x < y then -1 else if y < x then 1 else 0

/-- May a dot be? -/
def right (r n : Int) : Bool := decide (0 ≤ r) && decide (r < 16) && decide (1 ≤ n) && decide (n ≤ 1048576)
theorem right_iff {r n : Int} : right r n = true ↔ 0 ≤ r ∧ r < 16 ∧ 1 ≤ n ∧ n ≤ 1048576 := by simp [right, and_assoc]
/-- How two stand: by the first number, then by the second. -/
def two (x y : Int) : Int := if x = 0 then y else x
def comp (r n r' n' : Int) : Int := two (compareInt r r') (compareInt n n')
theorem compareInt_zero {x y : Int} : compareInt x y = 0 ↔ x = y := by
  unfold compareInt; constructor
  · intro h; split at h
    · cases h
    · split at h
      · cases h
      · omega
  · rintro rfl; simp
theorem compareInt_cases (x y : Int) : (x < y ∧ compareInt x y = -1) ∨ (x = y ∧ compareInt x y = 0) ∨ (y < x ∧ compareInt x y = 1) := by
  unfold compareInt
  by_cases h : x < y
  · left; exact ⟨h, if_pos h⟩
  · by_cases h' : y < x
    · right; right; exact ⟨h', by rw [if_neg h, if_pos h']⟩
    · right; left; exact ⟨by omega, by rw [if_neg h, if_neg h']⟩
theorem comp_cases (r n r' n' : Int) : ((r < r' ∨ (r = r' ∧ n < n')) ∧ comp r n r' n' = -1) ∨ (r = r' ∧ n = n' ∧ comp r n r' n' = 0) ∨ ((r' < r ∨ (r = r' ∧ n' < n)) ∧ comp r n r' n' = 1) := by
  unfold comp two
  rcases compareInt_cases r r' with ⟨h, e⟩ | ⟨h, e⟩ | ⟨h, e⟩ <;> rw [e]
  · left; exact ⟨.inl h, by simp⟩
  · rcases compareInt_cases n n' with ⟨h2, e2⟩ | ⟨h2, e2⟩ | ⟨h2, e2⟩ <;> rw [e2]
    · left; exact ⟨.inr ⟨h, h2⟩, by simp⟩
    · right; left; exact ⟨h, h2, by simp⟩
    · right; right; exact ⟨.inr ⟨h, h2⟩, by simp⟩
  · right; right; exact ⟨.inl h, by simp⟩

end Dt
end Go.Proofs.Ytmnehekcealjhaa
/- Operations as plain mathematics: how references stand, which rise, what is wrong with an operation, its bytes. -/
namespace Go.Proofs.Ytmnehekcealjhaa

/-- A dot; a reference: a dot and a place. -/
abbrev D := Int × Int
abbrev U := D × Int

namespace Os
/-! ### How references stand -/
def comp (x y : U) : Int := Dt.two (Dt.comp x.1.1 x.1.2 y.1.1 y.1.2) (Dt.compareInt x.2 y.2)
abbrev lt (x y : U) : Prop := x.1.1 < y.1.1 ∨ (x.1.1 = y.1.1 ∧ (x.1.2 < y.1.2 ∨ (x.1.2 = y.1.2 ∧ x.2 < y.2)))
theorem comp_cases (x y : U) : (lt x y ∧ comp x y = -1) ∨ (x = y ∧ comp x y = 0) ∨ (lt y x ∧ comp x y = 1) := by
  obtain ⟨⟨a, b⟩, c⟩ := x
  obtain ⟨⟨a', b'⟩, c'⟩ := y
  simp only [comp, Dt.two, lt, Prod.mk.injEq]
  have h1 := Dt.comp_cases a b a' b'
  have h2 := Dt.compareInt_cases c c'
  generalize Dt.comp a b a' b' = z at *
  generalize Dt.compareInt c c' = q at *
  split <;> omega
theorem lt_trans {x y z : U} (h : lt x y) (k : lt y z) : lt x z := by simp only [lt] at *; omega
theorem lt_irrefl (x : U) : ¬ lt x x := by simp only [lt]; omega
theorem lt_ne {x y : U} (h : lt x y) : x ≠ y := fun e => lt_irrefl x (by rw [← e] at h; exact h)
theorem comp_zero {x y : U} : comp x y = 0 ↔ x = y := by
  rcases comp_cases x y with ⟨h, e⟩ | ⟨h, e⟩ | ⟨h, e⟩
  · exact ⟨fun k => by omega, fun k => absurd k (lt_ne h)⟩
  · exact ⟨fun _ => h, fun _ => e⟩
  · exact ⟨fun k => by omega, fun k => absurd k.symm (lt_ne h)⟩
theorem comp_neg {x y : U} : comp x y = -1 ↔ lt x y := by
  rcases comp_cases x y with ⟨h, e⟩ | ⟨h, e⟩ | ⟨h, e⟩
  · exact ⟨fun _ => h, fun _ => e⟩
  · exact ⟨fun k => by omega, fun k => absurd h (lt_ne k)⟩
  · exact ⟨fun k => by omega, fun k => absurd (lt_trans h k) (lt_irrefl y)⟩
theorem cf_lt (x y : U) : decide (comp x y < 0) = decide (lt x y) := by
  rw [decide_eq_decide, ← comp_neg]
  rcases comp_cases x y with ⟨_, e⟩ | ⟨_, e⟩ | ⟨_, e⟩ <;> omega
theorem cf_eq (x y : U) : decide (comp x y = 0) = decide (x = y) := by rw [decide_eq_decide]; exact comp_zero

/-! ### References that rise -/
def ok (u : U) : Bool := Dt.right u.1.1 u.1.2 && decide (0 ≤ u.2) && decide (u.2 ≤ 15)
abbrev Ups (l : List U) : Prop := (∀ u ∈ l, ok u = true) ∧ l.Pairwise lt
def ups (l : List U) : Bool := decide (Ups l)
theorem ups_iff {l : List U} : ups l = true ↔ Ups l := by simp [ups]
theorem ups_nil : Ups [] := ⟨fun u h => by simp at h, List.Pairwise.nil⟩
theorem ups_step {l : List U} {k : Nat} (h : Ups (l.take k)) (hk : k < l.length) (ho : ok l[k] = true) (hl : k = 0 ∨ ∃ h1 : k - 1 < l.length, lt l[k - 1] l[k]) : Ups (l.take (k + 1)) := by
  rw [List.take_succ_eq_append_getElem hk]
  refine ⟨fun u hu => ?_, List.pairwise_append.2 ⟨h.2, List.pairwise_singleton _ _, fun a ha b hb => ?_⟩⟩
  · rcases List.mem_append.1 hu with hu | hu
    · exact h.1 u hu
    · rw [List.mem_singleton.1 hu]; exact ho
  · rw [List.mem_singleton.1 hb]
    obtain ⟨i, hi, rfl⟩ := List.mem_iff_getElem.1 ha
    rw [List.length_take] at hi
    rcases hl with rfl | ⟨h1, hl⟩
    · omega
    · rw [List.getElem_take]
      by_cases e : i = k - 1
      · subst e; exact hl
      · have := List.pairwise_iff_getElem.1 h.2 i (k - 1) (by rw [List.length_take]; omega) (by rw [List.length_take]; omega) (by omega)
        rw [List.getElem_take, List.getElem_take] at this
        exact lt_trans this hl
theorem not_ok {l : List U} {k : Nat} (hk : k < l.length) (ho : ok l[k] = false) : ups l = false := by
  cases e : ups l with
  | false => rfl
  | true => rw [(ups_iff.1 e).1 _ (List.getElem_mem hk)] at ho; cases ho
theorem not_lt {l : List U} {k : Nat} (hk : k + 1 < l.length) (ho : ¬ lt l[k] l[k + 1]) : ups l = false := by
  cases e : ups l with
  | false => rfl
  | true => exact absurd (List.pairwise_iff_getElem.1 (ups_iff.1 e).2 k (k + 1) (by omega) hk (by omega)) ho
theorem ok_parts (u : U) : ok u = (Dt.right u.1.1 u.1.2 && decide (0 ≤ u.2) && decide (u.2 ≤ 15)) := rfl

/-! ### Operations -/
structure Op where
  k : Int
  p : List (List UInt8)
  vk : Int
  vn : Int
  vs : List UInt8
  n : Int
  l : List U
/-- The leaf of a kind. -/
def leaf (k : Int) : Int := if k = 1 then 1 else if k = 2 ∨ k = 4 then 2 else if k = 3 then 3 else 0
def hv (k : Int) : Bool := decide (k = 1 ∨ k = 2 ∨ k = 4)
def ha (k : Int) : Bool := decide (k = 3)
def hs (k : Int) : Bool := decide (k = 1 ∨ k = 4 ∨ k = 5)
/-- The value, the amount that the kind asks for, or none. -/
def rv (o : Op) : Bool := if hv o.k = true then Vl.right o.vk o.vn o.vs else decide (o.vk = 0 ∧ o.vn = 0 ∧ o.vs = [])
def ra (o : Op) : Bool := if ha o.k = true then decide (o.n ≠ 0 ∧ -2147483647 ≤ o.n ∧ o.n ≤ 2147483647) else decide (o.n = 0)
/-- What is wrong with an operation. -/
def check (o : Op) : Nat :=
  if o.k < 1 ∨ 5 < o.k then 18 else if Pt.check o.p ≠ 0 then Pt.check o.p else
  if rv o = false ∨ ra o = false ∨ (hs o.k = false ∧ 0 < o.l.length) then 2 else if 256 < o.l.length then 7 else if ups o.l = false then 2 else 0
def same (a b : Op) : Bool := decide (a.k = b.k ∧ a.p = b.p ∧ (a.vk = b.vk ∧ a.vn = b.vn ∧ a.vs = b.vs) ∧ a.n = b.n ∧ a.l = b.l)
def gone (o : Op) : Bool := decide (o.k = 0 ∧ o.p = [] ∧ (o.vk = 0 ∧ o.vn = 0 ∧ o.vs = []) ∧ o.n = 0 ∧ o.l = [])
def short (o : Op) : Bool := Pt.short o.p && decide (o.vs.length ≤ 200) && decide (o.l.length ≤ 300)
theorem same_self (a : Op) : same a a = true := by simp [same]
theorem gone_is {o : Op} (h : gone o = true) : o = ⟨0, [], 0, 0, [], 0, []⟩ := by
  obtain ⟨k, p, vk, vn, vs, n, l⟩ := o
  simp only [gone, decide_eq_true_eq] at h
  obtain ⟨h1, h2, ⟨h3, h4, h5⟩, h6, h7⟩ := h
  subst h1 h2 h3 h4 h5 h6 h7
  rfl
theorem check_zero {o : Op} (h : check o = 0) : 1 ≤ o.k ∧ o.k ≤ 5 ∧ Pt.check o.p = 0 ∧ rv o = true ∧ ra o = true ∧ (hs o.k = true ∨ o.l = []) ∧ o.l.length ≤ 256 ∧ ups o.l = true := by
  unfold check at h
  split at h
  · omega
  · split at h
    · omega
    · split at h
      · omega
      · split at h
        · omega
        · split at h
          · omega
          · rename_i h1 h2 h3 h4 h5
            simp only [not_or, Bool.not_eq_false, not_and] at h3
            refine ⟨by omega, by omega, by omega, h3.1, h3.2.1, ?_, by omega, by simpa using h5⟩
            by_cases e : hs o.k = true
            · exact .inl e
            · have := h3.2.2 (by simpa using e)
              exact .inr (List.eq_nil_of_length_eq_zero (by omega))

/-! ### Bytes -/
def rcode (u : U) : List UInt8 := (Pk.enc u.1.1.toNat ++ Pk.enc u.1.2.toNat) ++ Pk.enc u.2.toNat
def rcodes (l : List U) : List UInt8 := l.flatMap rcode
def lcode (l : List U) : List UInt8 := Pk.enc l.length ++ rcodes l
/-- So many of the references' bytes, behind others. -/
def rTo (l : List U) (s : List UInt8) (k : Nat) : List UInt8 := s ++ rcodes (l.take k)
theorem rTo_zero (l : List U) (s : List UInt8) : rTo l s 0 = s := by simp [rTo, rcodes]
theorem rTo_step (l : List U) (s : List UInt8) {k : Nat} (h : k < l.length) : rTo l s (k + 1) = (rTo l s k ++ (Pk.enc (l[k]).1.1.toNat ++ Pk.enc (l[k]).1.2.toNat)) ++ Pk.enc (l[k]).2.toNat := by
  unfold rTo rcodes
  rw [List.take_succ_eq_append_getElem h, List.flatMap_append, List.flatMap_cons, List.flatMap_nil]
  simp only [rcode, List.append_nil, List.append_assoc]
theorem rTo_all (l : List U) (s : List UInt8) : rTo l s l.length = s ++ rcodes l := by simp [rTo]
theorem rcodes_cons (u : U) (l : List U) : rcodes (u :: l) = rcode u ++ rcodes l := rfl
theorem rcodes_drop {l : List U} {k : Nat} (h : k < l.length) : rcodes (l.drop k) = (Pk.enc (l[k]).1.1.toNat ++ Pk.enc (l[k]).1.2.toNat) ++ (Pk.enc (l[k]).2.toNat ++ rcodes (l.drop (k + 1))) := by
  rw [List.drop_eq_getElem_cons h, rcodes_cons, rcode]
  simp
/-- The numbers of right references are small. -/
theorem ok_small {u : U} (h : ok u = true) : (0 ≤ u.1.1 ∧ u.1.1 < 16) ∧ (1 ≤ u.1.2 ∧ u.1.2 ≤ 1048576) ∧ 0 ≤ u.2 ∧ u.2 ≤ 15 := by
  simp only [ok, Bool.and_eq_true, decide_eq_true_eq] at h
  have := Dt.right_iff.1 h.1.1
  omega
theorem rcode_len {u : U} (h : ok u = true) : (rcode u).length ≤ 27 := by
  have hs := ok_small h
  have h1 := Pk.enc_len9 (n := u.1.1.toNat) (by omega)
  have h2 := Pk.enc_len9 (n := u.1.2.toNat) (by omega)
  have h3 := Pk.enc_len9 (n := u.2.toNat) (by omega)
  simp only [rcode, List.length_append]
  omega
theorem rcode_pos (u : U) : 1 ≤ (rcode u).length := by
  have := Pk.enc_pos u.1.1.toNat
  simp only [rcode, List.length_append]
  omega
theorem rcodes_len : ∀ {l : List U}, (∀ u ∈ l, ok u = true) → (rcodes l).length ≤ 27 * l.length
  | [], _ => by simp [rcodes]
  | u :: l, h => by
    have h1 := rcodes_len (l := l) (fun x hx => h x (by simp [hx]))
    have h2 := rcode_len (h u (by simp))
    rw [rcodes_cons, List.length_append, List.length_cons]
    omega
theorem rcodes_ge : ∀ l : List U, l.length ≤ (rcodes l).length
  | [] => by simp
  | u :: l => by
    have h1 := rcodes_ge l
    have h2 := rcode_pos u
    rw [rcodes_cons, List.length_append, List.length_cons]
    omega
/-- An operation's bytes, behind its kind and path. -/
def tail (o : Op) : List UInt8 := (if hv o.k = true then Vl.code o.vk o.vn o.vs else []) ++ ((if ha o.k = true then Pk.enc (Vl.fold o.n).toNat else []) ++ (if hs o.k = true then lcode o.l else []))
def code (o : Op) : List UInt8 := if gone o = true then Pk.enc o.k.toNat else Pk.enc o.k.toNat ++ (Pt.code o.p ++ tail o)

/-! ### What is named once -/
theorem ups_nodup {l : List U} (h : Ups l) : l.Nodup := h.2.imp lt_ne
theorem count_le {l : List U} (h : Ups l) (x : U) : l.count x ≤ 1 := List.nodup_iff_count.1 (ups_nodup h)  x
theorem count_mem {l : List U} (h : Ups l) (x : U) : decide (x ∈ l) = decide ((l.count x : Int) = 1) := by
  rw [decide_eq_decide]
  have h1 := count_le h x
  have h2 := List.count_pos_iff (a := x) (l := l)
  constructor
  · intro k; have := h2.2 k; omega
  · intro k; exact h2.1 (by omega)
theorem count_step (l : List U) (x : U) {k : Nat} (h : k < l.length) : (l.take (k + 1)).count x = (l.take k).count x + (if l[k] = x then 1 else 0) := by
  rw [List.take_succ_eq_append_getElem h, List.count_append, List.count_singleton]
  by_cases e : l[k] = x <;> simp [e]
end Os
end Go.Proofs.Ytmnehekcealjhaa
