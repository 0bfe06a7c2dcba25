/- Names of keys, as plain functions over bytes: the characters of a text, whether it is a name, the name that it is like, quoted, split; and what follows. Nothing of the program is named. -/
import Derived.Lib.MapLaws
import Derived.Lib.Strings
namespace Go.Proofs.YthlhopdlkkeohaaGreatDoor.Nm
open Go.Lib

/-- The bytes in front are no character's. -/
def isBad (l : List UInt8) : Bool := (decodeL l).1 == 65533 && (decodeL l).2 == 1
theorem isBad_iff (l : List UInt8) : isBad l = true ↔ ((decodeL l).1 = 65533 ∧ (decodeL l).2 = 1) := by simp [isBad]
theorem not_bad {l : List UInt8} (h : isBad l = false) : ¬ ((decodeL l).1 = 65533 ∧ (decodeL l).2 = 1) := fun h1 => by rw [(isBad_iff l).2 h1] at h; cases h
theorem bad_width {l : List UInt8} (h : isBad l = true) : (decodeL l).2 = 1 := ((isBad_iff l).1 h).2
theorem bad_rune {l : List UInt8} (h : isBad l = true) : (decodeL l).1 = 65533 := ((isBad_iff l).1 h).1
theorem not_bad_of {l : List UInt8} (h : (decodeL l).1 ≠ 65533) : isBad l = false := by
  cases hb : isBad l with
  | false => rfl
  | true => exact absurd (bad_rune hb) h

theorem decodeN_one (n b0 b1 b2 b3 : Nat) (h : b0 < 128) : decodeN n b0 b1 b2 b3 = (b0, 1) := by unfold decodeN; rw [if_pos h]
theorem decodeN_two (n b0 b1 b2 b3 : Nat) (c1 : b0 / 32 = 6) (c2 : 1 < n) (c3 : b1 / 64 = 2) (cv : 128 ≤ b0 % 32 * 64 + b1 % 64) : decodeN n b0 b1 b2 b3 = (b0 % 32 * 64 + b1 % 64, 2) := by
  unfold decodeN
  rw [if_neg (by omega), if_pos ⟨c1, c2, c3⟩, if_pos cv]
theorem decodeN_three (n b0 b1 b2 b3 : Nat) (c1 : b0 / 16 = 14) (c2 : 2 < n) (c3 : b1 / 64 = 2) (c4 : b2 / 64 = 2) (cv : 2048 ≤ b0 % 16 * 4096 + b1 % 64 * 64 + b2 % 64) (cs : b0 % 16 * 4096 + b1 % 64 * 64 + b2 % 64 < 55296 ∨ 57344 ≤ b0 % 16 * 4096 + b1 % 64 * 64 + b2 % 64) :
    decodeN n b0 b1 b2 b3 = (b0 % 16 * 4096 + b1 % 64 * 64 + b2 % 64, 3) := by
  unfold decodeN
  rw [if_neg (by omega), if_neg (by omega), if_pos ⟨c1, ⟨by omega, c3⟩, c2, c4⟩, if_pos ⟨cv, by omega⟩]
theorem decodeN_four (n b0 b1 b2 b3 : Nat) (c1 : b0 / 8 = 30) (c2 : 3 < n) (c3 : b1 / 64 = 2) (c4 : b2 / 64 = 2) (c5 : b3 / 64 = 2) (cv : 65536 ≤ b0 % 8 * 262144 + b1 % 64 * 4096 + b2 % 64 * 64 + b3 % 64) (cw : b0 % 8 * 262144 + b1 % 64 * 4096 + b2 % 64 * 64 + b3 % 64 ≤ 1114111) :
    decodeN n b0 b1 b2 b3 = (b0 % 8 * 262144 + b1 % 64 * 4096 + b2 % 64 * 64 + b3 % 64, 4) := by
  unfold decodeN
  rw [if_neg (by omega), if_neg (by omega), if_neg (by omega), if_pos ⟨c1, ⟨by omega, c3⟩, ⟨by omega, c4⟩, c2, c5⟩, if_pos ⟨cv, by omega⟩]

/-- A character that stands in front is told by its own bytes, whatever stands behind them. -/
theorem decode_prefix (l : List UInt8) (hne : l ≠ []) (hb : isBad l = false) (t : List UInt8) : decodeL (l.take (decodeL l).2 ++ t) = decodeL l := by
  have hl : 0 < l.length := List.length_pos_iff.2 hne
  have hv := not_bad hb
  rw [decodeL_N l] at hv ⊢
  rcases decodeN_shape l.length (l.getD 0 0).toNat (l.getD 1 0).toNat (l.getD 2 0).toNat (l.getD 3 0).toNat with ⟨c, e⟩ | ⟨c1, c2, c3, cv, e⟩ | ⟨c1, c2, c3, c4, cv, cs, e⟩ | ⟨c1, c2, c3, c4, c5, cv, cw, e⟩ | e
  · rw [e]
    dsimp only
    rw [takeA l hl, decodeL_N]
    exact decodeN_one _ _ _ _ _ (by simpa using c)
  · rw [e]
    dsimp only
    rw [takeB l c2, decodeL_N]
    exact decodeN_two _ _ _ _ _ (by simpa using c1) (by simp) (by simpa using c3) (by simpa using cv)
  · rw [e]
    dsimp only
    rw [takeC l c2, decodeL_N]
    exact decodeN_three _ _ _ _ _ (by simpa using c1) (by simp) (by simpa using c3) (by simpa using c4) (by simpa using cv) (by simpa using cs)
  · rw [e]
    dsimp only
    rw [takeD l c2, decodeL_N]
    exact decodeN_four _ _ _ _ _ (by simpa using c1) (by simp) (by simpa using c3) (by simpa using c4) (by simpa using c5) (by simpa using cv) (by simpa using cw)
  · rw [e] at hv
    exact absurd ⟨rfl, rfl⟩ hv

/-- What stands in front is one byte below 128, or bytes of 128 and above alone. -/
theorem chunk (l : List UInt8) (hne : l ≠ []) : ((l.getD 0 0).toNat < 128 ∧ decodeL l = ((l.getD 0 0).toNat, 1)) ∨ (128 ≤ (l.getD 0 0).toNat ∧ 128 ≤ (decodeL l).1 ∧ ∀ x ∈ l.take (decodeL l).2, 128 ≤ x.toNat) := by
  have hl : 0 < l.length := List.length_pos_iff.2 hne
  rw [decodeL_N l]
  have k0 := (l.getD 0 0).toNat_lt
  rcases decodeN_shape l.length (l.getD 0 0).toNat (l.getD 1 0).toNat (l.getD 2 0).toNat (l.getD 3 0).toNat with ⟨c, e⟩ | ⟨c1, c2, c3, cv, e⟩ | ⟨c1, c2, c3, c4, cv, cs, e⟩ | ⟨c1, c2, c3, c4, c5, cv, cw, e⟩ | e
  · exact .inl ⟨c, e⟩
  · rw [e]
    dsimp only
    rw [takeB l c2]
    refine .inr ⟨by omega, by omega, ?_⟩
    intro x hx
    simp only [List.mem_cons, List.not_mem_nil, or_false] at hx
    rcases hx with rfl | rfl <;> omega
  · rw [e]
    dsimp only
    rw [takeC l c2]
    refine .inr ⟨by omega, by omega, ?_⟩
    intro x hx
    simp only [List.mem_cons, List.not_mem_nil, or_false] at hx
    rcases hx with rfl | rfl | rfl <;> omega
  · rw [e]
    dsimp only
    rw [takeD l c2]
    refine .inr ⟨by omega, by omega, ?_⟩
    intro x hx
    simp only [List.mem_cons, List.not_mem_nil, or_false] at hx
    rcases hx with rfl | rfl | rfl | rfl <;> omega
  · have hb : ¬ (l.getD 0 0).toNat < 128 := by
      intro h
      rw [decodeN_one _ _ _ _ _ h] at e
      have := congrArg Prod.fst e
      simp only at this
      omega
    rw [e]
    dsimp only
    rw [takeA l hl]
    refine .inr ⟨by omega, by omega, ?_⟩
    intro x hx
    simp only [List.mem_cons, List.not_mem_nil, or_false] at hx
    rcases hx with rfl
    omega

/-- What the document's own reader tells of the bytes in front. -/
def charL (l : List UInt8) : Nat × Nat := if l = [] ∨ isBad l = true then (0, 0) else decodeL l
theorem charL_nil : charL [] = (0, 0) := by simp [charL]
theorem charL_bad {l : List UInt8} (h : isBad l = true) : charL l = (0, 0) := by simp [charL, h]
theorem charL_good {l : List UInt8} (hne : l ≠ []) (h : isBad l = false) : charL l = decodeL l := by simp [charL, h, hne]

theorem ff_bad {l : List UInt8} (h : decodeN l.length (l.getD 0 0).toNat (l.getD 1 0).toNat (l.getD 2 0).toNat (l.getD 3 0).toNat = (65533, 1)) : charL l = (0, 0) := by
  apply charL_bad
  rw [isBad_iff, decodeL_N, h]
  exact ⟨rfl, rfl⟩
theorem charL_one (l : List UInt8) (hne : l ≠ []) (h : (l.getD 0 0).toNat < 128) : charL l = ((l.getD 0 0).toNat, 1) := by
  have e : decodeL l = ((l.getD 0 0).toNat, 1) := by rw [decodeL_N]; exact decodeN_one _ _ _ _ _ h
  rw [charL_good hne (not_bad_of (by rw [e]; dsimp only; omega)), e]
theorem charL_else (l : List UInt8) (h : (128 ≤ (l.getD 0 0).toNat ∧ (l.getD 0 0).toNat < 194) ∨ 245 ≤ (l.getD 0 0).toNat) : charL l = (0, 0) := by
  apply ff_bad
  have k0 := (l.getD 0 0).toNat_lt
  have k1 := (l.getD 1 0).toNat_lt
  have k2 := (l.getD 2 0).toNat_lt
  have k3 := (l.getD 3 0).toNat_lt
  revert h k0 k1 k2 k3
  generalize (l.getD 0 0).toNat = b0, (l.getD 1 0).toNat = b1, (l.getD 2 0).toNat = b2, (l.getD 3 0).toNat = b3, l.length = n
  intro h k0 k1 k2 k3
  unfold decodeN
  repeat' split
  all_goals first | rfl | (exfalso; omega)

/-- The classes of a first byte: how many bytes, the least, what is left of the first. -/
def cls (b0 n least base : Nat) : Prop := (194 ≤ b0 ∧ b0 < 224 ∧ n = 2 ∧ least = 128 ∧ base = b0 - 192) ∨ (224 ≤ b0 ∧ b0 < 240 ∧ n = 3 ∧ least = 2048 ∧ base = b0 - 224) ∨ (240 ≤ b0 ∧ b0 < 245 ∧ n = 4 ∧ least = 65536 ∧ base = b0 - 240)
/-- What is reckoned of the first bytes. -/
def acc (l : List UInt8) (base : Nat) : Nat → Nat
  | 0 => base
  | k + 1 => 64 * acc l base k + (l.getD (k + 1) 0).toNat - 128
theorem acc_zero (l : List UInt8) (base : Nat) : acc l base 0 = base := rfl
theorem acc_succ (l : List UInt8) (base k : Nat) : acc l base (k + 1) = 64 * acc l base k + (l.getD (k + 1) 0).toNat - 128 := rfl
theorem acc_one (l : List UInt8) (base : Nat) : acc l base 1 = 64 * base + (l.getD 1 0).toNat - 128 := rfl
theorem acc_two (l : List UInt8) (base : Nat) : acc l base 2 = 64 * (64 * base + (l.getD 1 0).toNat - 128) + (l.getD 2 0).toNat - 128 := rfl
theorem acc_three (l : List UInt8) (base : Nat) : acc l base 3 = 64 * (64 * (64 * base + (l.getD 1 0).toNat - 128) + (l.getD 2 0).toNat - 128) + (l.getD 3 0).toNat - 128 := rfl
theorem acc_lt (l : List UInt8) (base : Nat) (hb : base < 32) (k : Nat) : acc l base k + 3 ≤ 224 * 64 ^ k := by
  induction k with
  | zero => rw [acc_zero]; omega
  | succ k ih =>
    have := (l.getD (k + 1) 0).toNat_lt
    have h1 : 1 ≤ 64 ^ k := Nat.one_le_pow _ _ (by omega)
    rw [acc_succ, Nat.pow_succ]
    omega
theorem acc_bound (l : List UInt8) (base : Nat) (hb : base < 32) (k : Nat) (hk : k ≤ 3) : acc l base k < 58720256 := by
  have h := acc_lt l base hb k
  have h1 : 64 ^ k ≤ 64 ^ 3 := Nat.pow_le_pow_right (by omega) hk
  have h2 : 64 ^ 3 = 262144 := by decide
  omega

theorem cls_short (l : List UInt8) (n least base : Nat) (h : cls (l.getD 0 0).toNat n least base) (hs : l.length < n) : charL l = (0, 0) := by
  apply ff_bad
  unfold cls at h
  revert h hs
  generalize (l.getD 0 0).toNat = b0, (l.getD 1 0).toNat = b1, (l.getD 2 0).toNat = b2, (l.getD 3 0).toNat = b3, l.length = m
  intro h hs
  unfold decodeN
  repeat' split
  all_goals first | rfl | (exfalso; omega)
theorem cls_stop (l : List UInt8) (n least base k : Nat) (h : cls (l.getD 0 0).toNat n least base) (h1 : 1 ≤ k) (hk : k < n) (hs : (l.getD k 0).toNat < 128 ∨ 191 < (l.getD k 0).toNat) : charL l = (0, 0) := by
  apply ff_bad
  unfold cls at h
  have hk4 : k = 1 ∨ k = 2 ∨ k = 3 := by omega
  have k1 := (l.getD 1 0).toNat_lt
  have k2 := (l.getD 2 0).toNat_lt
  have k3 := (l.getD 3 0).toNat_lt
  rcases hk4 with rfl | rfl | rfl
  all_goals
    revert h hs k1 k2 k3
    generalize (l.getD 0 0).toNat = b0, (l.getD 1 0).toNat = b1, (l.getD 2 0).toNat = b2, (l.getD 3 0).toNat = b3, l.length = m
    intro h hs k1 k2 k3
    unfold decodeN
    repeat' split
    all_goals first | rfl | (exfalso; omega)
set_option maxRecDepth 20000 in
theorem cls_wrong (l : List UInt8) (n least base v : Nat) (h : cls (l.getD 0 0).toNat n least base) (hs : ∀ j, 1 ≤ j → j < n → 128 ≤ (l.getD j 0).toNat ∧ (l.getD j 0).toNat ≤ 191)
    (hv : acc l base (n - 1) = v) (hc : v < least ∨ 1114111 < v ∨ (55296 ≤ v ∧ v ≤ 57343)) : charL l = (0, 0) := by
  unfold cls at h
  apply ff_bad
  rcases h with ⟨h0, h1, rfl, rfl, rfl⟩ | ⟨h0, h1, rfl, rfl, rfl⟩ | ⟨h0, h1, rfl, rfl, rfl⟩
  · have g1 := hs 1 (by omega) (by omega)
    have hv' : 64 * ((l.getD 0 0).toNat - 192) + (l.getD 1 0).toNat - 128 = v := hv
    omega
  · have g1 := hs 1 (by omega) (by omega)
    have g2 := hs 2 (by omega) (by omega)
    have hv' : 64 * (64 * ((l.getD 0 0).toNat - 224) + (l.getD 1 0).toNat - 128) + (l.getD 2 0).toNat - 128 = v := hv
    clear hv hs
    revert hc g1 g2 h0 h1 hv'
    generalize (l.getD 0 0).toNat = b0, (l.getD 1 0).toNat = b1, (l.getD 2 0).toNat = b2, (l.getD 3 0).toNat = b3, l.length = m
    intro hc g1 g2 h0 h1 hv'
    unfold decodeN
    repeat' split
    all_goals first | rfl | (exfalso; omega)
  · have g1 := hs 1 (by omega) (by omega)
    have g2 := hs 2 (by omega) (by omega)
    have g3 := hs 3 (by omega) (by omega)
    have hv' : 64 * (64 * (64 * ((l.getD 0 0).toNat - 240) + (l.getD 1 0).toNat - 128) + (l.getD 2 0).toNat - 128) + (l.getD 3 0).toNat - 128 = v := hv
    clear hv hs
    revert hc g1 g2 g3 h0 h1 hv'
    generalize (l.getD 0 0).toNat = b0, (l.getD 1 0).toNat = b1, (l.getD 2 0).toNat = b2, (l.getD 3 0).toNat = b3, l.length = m
    intro hc g1 g2 g3 h0 h1 hv'
    unfold decodeN
    repeat' split
    all_goals first | rfl | (exfalso; omega)
set_option maxRecDepth 20000 in
theorem cls_right (l : List UInt8) (n least base v : Nat) (h : cls (l.getD 0 0).toNat n least base) (hn : n ≤ l.length) (hs : ∀ j, 1 ≤ j → j < n → 128 ≤ (l.getD j 0).toNat ∧ (l.getD j 0).toNat ≤ 191)
    (hv : acc l base (n - 1) = v) (hc : ¬ (v < least ∨ 1114111 < v ∨ (55296 ≤ v ∧ v ≤ 57343))) : charL l = (v, n) := by
  unfold cls at h
  have hne : l ≠ [] := by intro e; subst e; simp at hn; omega
  rcases h with ⟨h0, h1, rfl, rfl, rfl⟩ | ⟨h0, h1, rfl, rfl, rfl⟩ | ⟨h0, h1, rfl, rfl, rfl⟩
  · have g1 := hs 1 (by omega) (by omega)
    have hv' : 64 * ((l.getD 0 0).toNat - 192) + (l.getD 1 0).toNat - 128 = v := hv
    have e : decodeL l = (v, 2) := by
      rw [decodeL_N, decodeN_two _ _ _ _ _ (by omega) (by omega) (by omega) (by omega)]
      apply Prod.ext <;> simp only <;> omega
    rw [charL_good hne (not_bad_of (by rw [e]; dsimp only; omega)), e]
  · have g1 := hs 1 (by omega) (by omega)
    have g2 := hs 2 (by omega) (by omega)
    have hv' : 64 * (64 * ((l.getD 0 0).toNat - 224) + (l.getD 1 0).toNat - 128) + (l.getD 2 0).toNat - 128 = v := hv
    have e : decodeL l = (v, 3) := by
      rw [decodeL_N, decodeN_three _ _ _ _ _ (by omega) (by omega) (by omega) (by omega) (by omega) (by omega)]
      apply Prod.ext <;> simp only <;> omega
    have hb : isBad l = false := by
      cases hb : isBad l with
      | false => rfl
      | true => have := bad_width hb; rw [e] at this; simp at this
    rw [charL_good hne hb, e]
  · have g1 := hs 1 (by omega) (by omega)
    have g2 := hs 2 (by omega) (by omega)
    have g3 := hs 3 (by omega) (by omega)
    have hv' : 64 * (64 * (64 * ((l.getD 0 0).toNat - 240) + (l.getD 1 0).toNat - 128) + (l.getD 2 0).toNat - 128) + (l.getD 3 0).toNat - 128 = v := hv
    have e : decodeL l = (v, 4) := by
      rw [decodeL_N, decodeN_four _ _ _ _ _ (by omega) (by omega) (by omega) (by omega) (by omega) (by omega) (by omega)]
      apply Prod.ext <;> simp only <;> omega
    have hb : isBad l = false := by
      cases hb : isBad l with
      | false => rfl
      | true => have := bad_width hb; rw [e] at this; simp at this
    rw [charL_good hne hb, e]

/-! ### The characters; a name -/
/-- May a character stand in a name? -/
def may (c : Nat) : Bool := decide (32 ≤ c) && (decide (c < 127) || decide (159 < c)) && decide (c ≠ 65533)
theorem may_ff : may 65533 = false := by decide
theorem may_good {l : List UInt8} (h : may (decodeL l).1 = true) : isBad l = false := not_bad_of (fun e => by rw [e, may_ff] at h; cases h)

/-- What is behind the character in front. -/
def rest (l : List UInt8) : List UInt8 := l.drop (decodeL l).2
theorem rest_lt {l : List UInt8} (h : l ≠ []) : (rest l).length < l.length := by
  have h1 := decodeL_width l
  have h2 : 0 < l.length := List.length_pos_iff.2 h
  rw [rest, List.length_drop]; omega
theorem drop_rest (l : List UInt8) (i : Nat) : rest (l.drop i) = l.drop (i + (decodeL (l.drop i)).2) := by rw [rest, List.drop_drop]

def runesF : Nat → List UInt8 → Option (List Nat)
  | 0, _ => some []
  | n + 1, l => if l = [] then some [] else if isBad l = true then none else (runesF n (rest l)).map ((decodeL l).1 :: ·)
def runes (l : List UInt8) : Option (List Nat) := runesF l.length l
theorem runesF_nil (n : Nat) : runesF n [] = some [] := by cases n <;> simp [runesF]
theorem runesF_fuel (n : Nat) : ∀ (m : Nat) (l : List UInt8), l.length ≤ n → l.length ≤ m → runesF n l = runesF m l := by
  induction n with
  | zero =>
    intro m l h _
    obtain rfl : l = [] := List.eq_nil_of_length_eq_zero (by omega)
    rw [runesF_nil, runesF_nil]
  | succ n ih =>
    intro m l h1 h2
    by_cases hne : l = []
    · subst hne; rw [runesF_nil, runesF_nil]
    · have h3 := rest_lt hne
      obtain _ | m := m
      · have := List.length_pos_iff.2 hne; omega
      · simp only [runesF, if_neg hne]
        rw [ih m (rest l) (by omega) (by omega)]
theorem runes_nil : runes [] = some [] := rfl
theorem runes_bad {l : List UInt8} (hne : l ≠ []) (h : isBad l = true) : runes l = none := by
  obtain ⟨n, hn⟩ : ∃ n, l.length = n + 1 := ⟨l.length - 1, by have := List.length_pos_iff.2 hne; omega⟩
  rw [runes, hn, runesF, if_neg hne, if_pos h]
theorem runes_step {l : List UInt8} (hne : l ≠ []) (h : isBad l = false) : runes l = (runes (rest l)).map ((decodeL l).1 :: ·) := by
  obtain ⟨n, hn⟩ : ∃ n, l.length = n + 1 := ⟨l.length - 1, by have := List.length_pos_iff.2 hne; omega⟩
  have h3 := rest_lt hne
  rw [runes, hn, runesF, if_neg hne, if_neg (by rw [h]; simp), runes, runesF_fuel n (rest l).length (rest l) (by omega) (Nat.le_refl _)]

/-- Is a text, behind so many characters, the rest of a name? -/
def rgoF : Nat → Nat → List UInt8 → Bool
  | 0, n, _ => decide (0 < n)
  | f + 1, n, l => if l = [] then decide (0 < n) else if n = 24 ∨ may (decodeL l).1 = false then false else rgoF f (n + 1) (rest l)
def rgo (n : Nat) (l : List UInt8) : Bool := rgoF l.length n l
theorem rgoF_nil (f n : Nat) : rgoF f n [] = decide (0 < n) := by cases f <;> simp [rgoF]
theorem rgoF_fuel (f : Nat) : ∀ (g n : Nat) (l : List UInt8), l.length ≤ f → l.length ≤ g → rgoF f n l = rgoF g n l := by
  induction f with
  | zero =>
    intro g n l h _
    obtain rfl : l = [] := List.eq_nil_of_length_eq_zero (by omega)
    rw [rgoF_nil, rgoF_nil]
  | succ f ih =>
    intro g n l h1 h2
    by_cases hne : l = []
    · subst hne; rw [rgoF_nil, rgoF_nil]
    · have h3 := rest_lt hne
      obtain _ | g := g
      · have := List.length_pos_iff.2 hne; omega
      · simp only [rgoF, if_neg hne]
        rw [ih g (n + 1) (rest l) (by omega) (by omega)]
theorem rgo_nil (n : Nat) : rgo n [] = decide (0 < n) := rgoF_nil _ _
theorem rgo_no {n : Nat} {l : List UInt8} (hne : l ≠ []) (h : n = 24 ∨ may (decodeL l).1 = false) : rgo n l = false := by
  obtain ⟨m, hm⟩ : ∃ n, l.length = n + 1 := ⟨l.length - 1, by have := List.length_pos_iff.2 hne; omega⟩
  rw [rgo, hm, rgoF, if_neg hne, if_pos h]
theorem rgo_step {n : Nat} {l : List UInt8} (hne : l ≠ []) (h : n ≠ 24) (hm : may (decodeL l).1 = true) : rgo n l = rgo (n + 1) (rest l) := by
  obtain ⟨m, hm'⟩ : ∃ n, l.length = n + 1 := ⟨l.length - 1, by have := List.length_pos_iff.2 hne; omega⟩
  have h3 := rest_lt hne
  rw [rgo, hm', rgoF, if_neg hne, if_neg (by rw [hm]; simp [h]), rgo, rgoF_fuel m (rest l).length (n + 1) (rest l) (by omega) (Nat.le_refl _)]
/-- Is a text a name? -/
def right (l : List UInt8) : Bool := rgo 0 l
/-- So the document says it. -/
def isName (l : List UInt8) : Bool := match runes l with
  | none => false
  | some rs => rs.all may && decide (1 ≤ rs.length) && decide (rs.length ≤ 24)
theorem rgo_runes (m : Nat) : ∀ (n : Nat) (l : List UInt8), l.length ≤ m → n ≤ 24 → rgo n l = match runes l with
    | none => false
    | some rs => rs.all may && decide (1 ≤ n + rs.length) && decide (n + rs.length ≤ 24) := by
  induction m with
  | zero =>
    intro n l h hn
    obtain rfl : l = [] := List.eq_nil_of_length_eq_zero (by omega)
    rw [rgo_nil, runes_nil]
    simp [hn]
    omega
  | succ m ih =>
    intro n l h hn
    by_cases hne : l = []
    · subst hne
      rw [rgo_nil, runes_nil]
      simp [hn]
      omega
    · have h3 := rest_lt hne
      cases hb : isBad l with
      | true =>
        rw [runes_bad hne hb, rgo_no hne (.inr (by rw [bad_rune hb]; exact may_ff))]
      | false =>
        rw [runes_step hne hb]
        cases hm : may (decodeL l).1 with
        | false =>
          rw [rgo_no hne (.inr hm)]
          cases runes (rest l) with
          | none => rfl
          | some rs => simp [hm]
        | true =>
          by_cases h24 : n = 24
          · rw [rgo_no hne (.inl h24)]
            cases runes (rest l) with
            | none => rfl
            | some rs =>
              subst h24
              simp
          · rw [rgo_step hne h24 hm, ih (n + 1) (rest l) (by omega) (by omega)]
            cases runes (rest l) with
            | none => rfl
            | some rs =>
              have e : n + 1 + rs.length = n + (rs.length + 1) := by omega
              simp [hm, e]
theorem right_isName (l : List UInt8) : right l = isName l := by
  rw [right, rgo_runes l.length 0 l (Nat.le_refl _) (by omega), isName]
  simp only [Nat.zero_add]

/-! ### The name that a text is like -/
def cgoF : Nat → Nat → List UInt8 → List UInt8
  | 0, _, _ => []
  | f + 1, n, l => if l = [] ∨ n = 24 then [] else if may (decodeL l).1 = true then l.take (decodeL l).2 ++ cgoF f (n + 1) (rest l) else cgoF f n (rest l)
def cgo (n : Nat) (l : List UInt8) : List UInt8 := cgoF l.length n l
theorem cgoF_nil (f n : Nat) : cgoF f n [] = [] := by cases f <;> simp [cgoF]
theorem cgoF_fuel (f : Nat) : ∀ (g n : Nat) (l : List UInt8), l.length ≤ f → l.length ≤ g → cgoF f n l = cgoF g n l := by
  induction f with
  | zero =>
    intro g n l h _
    obtain rfl : l = [] := List.eq_nil_of_length_eq_zero (by omega)
    rw [cgoF_nil, cgoF_nil]
  | succ f ih =>
    intro g n l h1 h2
    by_cases hne : l = []
    · subst hne; rw [cgoF_nil, cgoF_nil]
    · have h3 := rest_lt hne
      obtain _ | g := g
      · have := List.length_pos_iff.2 hne; omega
      · simp only [cgoF]
        rw [ih g (n + 1) (rest l) (by omega) (by omega), ih g n (rest l) (by omega) (by omega)]
theorem cgo_nil (n : Nat) : cgo n [] = [] := cgoF_nil _ _
theorem cgo_full (l : List UInt8) : cgo 24 l = [] := by
  unfold cgo
  cases l.length <;> simp [cgoF]
theorem cgo_keep {n : Nat} {l : List UInt8} (hne : l ≠ []) (h : n ≠ 24) (hm : may (decodeL l).1 = true) : cgo n l = l.take (decodeL l).2 ++ cgo (n + 1) (rest l) := by
  obtain ⟨m, hm'⟩ : ∃ n, l.length = n + 1 := ⟨l.length - 1, by have := List.length_pos_iff.2 hne; omega⟩
  have h3 := rest_lt hne
  rw [cgo, hm', cgoF, if_neg (by simp [hne, h]), if_pos hm, cgo, cgoF_fuel m (rest l).length (n + 1) (rest l) (by omega) (Nat.le_refl _)]
theorem cgo_skip {n : Nat} {l : List UInt8} (hne : l ≠ []) (hm : may (decodeL l).1 = false) : cgo n l = cgo n (rest l) := by
  by_cases h : n = 24
  · subst h; rw [cgo_full, cgo_full]
  · obtain ⟨m, hm'⟩ : ∃ n, l.length = n + 1 := ⟨l.length - 1, by have := List.length_pos_iff.2 hne; omega⟩
    have h3 := rest_lt hne
    rw [cgo, hm', cgoF, if_neg (by simp [hne, h]), if_neg (by rw [hm]; simp), cgo, cgoF_fuel m (rest l).length n (rest l) (by omega) (Nat.le_refl _)]
/-- The name that a text is like. -/
def clean (l : List UInt8) : List UInt8 := if cgo 0 l = [] then [95] else cgo 0 l

/-- The bytes of a character that may stand in a name. -/
def Good (q : List UInt8) : Prop := ∃ c, may c = true ∧ ∀ t, decodeL (q ++ t) = (c, q.length)
theorem good_ne {q : List UInt8} (h : Good q) (t : List UInt8) : q ++ t ≠ [] := by
  obtain ⟨c, _, hd⟩ := h
  intro e
  have h1 := decodeL_width (q ++ t)
  rw [hd t] at h1
  rw [List.append_eq_nil_iff] at e
  rw [e.1] at h1
  simp at h1
theorem good_rest {q : List UInt8} (h : Good q) (t : List UInt8) : rest (q ++ t) = t := by
  obtain ⟨c, _, hd⟩ := h
  rw [rest, hd t]
  simp
theorem good_take {q : List UInt8} (h : Good q) (t : List UInt8) : (q ++ t).take (decodeL (q ++ t)).2 = q := by
  obtain ⟨c, _, hd⟩ := h
  rw [hd t]
  simp
theorem good_may {q : List UInt8} (h : Good q) (t : List UInt8) : may (decodeL (q ++ t)).1 = true := by
  obtain ⟨c, hm, hd⟩ := h
  rw [hd t]
  exact hm
theorem good_front {l : List UInt8} (hne : l ≠ []) (hm : may (decodeL l).1 = true) : Good (l.take (decodeL l).2) := by
  refine ⟨(decodeL l).1, hm, fun t => ?_⟩
  rw [decode_prefix l hne (may_good hm) t, List.length_take, Nat.min_eq_left (decodeL_le l hne)]
theorem good_one : Good [95] := by
  refine ⟨95, by decide, fun t => ?_⟩
  rw [decodeL_N]
  exact decodeN_one _ _ _ _ _ (by simp)

theorem cgo_good (m : Nat) : ∀ (n : Nat) (l : List UInt8), l.length ≤ m → n ≤ 24 → ∃ qs : List (List UInt8), qs.length + n ≤ 24 ∧ (∀ q ∈ qs, Good q) ∧ cgo n l = qs.flatten := by
  induction m with
  | zero =>
    intro n l h hn
    obtain rfl : l = [] := List.eq_nil_of_length_eq_zero (by omega)
    exact ⟨[], by simpa using hn, by simp, by simp [cgo_nil]⟩
  | succ m ih =>
    intro n l h hn
    by_cases hne : l = []
    · subst hne
      exact ⟨[], by simpa using hn, by simp, by simp [cgo_nil]⟩
    · have h3 := rest_lt hne
      by_cases h24 : n = 24
      · subst h24
        exact ⟨[], by simp, by simp, by simp [cgo_full]⟩
      · cases hm : may (decodeL l).1 with
        | false =>
          rw [cgo_skip hne hm]
          exact ih n (rest l) (by omega) hn
        | true =>
          obtain ⟨qs, h1, h2, h4⟩ := ih (n + 1) (rest l) (by omega) (by omega)
          refine ⟨l.take (decodeL l).2 :: qs, by simp; omega, ?_, ?_⟩
          · intro q hq
            rcases List.mem_cons.1 hq with rfl | hq
            · exact good_front hne hm
            · exact h2 q hq
          · rw [cgo_keep hne h24 hm, h4, List.flatten_cons]
theorem clean_good (l : List UInt8) : ∃ qs : List (List UInt8), 1 ≤ qs.length ∧ qs.length ≤ 24 ∧ (∀ q ∈ qs, Good q) ∧ clean l = qs.flatten := by
  obtain ⟨qs, h1, h2, h3⟩ := cgo_good l.length 0 l (Nat.le_refl _) (by omega)
  unfold clean
  by_cases h : cgo 0 l = []
  · rw [if_pos h]
    exact ⟨[[95]], by simp, by simp, by intro q hq; simp at hq; subst hq; exact good_one, rfl⟩
  · rw [if_neg h]
    refine ⟨qs, ?_, by omega, h2, h3⟩
    cases qs with
    | nil => exact absurd h3 h
    | cons => simp
theorem rgo_good (qs : List (List UInt8)) : ∀ n, n + qs.length ≤ 24 → (∀ q ∈ qs, Good q) → rgo n qs.flatten = decide (0 < n + qs.length) := by
  induction qs with
  | nil => intro n _ _; simp [rgo_nil]
  | cons q qs ih =>
    intro n h hq
    have g := hq q (by simp)
    rw [List.flatten_cons, rgo_step (good_ne g _) (by simp at h; omega) (good_may g _), good_rest g, ih (n + 1) (by simp at h; omega) (fun x hx => hq x (by simp [hx]))]
    simp
    omega
theorem cgo_same (qs : List (List UInt8)) : ∀ n, n + qs.length ≤ 24 → (∀ q ∈ qs, Good q) → cgo n qs.flatten = qs.flatten := by
  induction qs with
  | nil => intro n _ _; simp [cgo_nil]
  | cons q qs ih =>
    intro n h hq
    have g := hq q (by simp)
    rw [List.flatten_cons, cgo_keep (good_ne g _) (by simp at h; omega) (good_may g _), good_rest g, good_take g, ih (n + 1) (by simp at h; omega) (fun x hx => hq x (by simp [hx]))]
theorem right_clean (l : List UInt8) : right (clean l) = true := by
  obtain ⟨qs, h1, h2, h3, h4⟩ := clean_good l
  rw [h4, right, rgo_good qs 0 (by omega) h3]
  simp; omega
theorem flatten_ne {qs : List (List UInt8)} (h1 : 1 ≤ qs.length) (h3 : ∀ q ∈ qs, Good q) : qs.flatten ≠ [] := by
  cases qs with
  | nil => simp at h1
  | cons q qs => rw [List.flatten_cons]; exact good_ne (h3 q (by simp)) _
theorem clean_clean (l : List UInt8) : clean (clean l) = clean l := by
  obtain ⟨qs, h1, h2, h3, h4⟩ := clean_good l
  rw [h4, clean, cgo_same qs 0 (by omega) h3, if_neg (flatten_ne h1 h3)]
theorem rgo_cgo (m : Nat) : ∀ (n : Nat) (l : List UInt8), l.length ≤ m → rgo n l = true → cgo n l = l := by
  induction m with
  | zero =>
    intro n l h _
    obtain rfl : l = [] := List.eq_nil_of_length_eq_zero (by omega)
    exact cgo_nil n
  | succ m ih =>
    intro n l h hr
    by_cases hne : l = []
    · subst hne; exact cgo_nil n
    · have h3 := rest_lt hne
      by_cases h24 : n = 24
      · rw [rgo_no hne (.inl h24)] at hr; cases hr
      · cases hm : may (decodeL l).1 with
        | false => rw [rgo_no hne (.inr hm)] at hr; cases hr
        | true =>
          rw [rgo_step hne h24 hm] at hr
          rw [cgo_keep hne h24 hm, ih (n + 1) (rest l) (by omega) hr, rest, List.take_append_drop]
theorem right_iff (l : List UInt8) : right l = decide (clean l = l) := by
  cases h : right l with
  | true =>
    have h1 := rgo_cgo l.length 0 l (Nat.le_refl _) h
    have h2 : l ≠ [] := by
      intro e
      subst e
      rw [right, rgo_nil] at h
      simp at h
    rw [clean, h1, if_neg h2]
    simp
  | false =>
    by_cases h1 : clean l = l
    · have h2 := right_clean l
      rw [h1, h] at h2
      cases h2
    · simp [h1]

/-! ### Quoted, and split -/
def isQ (b : UInt8) : Bool := b == 47 || b == 92
def quote (l : List UInt8) : List UInt8 := l.flatMap fun b => if isQ b = true then [92, b] else [b]
theorem quote_nil : quote [] = [] := rfl
theorem quote_cons (b : UInt8) (l : List UInt8) : quote (b :: l) = (if isQ b = true then [92, b] else [b]) ++ quote l := rfl
theorem quote_append (a b : List UInt8) : quote (a ++ b) = quote a ++ quote b := by simp [quote]
theorem isQ_high {b : UInt8} (h : 128 ≤ b.toNat) : isQ b = false := by
  simp only [isQ, Bool.or_eq_false_iff, beq_eq_false_iff_ne]
  constructor <;> (intro e; subst e; simp at h)
theorem quote_high {l : List UInt8} (h : ∀ x ∈ l, isQ x = false) : quote l = l := by
  induction l with
  | nil => rfl
  | cons b l ih =>
    rw [quote_cons, h b (by simp), ih (fun x hx => h x (by simp [hx]))]
    simp
theorem quote_length (l : List UInt8) : (quote l).length ≤ 2 * l.length := by
  induction l with
  | nil => simp [quote_nil]
  | cons b l ih =>
    rw [quote_cons, List.length_append, List.length_cons]
    split <;> simp <;> omega

/-- The texts that slashes part: what is still to read, whether an escape stands ahead, the texts that were told, the one under way. -/
def sp : List UInt8 → Bool → List (List UInt8) → List UInt8 → Option (List (List UInt8))
  | [], true, _, _ => none
  | [], false, out, word => some (out ++ [word])
  | b :: r, true, out, word => if isQ b = true then sp r false out (word ++ [b]) else none
  | b :: r, false, out, word => if b = 92 then sp r true out word else if b = 47 then sp r false (out ++ [word]) [] else sp r false out (word ++ [b])
def split (l : List UInt8) : Option (List (List UInt8)) := sp l false [] []
theorem sp_quote (l t : List UInt8) (out : List (List UInt8)) : ∀ word, sp (quote l ++ t) false out word = sp t false out (word ++ l) := by
  induction l with
  | nil => intro word; simp [quote_nil]
  | cons b l ih =>
    intro word
    rw [quote_cons]
    cases hb : isQ b with
    | true =>
      simp only [if_true, List.cons_append, List.nil_append]
      rw [sp, if_pos rfl, sp, if_pos hb, ih]
      simp
    | false =>
      simp only [isQ, Bool.or_eq_false_iff, beq_eq_false_iff_ne] at hb
      simp only [Bool.false_eq_true, if_false, List.cons_append, List.nil_append]
      rw [sp, if_neg hb.2, if_neg hb.1, ih]
      simp
/-- Texts quoted, with a slash between. -/
def joined : List (List UInt8) → List UInt8
  | [] => []
  | [a] => quote a
  | a :: r => quote a ++ 47 :: joined r
theorem joined_two (a b : List UInt8) (r : List (List UInt8)) : joined (a :: b :: r) = quote a ++ 47 :: joined (b :: r) := rfl
theorem sp_joined (l : List (List UInt8)) : ∀ out, l ≠ [] → sp (joined l) false out [] = some (out ++ l) := by
  induction l with
  | nil => intro out h; exact absurd rfl h
  | cons a r ih =>
    intro out _
    cases r with
    | nil =>
      have h := sp_quote a [] out []
      rw [List.append_nil] at h
      rw [joined, h, sp]
      simp
    | cons b r =>
      rw [joined_two, sp_quote, sp, if_neg (by decide), if_pos rfl, ih _ (by simp)]
      simp
theorem split_joined (l : List (List UInt8)) (h : l ≠ []) : split (joined l) = some l := by
  rw [split, sp_joined l [] h]; simp

end Go.Proofs.YthlhopdlkkeohaaGreatDoor.Nm
