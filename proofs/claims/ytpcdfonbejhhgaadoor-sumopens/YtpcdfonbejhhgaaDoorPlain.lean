/- Plain mathematics of layer 1 (CRC-32 over natural numbers): the step by a table of half a byte is the step bit by bit; each step is one-to-one. No program text is used here. -/
import Derived.Laws.BitsAllLaws
namespace Go.Proofs.YtpcdfonbejhhgaaDoor
namespace Crc

/-- One bit to the right; the polynomial, if a 1 fell off. -/
def bit1 (c : Nat) : Nat := if c % 2 = 1 then (c / 2) ^^^ 3988292384 else c / 2
def bit4 (c : Nat) : Nat := bit1 (bit1 (bit1 (bit1 c)))
def bitN : Nat → Nat → Nat
  | 0, c => c
  | k + 1, c => bit1 (bitN k c)
def tab : List Nat := [0, 498536548, 997073096, 651767980, 1994146192, 1802195444, 1303535960, 1342533948, 3988292384, 4027552580, 3604390888, 3412177804, 2607071920, 2262029012, 2685067896, 3183342108]
def tabAt (i : Nat) : Nat := tab.getD i 0
def half (c : Nat) : Nat := (c / 16) ^^^ tabAt (c % 16)
def step (c b : Nat) : Nat := bitN 8 (c ^^^ b)
def run (c : Nat) (l : List UInt8) : Nat := l.foldl (fun c b => step c b.toNat) c
def more (n : Nat) (l : List UInt8) : Nat := run (n ^^^ 4294967295) l ^^^ 4294967295

theorem xor_lt {a b : Nat} (ha : a < 4294967296) (hb : b < 4294967296) : a ^^^ b < 4294967296 := Nat.xor_lt_two_pow (n := 32) (by omega) (by omega)
theorem xor_lt8 {a b : Nat} (ha : a < 256) (hb : b < 256) : a ^^^ b < 256 := Nat.xor_lt_two_pow (n := 8) (by omega) (by omega)
theorem bit1_lt {c : Nat} (h : c < 4294967296) : bit1 c < 4294967296 := by
  unfold bit1
  split
  · exact xor_lt (by omega) (by omega)
  · omega
theorem bitN_lt (k : Nat) {c : Nat} (h : c < 4294967296) : bitN k c < 4294967296 := by
  induction k with
  | zero => exact h
  | succ k ih => exact bit1_lt ih
theorem tabAt_lt (i : Nat) : tabAt i < 4294967296 := by
  by_cases h : i < 16
  · have : ∀ j : Fin 16, tabAt j.val < 4294967296 := by decide
    exact this ⟨i, h⟩
  · have e : tab[i]? = none := List.getElem?_eq_none (by simp [tab]; omega)
    unfold tabAt; rw [List.getD_eq_getElem?_getD, e]; decide
theorem half_lt {c : Nat} (h : c < 4294967296) : half c < 4294967296 := xor_lt (by omega) (tabAt_lt _)

theorem div2_xor (a b : Nat) : (a ^^^ b) / 2 = (a / 2) ^^^ (b / 2) := by
  have := Nat.shiftRight_xor_distrib (a := a) (b := b) (i := 1)
  simpa [Nat.shiftRight_eq_div_pow] using this
theorem mod2_xor (a b : Nat) : (a ^^^ b) % 2 = (a % 2 + b % 2) % 2 := by
  have h := Nat.testBit_xor a b 0
  simp only [Nat.testBit_zero] at h
  rcases Nat.mod_two_eq_zero_or_one a with ha | ha <;> rcases Nat.mod_two_eq_zero_or_one b with hb | hb <;> rcases Nat.mod_two_eq_zero_or_one (a ^^^ b) with hc | hc <;> simp [ha, hb, hc] at h ⊢

theorem xor_swap4 (a b p q : Nat) : (a ^^^ p) ^^^ (b ^^^ q) = (a ^^^ b) ^^^ (p ^^^ q) := by
  rw [Nat.xor_assoc, Nat.xor_assoc, ← Nat.xor_assoc p b q, Nat.xor_comm p b, Nat.xor_assoc b p q]

theorem bit1_eq (c : Nat) : bit1 c = (c / 2) ^^^ (if c % 2 = 1 then 3988292384 else 0) := by
  unfold bit1; split <;> simp
theorem bit1_xor (a b : Nat) : bit1 (a ^^^ b) = bit1 a ^^^ bit1 b := by
  rw [bit1_eq, bit1_eq, bit1_eq, div2_xor, mod2_xor, xor_swap4]
  congr 1
  rcases Nat.mod_two_eq_zero_or_one a with ha | ha <;> rcases Nat.mod_two_eq_zero_or_one b with hb | hb <;> simp [ha, hb]
theorem bit4_xor (a b : Nat) : bit4 (a ^^^ b) = bit4 a ^^^ bit4 b := by unfold bit4; simp only [bit1_xor]
theorem bit1_two (x : Nat) : bit1 (2 * x) = x := by unfold bit1; rw [if_neg (by omega)]; omega
theorem bit4_shift (x : Nat) : bit4 (16 * x) = x := by
  have e : 16 * x = 2 * (2 * (2 * (2 * x))) := by omega
  unfold bit4; rw [e, bit1_two, bit1_two, bit1_two, bit1_two]
theorem split16 (c : Nat) : c = (16 * (c / 16)) ^^^ (c % 16) := by
  apply Nat.eq_of_testBit_eq
  intro i
  rw [Nat.testBit_xor, show (16 : Nat) = 2 ^ 4 by rfl, Nat.testBit_two_pow_mul, Nat.testBit_mod_two_pow, Nat.testBit_div_two_pow]
  by_cases h : i < 4
  · simp [h, Nat.not_le.2 h]
  · have h4 : 4 ≤ i := by omega
    simp [h, h4]
theorem bit4_tab (i : Nat) (h : i < 16) : bit4 i = tabAt i := by
  have : ∀ j : Fin 16, bit4 j.val = tabAt j.val := by decide
  exact this ⟨i, h⟩
/-- HALF A BYTE's STEP BY THE TABLE is four steps of a bit. -/
theorem half_eq (c : Nat) : half c = bit4 c := by
  conv => rhs; rw [split16 c]
  rw [bit4_xor, bit4_shift, bit4_tab _ (by omega)]; rfl
theorem half_half (c : Nat) : half (half c) = bitN 8 c := by rw [half_eq, half_eq]; rfl
theorem step_eq (c b : Nat) : half (half (c ^^^ b)) = step c b := half_half _
theorem step_lt {c b : Nat} (hc : c < 4294967296) (hb : b < 256) : step c b < 4294967296 := bitN_lt 8 (xor_lt hc (by omega))

/-- A bit's step is one-to-one: the highest bit tells which bit fell off. -/
theorem bit1_inj {a b : Nat} (ha : a < 4294967296) (hb : b < 4294967296) (h : bit1 a = bit1 b) : a = b := by
  have hi : ∀ c : Nat, c < 4294967296 → (bit1 c).testBit 31 = decide (c % 2 = 1) := by
    intro c hc
    rw [bit1_eq, Nat.testBit_xor, Nat.testBit_lt_two_pow (show c / 2 < 2 ^ 31 by omega)]
    split <;> rename_i h
    · simp [h]; decide
    · simp [h]
  have h1 := hi a ha
  rw [h, hi b hb] at h1
  have hm : a % 2 = b % 2 := by
    rcases Nat.mod_two_eq_zero_or_one a with x | x <;> rcases Nat.mod_two_eq_zero_or_one b with y | y <;> simp [x, y] at h1 ⊢
  rw [bit1_eq, bit1_eq, hm] at h
  have := congrArg (· ^^^ (if b % 2 = 1 then 3988292384 else 0)) h
  simp only [Nat.xor_assoc, Nat.xor_self, Nat.xor_zero] at this
  omega
theorem bitN_inj (k : Nat) {a b : Nat} (ha : a < 4294967296) (hb : b < 4294967296) (h : bitN k a = bitN k b) : a = b := by
  induction k with
  | zero => exact h
  | succ k ih => exact ih (bit1_inj (bitN_lt k ha) (bitN_lt k hb) h)
theorem xor_cancel_right {a b c : Nat} (h : a ^^^ c = b ^^^ c) : a = b := by
  have := congrArg (· ^^^ c) h
  simpa [Nat.xor_assoc] using this
theorem xor_cancel_left {a b c : Nat} (h : c ^^^ a = c ^^^ b) : a = b := by
  rw [Nat.xor_comm c a, Nat.xor_comm c b] at h; exact xor_cancel_right h
theorem byte_lt (b : UInt8) : b.toNat < 256 := b.toNat_lt
theorem run_lt (l : List UInt8) {c : Nat} (h : c < 4294967296) : run c l < 4294967296 := by
  induction l generalizing c with
  | nil => exact h
  | cons b l ih => exact ih (step_lt h (byte_lt b))
theorem more_lt {n : Nat} (l : List UInt8) (h : n < 4294967296) : more n l < 4294967296 := xor_lt (run_lt l (xor_lt h (by omega))) (by omega)
theorem run_inj (l : List UInt8) {a b : Nat} (ha : a < 4294967296) (hb : b < 4294967296) (h : run a l = run b l) : a = b := by
  induction l generalizing a b with
  | nil => exact h
  | cons x l ih =>
    have := ih (step_lt ha (byte_lt x)) (step_lt hb (byte_lt x)) h
    have hx := byte_lt x
    exact xor_cancel_right (bitN_inj 8 (xor_lt ha (by omega)) (xor_lt hb (by omega)) this)
theorem run_append (c : Nat) (l m : List UInt8) : run c (l ++ m) = run (run c l) m := by unfold run; rw [List.foldl_append]
theorem run_snoc (c : Nat) (l : List UInt8) (b : UInt8) : run c (l ++ [b]) = step (run c l) b.toNat := by rw [run_append]; rfl
/-- THE SUM OF TWO TEXTS. -/
theorem more_append (n : Nat) (l m : List UInt8) : more (more n l) m = more n (l ++ m) := by
  unfold more; rw [Nat.xor_assoc, Nat.xor_self, Nat.xor_zero, run_append]
/-- A CHANGED BYTE IS FOUND. -/
theorem run_changed (c : Nat) (hc : c < 4294967296) (l m : List UInt8) (x y : UInt8) (hxy : x ≠ y) : run c (l ++ x :: m) ≠ run c (l ++ y :: m) := by
  intro h
  rw [run_append, run_append] at h
  have hr := run_lt l hc
  have h2 : step (run c l) x.toNat = step (run c l) y.toNat := run_inj m (step_lt hr (byte_lt x)) (step_lt hr (byte_lt y)) h
  have hx := byte_lt x; have hy := byte_lt y
  have h3 := bitN_inj 8 (xor_lt hr (show x.toNat < 4294967296 by omega)) (xor_lt hr (show y.toNat < 4294967296 by omega)) h2
  exact hxy (UInt8.toNat_inj.1 (xor_cancel_left h3))
theorem more_changed (n : Nat) (hn : n < 4294967296) (l m : List UInt8) (x y : UInt8) (hxy : x ≠ y) : more n (l ++ x :: m) ≠ more n (l ++ y :: m) :=
  fun h => run_changed _ (xor_lt hn (by omega)) l m x y hxy (xor_cancel_right h)

/-- A sum's four bytes, the lowest one first. -/
def four (n : Nat) : List UInt8 := [UInt8.ofNat n, UInt8.ofNat (n / 256), UInt8.ofNat (n / 65536), UInt8.ofNat (n / 16777216)]
theorem four_inj {a b : Nat} (ha : a < 4294967296) (hb : b < 4294967296) (h : four a = four b) : a = b := by
  unfold four at h
  simp only [List.cons.injEq, and_true] at h
  obtain ⟨h0, h1, h2, h3⟩ := h
  have e : ∀ x y : Nat, UInt8.ofNat x = UInt8.ofNat y → x % 256 = y % 256 := by
    intro x y h
    have := congrArg UInt8.toNat h
    simpa using this
  have := e _ _ h0; have := e _ _ h1; have := e _ _ h2; have := e _ _ h3
  omega
end Crc
end Go.Proofs.YtpcdfonbejhhgaaDoor
