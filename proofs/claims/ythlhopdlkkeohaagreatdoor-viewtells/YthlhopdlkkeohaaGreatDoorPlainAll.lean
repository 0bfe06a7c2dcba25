/- Numbers as bytes, seven bits each, the lowest first: told, and read again. Plain mathematics; nothing of the program is named · Paths as plain mathematics: what is wrong with one, how two stand, whether the one begins with the other, their texts and bytes · Values as plain mathematics: which are right, what is in them, their bytes · Dots as plain mathematics: which are right, how they stand · Operations as plain mathematics: how references stand, which rise, what is wrong with an operation, its bytes · The walks of 'lastByte' and 'number'. -/
import Derived.Test.YthlhopdlkkeohaaGreatDoorUtf
import Derived.Lib.Bytealg
import Derived.Lib.Join
import Derived.Test.YthlhopdlkkeohaaGreatDoorChecked
import Derived.WalkKit
import Derived.Deep.QuietTactic
import Derived.BigQuiet
import Derived.WalkSmall
/- Numbers as bytes, seven bits each, the lowest first: told, and read again. Plain mathematics; nothing of the program is named. -/
namespace Go.Proofs.YthlhopdlkkeohaaGreatDoor.Pk

/-- A number's bytes, so many at the most and one more. -/
def encF : Nat → Nat → List UInt8
  | 0, n => [UInt8.ofNat n]
  | k + 1, n => if n < 128 then [UInt8.ofNat n] else UInt8.ofNat (n % 128 + 128) :: encF k (n / 128)
theorem encF_small (k : Nat) {n : Nat} (h : n < 128) : encF k n = [UInt8.ofNat n] := by
  cases k with
  | zero => rfl
  | succ k => rw [encF, if_pos h]
theorem encF_big (k : Nat) {n : Nat} (h : ¬ n < 128) : encF (k + 1) n = UInt8.ofNat (n % 128 + 128) :: encF k (n / 128) := by rw [encF, if_neg h]
theorem encF_fuel (k : Nat) : ∀ (j n : Nat), n ≤ k → n ≤ j → encF k n = encF j n := by
  induction k with
  | zero => intro j n h _; rw [encF_small 0 (by omega), encF_small j (by omega)]
  | succ k ih =>
    intro j n h1 h2
    by_cases h : n < 128
    · rw [encF_small _ h, encF_small _ h]
    · obtain _ | j := j
      · omega
      · rw [encF_big k h, encF_big j h, ih j (n / 128) (by omega) (by omega)]
/-- A number's bytes. -/
def enc (n : Nat) : List UInt8 := encF n n
theorem enc_small {n : Nat} (h : n < 128) : enc n = [UInt8.ofNat n] := encF_small n h
theorem enc_big {n : Nat} (h : ¬ n < 128) : enc n = UInt8.ofNat (n % 128 + 128) :: enc (n / 128) := by
  unfold enc
  rw [encF_fuel n ((n / 128) + n) n (Nat.le_refl _) (by omega)]
  obtain ⟨k, hk⟩ : ∃ k, n / 128 + n = k + 1 := ⟨n / 128 + n - 1, by omega⟩
  rw [hk, encF_big k h, encF_fuel k (n / 128) (n / 128) (by omega) (Nat.le_refl _)]
theorem enc_pos (n : Nat) : 0 < (enc n).length := by
  by_cases h : n < 128
  · rw [enc_small h]; simp
  · rw [enc_big h]; simp
theorem enc_len (k n : Nat) (h : n < 128 ^ (k + 1)) : (enc n).length ≤ k + 1 := by
  induction k generalizing n with
  | zero => rw [enc_small (by simpa using h)]; simp
  | succ k ih =>
    by_cases h1 : n < 128
    · rw [enc_small h1]; simp
    · rw [enc_big h1]
      have h2 : n / 128 < 128 ^ (k + 1) := by
        apply Nat.div_lt_of_lt_mul
        rw [Nat.pow_succ] at h; omega
      have := ih (n / 128) h2
      simp; omega
theorem enc_len9 {n : Nat} (h : n < 9223372036854775808) : (enc n).length ≤ 9 := enc_len 8 n h
theorem enc_len8 {n : Nat} (h : n < 72057594037927936) : (enc n).length ≤ 8 := enc_len 7 n h

/-- The number that bytes tell. -/
def val : List UInt8 → Nat
  | [] => 0
  | b :: r => b.toNat % 128 + 128 * val r
theorem val_cons (b : UInt8) (r : List UInt8) : val (b :: r) = b.toNat % 128 + 128 * val r := rfl
theorem val_lt (l : List UInt8) : val l < 128 ^ l.length := by
  induction l with
  | nil => simp [val]
  | cons b r ih => rw [val_cons, List.length_cons, Nat.pow_succ]; omega

/-- Where the number's last byte stands; the length, if nowhere. -/
def last : List UInt8 → Nat
  | [] => 0
  | b :: r => if b.toNat < 128 then 0 else last r + 1
theorem last_le (l : List UInt8) : last l ≤ l.length := by
  induction l with
  | nil => simp [last]
  | cons b r ih => simp only [last, List.length_cons]; split <;> omega
/-- What is read of a text: the number, what stands behind it, what is wrong. -/
def num (l : List UInt8) : Nat × List UInt8 × Nat :=
  if last l = l.length then (0, [], 4)
  else if 8 ≤ last l then (0, [], 6)
  else if 0 < last l ∧ (l.getD (last l) 0).toNat = 0 then (0, [], 3)
  else (val (l.take (last l + 1)), l.drop (last l + 1), 0)

theorem u8_nat (k : Nat) (h : k < 256) : (UInt8.ofNat k).toNat = k := by simp; omega

end Go.Proofs.YthlhopdlkkeohaaGreatDoor.Pk
/- Paths as plain mathematics: what is wrong with one, how two stand, whether the one begins with the other, their texts and bytes. -/
namespace Go.Proofs.YthlhopdlkkeohaaGreatDoor
namespace Pt
open Go.Lib

/-! ### The row of texts -/
theorem cb_self (a : List UInt8) : compareBytes a a = 0 := by
  induction a with
  | nil => rfl
  | cons x a ih => simp [compareBytes, ih]
theorem cb_zero : ∀ {a b : List UInt8}, compareBytes a b = 0 → a = b
  | [], [], _ => rfl
  | [], _ :: _, h => by simp [compareBytes] at h
  | _ :: _, [], h => by simp [compareBytes] at h
  | x :: a, y :: b, h => by
    simp only [compareBytes] at h
    split at h
    · cases h
    · split at h
      · cases h
      · rename_i h1 h2
        have e : x = y := UInt8.le_antisymm (UInt8.not_lt.1 h2) (UInt8.not_lt.1 h1)
        rw [e, cb_zero h]
theorem cb_turn : ∀ (a b : List UInt8), compareBytes b a = - compareBytes a b
  | [], [] => rfl
  | [], _ :: _ => rfl
  | _ :: _, [] => rfl
  | x :: a, y :: b => by
    simp only [compareBytes]
    have h := cb_turn a b
    by_cases h1 : x < y
    · have h2 : ¬ y < x := UInt8.not_lt.2 (UInt8.le_of_lt h1)
      simp [h1, h2]
    · by_cases h2 : y < x
      · simp [h1, h2]
      · simp [h1, h2, h]
theorem cb_cases (a b : List UInt8) : compareBytes a b = -1 ∨ compareBytes a b = 0 ∨ compareBytes a b = 1 := by
  induction a generalizing b with
  | nil => cases b <;> simp [compareBytes]
  | cons x a ih =>
    cases b with
    | nil => simp [compareBytes]
    | cons y b =>
      simp only [compareBytes]
      split
      · simp
      · split
        · simp
        · exact ih b
theorem cb_trans : ∀ (a b c : List UInt8), compareBytes a b ≤ 0 → compareBytes b c ≤ 0 → compareBytes a c ≤ 0
  | [], _, [], _, _ => by simp [compareBytes]
  | [], _, _ :: _, _, _ => by simp [compareBytes]
  | _ :: _, [], _, h, _ => by simp [compareBytes] at h
  | _ :: _, _ :: _, [], _, h => by simp [compareBytes] at h
  | x :: a, y :: b, z :: c, h1, h2 => by
    simp only [compareBytes] at h1 h2 ⊢
    have t := cb_trans a b c
    have hx : x.toNat = x.toNat := rfl
    simp only [UInt8.lt_iff_toNat_lt] at *
    by_cases a1 : x.toNat < y.toNat
    · by_cases a2 : y.toNat < z.toNat
      · have : x.toNat < z.toNat := by omega
        simp [this]
      · rw [if_neg a2] at h2
        by_cases a3 : z.toNat < y.toNat
        · rw [if_pos a3] at h2; omega
        · have : x.toNat < z.toNat := by omega
          simp [this]
    · rw [if_neg a1] at h1
      by_cases a4 : y.toNat < x.toNat
      · rw [if_pos a4] at h1; omega
      · rw [if_neg a4] at h1
        by_cases a2 : y.toNat < z.toNat
        · have : x.toNat < z.toNat := by omega
          simp [this]
        · rw [if_neg a2] at h2
          by_cases a3 : z.toNat < y.toNat
          · rw [if_pos a3] at h2; omega
          · rw [if_neg a3] at h2
            rw [if_neg (by omega), if_neg (by omega)]
            exact t h1 h2
theorem less_iff : ∀ (a b : List UInt8), Op.bytesLess a b = decide (compareBytes a b = -1)
  | [], [] => by simp [Op.bytesLess, compareBytes]
  | [], _ :: _ => by simp [Op.bytesLess, compareBytes]
  | _ :: _, [] => by simp [Op.bytesLess, compareBytes]
  | x :: a, y :: b => by
    have h := less_iff a b
    simp only [Op.bytesLess, compareBytes]
    by_cases h1 : x < y
    · simp [h1]
    · by_cases h2 : y < x
      · have h3 : ¬ x = y := fun e => by subst e; exact h1 h2
        simp [h1, h2, h3]
      · have e : x = y := UInt8.le_antisymm (UInt8.not_lt.1 h2) (UInt8.not_lt.1 h1)
        subst e
        simp [h, h1]

/-! ### What is wrong with a path -/
def check (xs : List (List UInt8)) : Nat := if xs.length = 0 then 8 else if 8 < xs.length then 9 else if xs.all Nm.right = true then 0 else 8
theorem check_none {xs : List (List UInt8)} (h : xs.length = 0) : check xs = 8 := by simp [check, h]
theorem check_deep {xs : List (List UInt8)} (h : 8 < xs.length) : check xs = 9 := by unfold check; rw [if_neg (by omega), if_pos h]
theorem check_all {xs : List (List UInt8)} (h0 : xs.length ≠ 0) (h : ¬ 8 < xs.length) (ha : xs.all Nm.right = true) : check xs = 0 := by unfold check; rw [if_neg h0, if_neg h, if_pos ha]
theorem check_not {xs : List (List UInt8)} (h0 : xs.length ≠ 0) (h : ¬ 8 < xs.length) (ha : xs.all Nm.right = false) : check xs = 8 := by unfold check; rw [if_neg h0, if_neg h, if_neg (by rw [ha]; simp)]
theorem check_le (xs : List (List UInt8)) : check xs ≤ 9 := by unfold check; split <;> (try split) <;> (try split) <;> omega
theorem check_zero {xs : List (List UInt8)} (h : check xs = 0) : 1 ≤ xs.length ∧ xs.length ≤ 8 ∧ ∀ x ∈ xs, Nm.right x = true := by
  unfold check at h
  split at h
  · cases h
  · split at h
    · cases h
    · split at h
      · rename_i h1 h2 h3
        exact ⟨by omega, by omega, fun x hx => List.all_eq_true.1 h3 x hx⟩
      · cases h

theorem width4 (l : List UInt8) : (decodeL l).2 ≤ 4 := by
  rw [decodeL_N]
  unfold decodeN
  repeat' split
  all_goals simp
theorem rgo_len (m : Nat) : ∀ (n : Nat) (l : List UInt8), l.length ≤ m → n ≤ 24 → Nm.rgo n l = true → l.length ≤ 4 * (24 - n) := by
  induction m with
  | zero => intro n l h _ _; omega
  | succ m ih =>
    intro n l h hn hr
    by_cases hne : l = []
    · subst hne; simp
    · by_cases h1 : n = 24 ∨ Nm.may (decodeL l).1 = false
      · rw [Nm.rgo_no hne h1] at hr; cases hr
      · have h2 : n ≠ 24 := fun e => h1 (Or.inl e)
        have h3 : Nm.may (decodeL l).1 = true := by
          cases e : Nm.may (decodeL l).1 with
          | true => rfl
          | false => exact absurd (Or.inr e) h1
        rw [Nm.rgo_step hne h2 h3] at hr
        have h4 := Nm.rest_lt hne
        have h5 := ih (n + 1) (Nm.rest l) (by omega) (by omega) hr
        have h6 := width4 l
        have h7 : (Nm.rest l).length = l.length - (decodeL l).2 := by simp [Nm.rest]
        omega
theorem right_len {l : List UInt8} (h : Nm.right l = true) : l.length ≤ 96 := rgo_len l.length 0 l (Nat.le_refl _) (by omega) h
theorem right_pos {l : List UInt8} (h : Nm.right l = true) : 1 ≤ l.length := by
  cases l with
  | nil => simp [Nm.right, Nm.rgo_nil] at h
  | cons a l => simp

/-! ### How two paths stand -/
def comp : List (List UInt8) → List (List UInt8) → Int
  | [], [] => 0
  | [], _ :: _ => -1
  | _ :: _, [] => 1
  | a :: ar, b :: br => if compareBytes a b = 0 then comp ar br else compareBytes a b
theorem comp_self (xs : List (List UInt8)) : comp xs xs = 0 := by
  induction xs with
  | nil => rfl
  | cons x xs ih => simp [comp, cb_self, ih]
theorem comp_zero : ∀ {xs ys : List (List UInt8)}, comp xs ys = 0 → xs = ys
  | [], [], _ => rfl
  | [], _ :: _, h => by simp [comp] at h
  | _ :: _, [], h => by simp [comp] at h
  | x :: xs, y :: ys, h => by
    simp only [comp] at h
    split at h
    · rename_i h1
      rw [cb_zero h1, comp_zero h]
    · rename_i h1; exact absurd h h1
theorem comp_iff (xs ys : List (List UInt8)) : decide (comp xs ys = 0) = decide (xs = ys) := by
  apply decide_eq_decide.2
  exact ⟨comp_zero, fun h => by rw [h]; exact comp_self _⟩
theorem comp_turn : ∀ (xs ys : List (List UInt8)), comp ys xs = - comp xs ys
  | [], [] => rfl
  | [], _ :: _ => rfl
  | _ :: _, [] => rfl
  | x :: xs, y :: ys => by
    simp only [comp]
    have h := comp_turn xs ys
    have h1 := cb_turn x y
    by_cases h2 : compareBytes x y = 0
    · rw [if_pos h2, if_pos (by omega), h]
    · rw [if_neg h2, if_neg (by omega), h1]
theorem comp_cases (xs ys : List (List UInt8)) : comp xs ys = -1 ∨ comp xs ys = 0 ∨ comp xs ys = 1 := by
  induction xs generalizing ys with
  | nil => cases ys <;> simp [comp]
  | cons x xs ih =>
    cases ys with
    | nil => simp [comp]
    | cons y ys =>
      simp only [comp]
      split
      · exact ih ys
      · exact cb_cases x y
theorem comp_trans : ∀ (a b c : List (List UInt8)), comp a b ≤ 0 → comp b c ≤ 0 → comp a c ≤ 0
  | [], _, [], _, _ => by simp [comp]
  | [], _, _ :: _, _, _ => by simp [comp]
  | _ :: _, [], _, h, _ => by simp [comp] at h
  | _ :: _, _ :: _, [], _, h => by simp [comp] at h
  | x :: a, y :: b, z :: c, h1, h2 => by
    simp only [comp] at h1 h2 ⊢
    have t := comp_trans a b c
    have t0 := cb_trans x y z
    by_cases a1 : compareBytes x y = 0
    · have e := cb_zero a1
      subst e
      rw [if_pos a1] at h1
      by_cases a2 : compareBytes x z = 0
      · rw [if_pos a2] at h2 ⊢; exact t h1 h2
      · rw [if_neg a2] at h2 ⊢; exact h2
    · rw [if_neg a1] at h1
      by_cases a2 : compareBytes y z = 0
      · have e := cb_zero a2
        subst e
        rw [if_neg a1]; exact h1
      · rw [if_neg a2] at h2
        have h3 := t0 h1 h2
        by_cases a3 : compareBytes x z = 0
        · have e := cb_zero a3
          subst e
          have := cb_turn x y
          omega
        · rw [if_neg a3]; exact h3

/-! ### What begins with what -/
def under (xs ys : List (List UInt8)) : Bool := decide (ys.length ≤ xs.length) && decide (xs.take ys.length = ys)
theorem under_nil (xs : List (List UInt8)) : under xs [] = true := by simp [under]
theorem under_iff {xs ys : List (List UInt8)} : under xs ys = true ↔ ∃ r, xs = ys ++ r := by
  unfold under
  constructor
  · intro h
    simp only [Bool.and_eq_true, decide_eq_true_eq] at h
    exact ⟨xs.drop ys.length, by have := List.take_append_drop ys.length xs; rw [h.2] at this; exact this.symm⟩
  · rintro ⟨r, rfl⟩
    simp
theorem comp_app : ∀ (ys r : List (List UInt8)), 0 ≤ comp (ys ++ r) ys
  | [], [] => by simp [comp]
  | [], _ :: _ => by simp [comp]
  | y :: ys, r => by
    have h := comp_app ys r
    simp [comp, cb_self, h]
theorem under_behind {xs ys : List (List UInt8)} (h : under xs ys = true) : 0 ≤ comp xs ys := by
  obtain ⟨r, rfl⟩ := under_iff.1 h
  exact comp_app _ _
/-! ### Short ones -/
def short (xs : List (List UInt8)) : Bool := decide (xs.length ≤ 12) && xs.all fun x => decide (x.length ≤ 120)
theorem short_iff {xs : List (List UInt8)} (h : short xs = true) : xs.length ≤ 12 ∧ ∀ x ∈ xs, x.length ≤ 120 := by
  unfold short at h
  simp only [Bool.and_eq_true, decide_eq_true_eq] at h
  exact ⟨h.1, fun x hx => by simpa using List.all_eq_true.1 h.2 x hx⟩

/-! ### Texts and bytes -/
theorem joined_join (xs : List (List UInt8)) : join (xs.map Nm.quote) [47] = Nm.joined xs := by
  induction xs with
  | nil => rfl
  | cons x r ih =>
    cases r with
    | nil => simp [join_one, Nm.joined]
    | cons y r =>
      rw [Nm.joined_two, ← ih]
      simp only [List.map_cons]
      rw [join_cons, join_cons]
      simp [joinTail]
def textL (l : List UInt8) : List UInt8 := Pk.enc l.length ++ l
def code (xs : List (List UInt8)) : List UInt8 := Pk.enc xs.length ++ (xs.map textL).flatten
theorem join_empty (xs : List (List UInt8)) : join xs [] = xs.flatten := by
  cases xs with
  | nil => rfl
  | cons x r => rw [join_cons]; simp [joinTail]

end Pt
end Go.Proofs.YthlhopdlkkeohaaGreatDoor
/- Values as plain mathematics: which are right, what is in them, their bytes. -/
namespace Go.Proofs.YthlhopdlkkeohaaGreatDoor
namespace Vl
open Go.Lib
/-- Is a text UTF-8? -/
def utf (l : List UInt8) : Bool := (Nm.runes l).isSome
theorem utf_nil : utf [] = true := rfl
/-- May a value be? -/
def Right (k n : Int) (l : List UInt8) : Prop := (k = 1 ∧ l = [] ∧ -2147483647 ≤ n ∧ n ≤ 2147483647) ∨ (k = 2 ∧ n = 0 ∧ utf l = true ∧ l.length ≤ 64) ∨ (k = 3 ∧ l = [] ∧ 0 ≤ n ∧ n ≤ 1)
def right (k n : Int) (l : List UInt8) : Bool :=
  (decide (k = 1) && (decide (l = []) && (decide (-2147483647 ≤ n) && decide (n ≤ 2147483647)))) || (decide (k = 2) && (decide (n = 0) && (utf l && decide (l.length ≤ 64)))) || (decide (k = 3) && (decide (l = []) && (decide (0 ≤ n) && decide (n ≤ 1))))
theorem right_iff {k n : Int} {l : List UInt8} : right k n l = true ↔ Right k n l := by
  simp [right, Right, or_assoc]
theorem right_no {k n : Int} {l : List UInt8} (h : ¬ Right k n l) : right k n l = false := by
  cases e : right k n l with
  | false => rfl
  | true => exact absurd (right_iff.1 e) h
theorem right_yes {k n : Int} {l : List UInt8} (h : Right k n l) : right k n l = true := right_iff.2 h
theorem Right.len {k n : Int} {l : List UInt8} (h : Right k n l) : l.length ≤ 64 := by
  rcases h with ⟨_, rfl, _⟩ | ⟨_, _, _, h⟩ | ⟨_, rfl, _⟩ <;> simp_all
theorem Right.amount {k n : Int} {l : List UInt8} (h : Right k n l) : -2147483647 ≤ n ∧ n ≤ 2147483647 := by
  rcases h with ⟨_, _, h1, h2⟩ | ⟨_, rfl, _, h⟩ | ⟨_, _, h1, h2⟩ <;> omega
theorem Right.kind {k n : Int} {l : List UInt8} (h : Right k n l) : 1 ≤ k ∧ k ≤ 3 := by
  rcases h with ⟨rfl, _⟩ | ⟨rfl, _⟩ | ⟨rfl, _⟩ <;> omega
theorem Right.utf {k n : Int} {l : List UInt8} (h : Right k n l) : utf l = true := by
  rcases h with ⟨_, rfl, _⟩ | ⟨_, _, h, _⟩ | ⟨_, rfl, _⟩
  · rfl
  · exact h
  · rfl

/-! ### What is in a value, and the way back -/
inductive In where
  | int (n : Int)
  | str (l : List UInt8)
  | bool (b : Bool)
def inside (k n : Int) (l : List UInt8) : In := if k = 1 then .int n else if k = 2 then .str l else .bool (n == 1)
def In.k : In → Int | .int _ => 1 | .str _ => 2 | .bool _ => 3
def In.n : In → Int | .int n => n | .str _ => 0 | .bool b => if b then 1 else 0
def In.s : In → List UInt8 | .int _ => [] | .str l => l | .bool _ => []
def In.is (x : In) (k n : Int) (l : List UInt8) : Prop := x.k = k ∧ x.n = n ∧ x.s = l
/-! ### Bytes -/
def fold (n : Int) : Int := if n < 0 then -2 * n - 1 else 2 * n
theorem fold_pos (n : Int) : 0 ≤ fold n := by unfold fold; split <;> omega
theorem fold_le {n : Int} (h1 : -2147483647 ≤ n) (h2 : n ≤ 2147483647) : fold n ≤ 4294967294 := by unfold fold; split <;> omega
def unfold' (n : Int) : Int := if n % 2 = 0 then n / 2 else -(n / 2) - 1
theorem unfold_fold (n : Int) : unfold' (fold n) = n := by
  unfold unfold' fold
  split <;> split <;> omega
/-- A right value's bytes. -/
def code (k n : Int) (l : List UInt8) : List UInt8 := Pk.enc k.toNat ++ (if k = 2 then Pk.enc l.length ++ l else Pk.enc (fold n).toNat)

end Vl
end Go.Proofs.YthlhopdlkkeohaaGreatDoor
/- Dots as plain mathematics: which are right, how they stand. -/
namespace Go.Proofs.YthlhopdlkkeohaaGreatDoor
namespace Dt
/-- How two numbers stand: -1, 0, 1. -/
def compareInt (x y : Int) : Int := if x < y then -1 else if y < x then 1 else 0

/-- May a dot be? -/
def right (r n : Int) : Bool := decide (0 ≤ r) && decide (r < 16) && decide (1 ≤ n) && decide (n ≤ 1048576)
theorem right_iff {r n : Int} : right r n = true ↔ 0 ≤ r ∧ r < 16 ∧ 1 ≤ n ∧ n ≤ 1048576 := by simp [right, and_assoc]
/-- How two stand: by the first number, then by the second. -/
def two (x y : Int) : Int := if x = 0 then y else x
def comp (r n r' n' : Int) : Int := two (compareInt r r') (compareInt n n')
theorem compareInt_zero {x y : Int} : compareInt x y = 0 ↔ x = y := by
  unfold compareInt; constructor
  · intro h; split at h
    · cases h
    · split at h
      · cases h
      · omega
  · rintro rfl; simp
theorem compareInt_cases (x y : Int) : (x < y ∧ compareInt x y = -1) ∨ (x = y ∧ compareInt x y = 0) ∨ (y < x ∧ compareInt x y = 1) := by
  unfold compareInt
  by_cases h : x < y
  · left; exact ⟨h, if_pos h⟩
  · by_cases h' : y < x
    · right; right; exact ⟨h', by rw [if_neg h, if_pos h']⟩
    · right; left; exact ⟨by omega, by rw [if_neg h, if_neg h']⟩
theorem comp_cases (r n r' n' : Int) : ((r < r' ∨ (r = r' ∧ n < n')) ∧ comp r n r' n' = -1) ∨ (r = r' ∧ n = n' ∧ comp r n r' n' = 0) ∨ ((r' < r ∨ (r = r' ∧ n' < n)) ∧ comp r n r' n' = 1) := by
  unfold comp two
  rcases compareInt_cases r r' with ⟨h, e⟩ | ⟨h, e⟩ | ⟨h, e⟩ <;> rw [e]
  · left; exact ⟨.inl h, by simp⟩
  · rcases compareInt_cases n n' with ⟨h2, e2⟩ | ⟨h2, e2⟩ | ⟨h2, e2⟩ <;> rw [e2]
    · left; exact ⟨.inr ⟨h, h2⟩, by simp⟩
    · right; left; exact ⟨h, h2, by simp⟩
    · right; right; exact ⟨.inr ⟨h, h2⟩, by simp⟩
  · right; right; exact ⟨.inl h, by simp⟩

end Dt
end Go.Proofs.YthlhopdlkkeohaaGreatDoor
/- Operations as plain mathematics: how references stand, which rise, what is wrong with an operation, its bytes. -/
namespace Go.Proofs.YthlhopdlkkeohaaGreatDoor

/-- A dot; a reference: a dot and a place. -/
abbrev D := Int × Int
abbrev U := D × Int

namespace Os
/-! ### How references stand -/
def comp (x y : U) : Int := Dt.two (Dt.comp x.1.1 x.1.2 y.1.1 y.1.2) (Dt.compareInt x.2 y.2)
abbrev lt (x y : U) : Prop := x.1.1 < y.1.1 ∨ (x.1.1 = y.1.1 ∧ (x.1.2 < y.1.2 ∨ (x.1.2 = y.1.2 ∧ x.2 < y.2)))
theorem comp_cases (x y : U) : (lt x y ∧ comp x y = -1) ∨ (x = y ∧ comp x y = 0) ∨ (lt y x ∧ comp x y = 1) := by
  obtain ⟨⟨a, b⟩, c⟩ := x
  obtain ⟨⟨a', b'⟩, c'⟩ := y
  simp only [comp, Dt.two, lt, Prod.mk.injEq]
  have h1 := Dt.comp_cases a b a' b'
  have h2 := Dt.compareInt_cases c c'
  generalize Dt.comp a b a' b' = z at *
  generalize Dt.compareInt c c' = q at *
  split <;> omega
theorem lt_trans {x y z : U} (h : lt x y) (k : lt y z) : lt x z := by simp only [lt] at *; omega
theorem lt_irrefl (x : U) : ¬ lt x x := by simp only [lt]; omega
theorem lt_ne {x y : U} (h : lt x y) : x ≠ y := fun e => lt_irrefl x (by rw [← e] at h; exact h)
theorem comp_zero {x y : U} : comp x y = 0 ↔ x = y := by
  rcases comp_cases x y with ⟨h, e⟩ | ⟨h, e⟩ | ⟨h, e⟩
  · exact ⟨fun k => by omega, fun k => absurd k (lt_ne h)⟩
  · exact ⟨fun _ => h, fun _ => e⟩
  · exact ⟨fun k => by omega, fun k => absurd k.symm (lt_ne h)⟩
theorem comp_neg {x y : U} : comp x y = -1 ↔ lt x y := by
  rcases comp_cases x y with ⟨h, e⟩ | ⟨h, e⟩ | ⟨h, e⟩
  · exact ⟨fun _ => h, fun _ => e⟩
  · exact ⟨fun k => by omega, fun k => absurd h (lt_ne k)⟩
  · exact ⟨fun k => by omega, fun k => absurd (lt_trans h k) (lt_irrefl y)⟩
theorem cf_lt (x y : U) : decide (comp x y < 0) = decide (lt x y) := by
  rw [decide_eq_decide, ← comp_neg]
  rcases comp_cases x y with ⟨_, e⟩ | ⟨_, e⟩ | ⟨_, e⟩ <;> omega
theorem cf_eq (x y : U) : decide (comp x y = 0) = decide (x = y) := by rw [decide_eq_decide]; exact comp_zero

/-! ### References that rise -/
def ok (u : U) : Bool := Dt.right u.1.1 u.1.2 && decide (0 ≤ u.2) && decide (u.2 ≤ 15)
abbrev Ups (l : List U) : Prop := (∀ u ∈ l, ok u = true) ∧ l.Pairwise lt
def ups (l : List U) : Bool := decide (Ups l)
theorem ups_iff {l : List U} : ups l = true ↔ Ups l := by simp [ups]
theorem ups_nil : Ups [] := ⟨fun u h => by simp at h, List.Pairwise.nil⟩
theorem ups_step {l : List U} {k : Nat} (h : Ups (l.take k)) (hk : k < l.length) (ho : ok l[k] = true) (hl : k = 0 ∨ ∃ h1 : k - 1 < l.length, lt l[k - 1] l[k]) : Ups (l.take (k + 1)) := by
  rw [List.take_succ_eq_append_getElem hk]
  refine ⟨fun u hu => ?_, List.pairwise_append.2 ⟨h.2, List.pairwise_singleton _ _, fun a ha b hb => ?_⟩⟩
  · rcases List.mem_append.1 hu with hu | hu
    · exact h.1 u hu
    · rw [List.mem_singleton.1 hu]; exact ho
  · rw [List.mem_singleton.1 hb]
    obtain ⟨i, hi, rfl⟩ := List.mem_iff_getElem.1 ha
    rw [List.length_take] at hi
    rcases hl with rfl | ⟨h1, hl⟩
    · omega
    · rw [List.getElem_take]
      by_cases e : i = k - 1
      · subst e; exact hl
      · have := List.pairwise_iff_getElem.1 h.2 i (k - 1) (by rw [List.length_take]; omega) (by rw [List.length_take]; omega) (by omega)
        rw [List.getElem_take, List.getElem_take] at this
        exact lt_trans this hl
theorem not_ok {l : List U} {k : Nat} (hk : k < l.length) (ho : ok l[k] = false) : ups l = false := by
  cases e : ups l with
  | false => rfl
  | true => rw [(ups_iff.1 e).1 _ (List.getElem_mem hk)] at ho; cases ho
theorem not_lt {l : List U} {k : Nat} (hk : k + 1 < l.length) (ho : ¬ lt l[k] l[k + 1]) : ups l = false := by
  cases e : ups l with
  | false => rfl
  | true => exact absurd (List.pairwise_iff_getElem.1 (ups_iff.1 e).2 k (k + 1) (by omega) hk (by omega)) ho
theorem ok_parts (u : U) : ok u = (Dt.right u.1.1 u.1.2 && decide (0 ≤ u.2) && decide (u.2 ≤ 15)) := rfl

/-! ### Operations -/
structure Op where
  k : Int
  p : List (List UInt8)
  vk : Int
  vn : Int
  vs : List UInt8
  n : Int
  l : List U
/-- The leaf of a kind. -/
def leaf (k : Int) : Int := if k = 1 then 1 else if k = 2 ∨ k = 4 then 2 else if k = 3 then 3 else 0
def hv (k : Int) : Bool := decide (k = 1 ∨ k = 2 ∨ k = 4)
def ha (k : Int) : Bool := decide (k = 3)
def hs (k : Int) : Bool := decide (k = 1 ∨ k = 4 ∨ k = 5)
/-- The value, the amount that the kind asks for, or none. -/
def rv (o : Op) : Bool := if hv o.k = true then Vl.right o.vk o.vn o.vs else decide (o.vk = 0 ∧ o.vn = 0 ∧ o.vs = [])
def ra (o : Op) : Bool := if ha o.k = true then decide (o.n ≠ 0 ∧ -2147483647 ≤ o.n ∧ o.n ≤ 2147483647) else decide (o.n = 0)
/-- What is wrong with an operation. -/
def check (o : Op) : Nat :=
  if o.k < 1 ∨ 5 < o.k then 18 else if Pt.check o.p ≠ 0 then Pt.check o.p else
  if rv o = false ∨ ra o = false ∨ (hs o.k = false ∧ 0 < o.l.length) then 2 else if 256 < o.l.length then 7 else if ups o.l = false then 2 else 0
def same (a b : Op) : Bool := decide (a.k = b.k ∧ a.p = b.p ∧ (a.vk = b.vk ∧ a.vn = b.vn ∧ a.vs = b.vs) ∧ a.n = b.n ∧ a.l = b.l)
def gone (o : Op) : Bool := decide (o.k = 0 ∧ o.p = [] ∧ (o.vk = 0 ∧ o.vn = 0 ∧ o.vs = []) ∧ o.n = 0 ∧ o.l = [])
def short (o : Op) : Bool := Pt.short o.p && decide (o.vs.length ≤ 200) && decide (o.l.length ≤ 300)
theorem same_self (a : Op) : same a a = true := by simp [same]
theorem gone_is {o : Op} (h : gone o = true) : o = ⟨0, [], 0, 0, [], 0, []⟩ := by
  obtain ⟨k, p, vk, vn, vs, n, l⟩ := o
  simp only [gone, decide_eq_true_eq] at h
  obtain ⟨h1, h2, ⟨h3, h4, h5⟩, h6, h7⟩ := h
  subst h1 h2 h3 h4 h5 h6 h7
  rfl
theorem check_zero {o : Op} (h : check o = 0) : 1 ≤ o.k ∧ o.k ≤ 5 ∧ Pt.check o.p = 0 ∧ rv o = true ∧ ra o = true ∧ (hs o.k = true ∨ o.l = []) ∧ o.l.length ≤ 256 ∧ ups o.l = true := by
  unfold check at h
  split at h
  · omega
  · split at h
    · omega
    · split at h
      · omega
      · split at h
        · omega
        · split at h
          · omega
          · rename_i h1 h2 h3 h4 h5
            simp only [not_or, Bool.not_eq_false, not_and] at h3
            refine ⟨by omega, by omega, by omega, h3.1, h3.2.1, ?_, by omega, by simpa using h5⟩
            by_cases e : hs o.k = true
            · exact .inl e
            · have := h3.2.2 (by simpa using e)
              exact .inr (List.eq_nil_of_length_eq_zero (by omega))

/-! ### Bytes -/
def rcode (u : U) : List UInt8 := (Pk.enc u.1.1.toNat ++ Pk.enc u.1.2.toNat) ++ Pk.enc u.2.toNat
def rcodes (l : List U) : List UInt8 := l.flatMap rcode
def lcode (l : List U) : List UInt8 := Pk.enc l.length ++ rcodes l
/-- So many of the references' bytes, behind others. -/
def rTo (l : List U) (s : List UInt8) (k : Nat) : List UInt8 := s ++ rcodes (l.take k)
theorem rTo_zero (l : List U) (s : List UInt8) : rTo l s 0 = s := by simp [rTo, rcodes]
theorem rTo_all (l : List U) (s : List UInt8) : rTo l s l.length = s ++ rcodes l := by simp [rTo]
theorem rcodes_cons (u : U) (l : List U) : rcodes (u :: l) = rcode u ++ rcodes l := rfl
/-- The numbers of right references are small. -/
theorem ok_small {u : U} (h : ok u = true) : (0 ≤ u.1.1 ∧ u.1.1 < 16) ∧ (1 ≤ u.1.2 ∧ u.1.2 ≤ 1048576) ∧ 0 ≤ u.2 ∧ u.2 ≤ 15 := by
  simp only [ok, Bool.and_eq_true, decide_eq_true_eq] at h
  have := Dt.right_iff.1 h.1.1
  omega
theorem rcode_len {u : U} (h : ok u = true) : (rcode u).length ≤ 27 := by
  have hs := ok_small h
  have h1 := Pk.enc_len9 (n := u.1.1.toNat) (by omega)
  have h2 := Pk.enc_len9 (n := u.1.2.toNat) (by omega)
  have h3 := Pk.enc_len9 (n := u.2.toNat) (by omega)
  simp only [rcode, List.length_append]
  omega
theorem rcode_pos (u : U) : 1 ≤ (rcode u).length := by
  have := Pk.enc_pos u.1.1.toNat
  simp only [rcode, List.length_append]
  omega
theorem rcodes_len : ∀ {l : List U}, (∀ u ∈ l, ok u = true) → (rcodes l).length ≤ 27 * l.length
  | [], _ => by simp [rcodes]
  | u :: l, h => by
    have h1 := rcodes_len (l := l) (fun x hx => h x (by simp [hx]))
    have h2 := rcode_len (h u (by simp))
    rw [rcodes_cons, List.length_append, List.length_cons]
    omega
theorem rcodes_ge : ∀ l : List U, l.length ≤ (rcodes l).length
  | [] => by simp
  | u :: l => by
    have h1 := rcodes_ge l
    have h2 := rcode_pos u
    rw [rcodes_cons, List.length_append, List.length_cons]
    omega
/-- An operation's bytes, behind its kind and path. -/
def tail (o : Op) : List UInt8 := (if hv o.k = true then Vl.code o.vk o.vn o.vs else []) ++ ((if ha o.k = true then Pk.enc (Vl.fold o.n).toNat else []) ++ (if hs o.k = true then lcode o.l else []))
def code (o : Op) : List UInt8 := if gone o = true then Pk.enc o.k.toNat else Pk.enc o.k.toNat ++ (Pt.code o.p ++ tail o)

/-! ### What is named once -/
theorem ups_nodup {l : List U} (h : Ups l) : l.Nodup := h.2.imp lt_ne
theorem count_le {l : List U} (h : Ups l) (x : U) : l.count x ≤ 1 := List.nodup_iff_count.1 (ups_nodup h)  x
end Os
end Go.Proofs.YthlhopdlkkeohaaGreatDoor
/- The walks of 'lastByte' and 'number'. -/
namespace Go.Proofs.YthlhopdlkkeohaaGreatDoor
open Go.RowKit

theorem ret_int {k : IntKind} {a b : Int} (h : a = b) : Ending.returned (.int k a) = .returned (.int k b) := by rw [h]
theorem size_len (s : ByteArray) : s.data.toList.length = s.size := by simp
theorem get_data (s : ByteArray) (k : Nat) (h : k < s.size) : s.data.toList[k]'(by simpa using h) = s[k] := rfl

theorem ret3 {a a' c c' : Int} {b b' : ByteArray} (h1 : a = a') (h2 : b = b') (h3 : c = c') : Ending.returned (.tuple #[.int .i64 a, .string b, .int .i64 c]) = .returned (.tuple #[.int .i64 a', .string b', .int .i64 c']) := by rw [h1, h2, h3]
/-- What 'number' tells, as the program's values. -/
def numV (l : List UInt8) : Value := .tuple #[.int .i64 ((Pk.num l).1 : Nat), .string ⟨(Pk.num l).2.1.toArray⟩, .int .i64 ((Pk.num l).2.2 : Nat)]

theorem extract_high (s : ByteArray) (k : Nat) : s.extract k s.size = ⟨(s.data.toList.drop k).toArray⟩ := by
  apply ByteArray.ext
  apply Array.toList_inj.1
  simp only [ByteArray.data_extract, Array.toList_extract, List.extract_eq_take_drop]
  exact List.take_of_length_le (by simp)

end Go.Proofs.YthlhopdlkkeohaaGreatDoor
