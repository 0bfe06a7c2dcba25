/- Paths as plain mathematics: what is wrong with one, how two stand, whether the one begins with the other, their texts and bytes. -/
import Derived.Test.YtbbehccagdibcaaUtf
import Derived.Test.YtbbehccagdibcaaPlain
import Derived.Lib.Bytealg
import Derived.Lib.Join
namespace Go.Proofs.Ytbbehccagdibcaa
namespace Pt
open Go.Lib

/-! ### The row of texts -/
theorem cb_self (a : List UInt8) : compareBytes a a = 0 := by
  induction a with
  | nil => rfl
  | cons x a ih => simp [compareBytes, ih]
theorem cb_zero : ∀ {a b : List UInt8}, compareBytes a b = 0 → a = b
  | [], [], _ => rfl
  | [], _ :: _, h => by simp [compareBytes] at h
  | _ :: _, [], h => by simp [compareBytes] at h
  | x :: a, y :: b, h => by
    simp only [compareBytes] at h
    split at h
    · cases h
    · split at h
      · cases h
      · rename_i h1 h2
        have e : x = y := UInt8.le_antisymm (UInt8.not_lt.1 h2) (UInt8.not_lt.1 h1)
        rw [e, cb_zero h]
theorem cb_turn : ∀ (a b : List UInt8), compareBytes b a = - compareBytes a b
  | [], [] => rfl
  | [], _ :: _ => rfl
  | _ :: _, [] => rfl
  | x :: a, y :: b => by
    simp only [compareBytes]
    have h := cb_turn a b
    by_cases h1 : x < y
    · have h2 : ¬ y < x := UInt8.not_lt.2 (UInt8.le_of_lt h1)
      simp [h1, h2]
    · by_cases h2 : y < x
      · simp [h1, h2]
      · simp [h1, h2, h]
theorem cb_cases (a b : List UInt8) : compareBytes a b = -1 ∨ compareBytes a b = 0 ∨ compareBytes a b = 1 := by
  induction a generalizing b with
  | nil => cases b <;> simp [compareBytes]
  | cons x a ih =>
    cases b with
    | nil => simp [compareBytes]
    | cons y b =>
      simp only [compareBytes]
      split
      · simp
      · split
        · simp
        · exact ih b
theorem cb_trans : ∀ (a b c : List UInt8), compareBytes a b ≤ 0 → compareBytes b c ≤ 0 → compareBytes a c ≤ 0
  | [], _, [], _, _ => by simp [compareBytes]
  | [], _, _ :: _, _, _ => by simp [compareBytes]
  | _ :: _, [], _, h, _ => by simp [compareBytes] at h
  | _ :: _, _ :: _, [], _, h => by simp [compareBytes] at h
  | x :: a, y :: b, z :: c, h1, h2 => by
    simp only [compareBytes] at h1 h2 ⊢
    have t := cb_trans a b c
    have hx : x.toNat = x.toNat := rfl
    simp only [UInt8.lt_iff_toNat_lt] at *
    by_cases a1 : x.toNat < y.toNat
    · by_cases a2 : y.toNat < z.toNat
      · have : x.toNat < z.toNat := by omega
        simp [this]
      · rw [if_neg a2] at h2
        by_cases a3 : z.toNat < y.toNat
        · rw [if_pos a3] at h2; omega
        · have : x.toNat < z.toNat := by omega
          simp [this]
    · rw [if_neg a1] at h1
      by_cases a4 : y.toNat < x.toNat
      · rw [if_pos a4] at h1; omega
      · rw [if_neg a4] at h1
        by_cases a2 : y.toNat < z.toNat
        · have : x.toNat < z.toNat := by omega
          simp [this]
        · rw [if_neg a2] at h2
          by_cases a3 : z.toNat < y.toNat
          · rw [if_pos a3] at h2; omega
          · rw [if_neg a3] at h2
            rw [if_neg (by omega), if_neg (by omega)]
            exact t h1 h2
theorem less_iff : ∀ (a b : List UInt8), Op.bytesLess a b = decide (compareBytes a b = -1)
  | [], [] => by simp [Op.bytesLess, compareBytes]
  | [], _ :: _ => by simp [Op.bytesLess, compareBytes]
  | _ :: _, [] => by simp [Op.bytesLess, compareBytes]
  | x :: a, y :: b => by
    have h := less_iff a b
    simp only [Op.bytesLess, compareBytes]
    by_cases h1 : x < y
    · simp [h1]
    · by_cases h2 : y < x
      · have h3 : ¬ x = y := fun e => by subst e; exact h1 h2
        simp [h1, h2, h3]
      · have e : x = y := UInt8.le_antisymm (UInt8.not_lt.1 h2) (UInt8.not_lt.1 h1)
        subst e
        simp [h, h1]

/-! ### What is wrong with a path -/
def check (xs : List (List UInt8)) : Nat := if xs.length = 0 then 8 else if 8 < xs.length then 9 else if xs.all Nm.right = true then 0 else 8
theorem check_none {xs : List (List UInt8)} (h : xs.length = 0) : check xs = 8 := by simp [check, h]
theorem check_deep {xs : List (List UInt8)} (h : 8 < xs.length) : check xs = 9 := by unfold check; rw [if_neg (by omega), if_pos h]
theorem check_all {xs : List (List UInt8)} (h0 : xs.length ≠ 0) (h : ¬ 8 < xs.length) (ha : xs.all Nm.right = true) : check xs = 0 := by unfold check; rw [if_neg h0, if_neg h, if_pos ha]
theorem check_not {xs : List (List UInt8)} (h0 : xs.length ≠ 0) (h : ¬ 8 < xs.length) (ha : xs.all Nm.right = false) : check xs = 8 := by unfold check; rw [if_neg h0, if_neg h, if_neg (by rw [ha]; simp)]
theorem check_le (xs : List (List UInt8)) : check xs ≤ 9 := by unfold check; split <;> (try split) <;> (try split) <;> omega
theorem check_zero {xs : List (List UInt8)} (h : check xs = 0) : 1 ≤ xs.length ∧ xs.length ≤ 8 ∧ ∀ x ∈ xs, Nm.right x = true := by
  unfold check at h
  split at h
  · cases h
  · split at h
    · cases h
    · split at h
      · rename_i h1 h2 h3
        exact ⟨by omega, by omega, fun x hx => List.all_eq_true.1 h3 x hx⟩
      · cases h

theorem width4 (l : List UInt8) : (decodeL l).2 ≤ 4 := by
  rw [decodeL_N]
  unfold decodeN
  repeat' split
  all_goals simp
theorem rgo_len (m : Nat) : ∀ (n : Nat) (l : List UInt8), l.length ≤ m → n ≤ 24 → Nm.rgo n l = true → l.length ≤ 4 * (24 - n) := by
  induction m with
  | zero => intro n l h _ _; omega
  | succ m ih =>
    intro n l h hn hr
    by_cases hne : l = []
    · subst hne; simp
    · by_cases h1 : n = 24 ∨ Nm.may (decodeL l).1 = false
      · rw [Nm.rgo_no hne h1] at hr; cases hr
      · have h2 : n ≠ 24 := fun e => h1 (Or.inl e)
        have h3 : Nm.may (decodeL l).1 = true := by
          cases e : Nm.may (decodeL l).1 with
          | true => rfl
          | false => exact absurd (Or.inr e) h1
        rw [Nm.rgo_step hne h2 h3] at hr
        have h4 := Nm.rest_lt hne
        have h5 := ih (n + 1) (Nm.rest l) (by omega) (by omega) hr
        have h6 := width4 l
        have h7 : (Nm.rest l).length = l.length - (decodeL l).2 := by simp [Nm.rest]
        omega
theorem right_len {l : List UInt8} (h : Nm.right l = true) : l.length ≤ 96 := rgo_len l.length 0 l (Nat.le_refl _) (by omega) h
theorem right_pos {l : List UInt8} (h : Nm.right l = true) : 1 ≤ l.length := by
  cases l with
  | nil => simp [Nm.right, Nm.rgo_nil] at h
  | cons a l => simp

/-! ### How two paths stand -/
def comp : List (List UInt8) → List (List UInt8) → Int
  | [], [] => 0
  | [], _ :: _ => -1
  | _ :: _, [] => 1
  | a :: as, b :: bs => if compareBytes a b = 0 then comp as bs else compareBytes a b
theorem comp_self (xs : List (List UInt8)) : comp xs xs = 0 := by
  induction xs with
  | nil => rfl
  | cons x xs ih => simp [comp, cb_self, ih]
theorem comp_zero : ∀ {xs ys : List (List UInt8)}, comp xs ys = 0 → xs = ys
  | [], [], _ => rfl
  | [], _ :: _, h => by simp [comp] at h
  | _ :: _, [], h => by simp [comp] at h
  | x :: xs, y :: ys, h => by
    simp only [comp] at h
    split at h
    · rename_i h1
      rw [cb_zero h1, comp_zero h]
    · rename_i h1; exact absurd h h1
theorem comp_iff (xs ys : List (List UInt8)) : decide (comp xs ys = 0) = decide (xs = ys) := by
  apply decide_eq_decide.2
  exact ⟨comp_zero, fun h => by rw [h]; exact comp_self _⟩
theorem comp_turn : ∀ (xs ys : List (List UInt8)), comp ys xs = - comp xs ys
  | [], [] => rfl
  | [], _ :: _ => rfl
  | _ :: _, [] => rfl
  | x :: xs, y :: ys => by
    simp only [comp]
    have h := comp_turn xs ys
    have h1 := cb_turn x y
    by_cases h2 : compareBytes x y = 0
    · rw [if_pos h2, if_pos (by omega), h]
    · rw [if_neg h2, if_neg (by omega), h1]
theorem comp_cases (xs ys : List (List UInt8)) : comp xs ys = -1 ∨ comp xs ys = 0 ∨ comp xs ys = 1 := by
  induction xs generalizing ys with
  | nil => cases ys <;> simp [comp]
  | cons x xs ih =>
    cases ys with
    | nil => simp [comp]
    | cons y ys =>
      simp only [comp]
      split
      · exact ih ys
      · exact cb_cases x y
theorem comp_trans : ∀ (a b c : List (List UInt8)), comp a b ≤ 0 → comp b c ≤ 0 → comp a c ≤ 0
  | [], _, [], _, _ => by simp [comp]
  | [], _, _ :: _, _, _ => by simp [comp]
  | _ :: _, [], _, h, _ => by simp [comp] at h
  | _ :: _, _ :: _, [], _, h => by simp [comp] at h
  | x :: a, y :: b, z :: c, h1, h2 => by
    simp only [comp] at h1 h2 ⊢
    have t := comp_trans a b c
    have t0 := cb_trans x y z
    by_cases a1 : compareBytes x y = 0
    · have e := cb_zero a1
      subst e
      rw [if_pos a1] at h1
      by_cases a2 : compareBytes x z = 0
      · rw [if_pos a2] at h2 ⊢; exact t h1 h2
      · rw [if_neg a2] at h2 ⊢; exact h2
    · rw [if_neg a1] at h1
      by_cases a2 : compareBytes y z = 0
      · have e := cb_zero a2
        subst e
        rw [if_neg a1]; exact h1
      · rw [if_neg a2] at h2
        have h3 := t0 h1 h2
        by_cases a3 : compareBytes x z = 0
        · have e := cb_zero a3
          subst e
          have := cb_turn x y
          omega
        · rw [if_neg a3]; exact h3

/-! ### What begins with what -/
def under (xs ys : List (List UInt8)) : Bool := decide (ys.length ≤ xs.length) && decide (xs.take ys.length = ys)
theorem under_nil (xs : List (List UInt8)) : under xs [] = true := by simp [under]
theorem under_iff {xs ys : List (List UInt8)} : under xs ys = true ↔ ∃ r, xs = ys ++ r := by
  unfold under
  constructor
  · intro h
    simp only [Bool.and_eq_true, decide_eq_true_eq] at h
    exact ⟨xs.drop ys.length, by have := List.take_append_drop ys.length xs; rw [h.2] at this; exact this.symm⟩
  · rintro ⟨r, rfl⟩
    simp
theorem comp_app : ∀ (ys r : List (List UInt8)), 0 ≤ comp (ys ++ r) ys
  | [], [] => by simp [comp]
  | [], _ :: _ => by simp [comp]
  | y :: ys, r => by
    have h := comp_app ys r
    simp [comp, cb_self, h]
theorem under_behind {xs ys : List (List UInt8)} (h : under xs ys = true) : 0 ≤ comp xs ys := by
  obtain ⟨r, rfl⟩ := under_iff.1 h
  exact comp_app _ _
theorem under_both {a b c : List (List UInt8)} (h1 : under c a = true) (h2 : under c b = true) : under a b = true ∨ under b a = true := by
  obtain ⟨r, h1⟩ := under_iff.1 h1
  obtain ⟨q, h2⟩ := under_iff.1 h2
  rw [h1] at h2
  rcases List.append_eq_append_iff.1 h2 with ⟨x, e, _⟩ | ⟨x, e, _⟩
  · exact Or.inr (under_iff.2 ⟨x, e⟩)
  · exact Or.inl (under_iff.2 ⟨x, e⟩)

/-! ### Short ones -/
def short (xs : List (List UInt8)) : Bool := decide (xs.length ≤ 12) && xs.all fun x => decide (x.length ≤ 120)
theorem short_iff {xs : List (List UInt8)} (h : short xs = true) : xs.length ≤ 12 ∧ ∀ x ∈ xs, x.length ≤ 120 := by
  unfold short at h
  simp only [Bool.and_eq_true, decide_eq_true_eq] at h
  exact ⟨h.1, fun x hx => by simpa using List.all_eq_true.1 h.2 x hx⟩

/-! ### Texts and bytes -/
theorem joined_join (xs : List (List UInt8)) : join (xs.map Nm.quote) [47] = Nm.joined xs := by
  induction xs with
  | nil => rfl
  | cons x r ih =>
    cases r with
    | nil => simp [join_one, Nm.joined]
    | cons y r =>
      rw [Nm.joined_two, ← ih]
      simp only [List.map_cons]
      rw [join_cons, join_cons]
      simp [joinTail]
def textL (l : List UInt8) : List UInt8 := Pk.enc l.length ++ l
def code (xs : List (List UInt8)) : List UInt8 := Pk.enc xs.length ++ (xs.map textL).flatten
theorem join_empty (xs : List (List UInt8)) : join xs [] = xs.flatten := by
  cases xs with
  | nil => rfl
  | cons x r => rw [join_cons]; simp [joinTail]

end Pt
end Go.Proofs.Ytbbehccagdibcaa
