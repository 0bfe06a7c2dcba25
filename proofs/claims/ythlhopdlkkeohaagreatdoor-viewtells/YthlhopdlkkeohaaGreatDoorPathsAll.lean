/- Paths as plain mathematics: what is wrong with one, how two stand, whether the one begins with the other, their texts and bytes · Values as plain mathematics: which are right, what is in them, their bytes · Dots as plain mathematics: which are right, how they stand · Operations as plain mathematics: how references stand, which rise, what is wrong with an operation, its bytes · Transactions as plain mathematics (for stage 12): what is wrong with one, how two stand, which rise, where a dot's stands, one put in its place, bytes. -/
import Derived.Test.YthlhopdlkkeohaaGreatDoorLaySortAll
import Derived.Test.YthlhopdlkkeohaaGreatDoorTxnOwnAllAll
import Derived.Lib.Bytealg
import Derived.Lib.Join
/- Paths as plain mathematics: what is wrong with one, how two stand, whether the one begins with the other, their texts and bytes. -/
namespace Go.Proofs.YthlhopdlkkeohaaGreatDoor
namespace Pt
open Go.Lib

/-! ### The row of texts -/
theorem cb_self (a : List UInt8) : compareBytes a a = 0 := by
  induction a with
  | nil => rfl
  | cons x a ih => simp [compareBytes, ih]
theorem cb_zero : ∀ {a b : List UInt8}, compareBytes a b = 0 → a = b
  | [], [], _ => rfl
  | [], _ :: _, h => by simp [compareBytes] at h
  | _ :: _, [], h => by simp [compareBytes] at h
  | x :: a, y :: b, h => by
    simp only [compareBytes] at h
    split at h
    · cases h
    · split at h
      · cases h
      · rename_i h1 h2
        have e : x = y := UInt8.le_antisymm (UInt8.not_lt.1 h2) (UInt8.not_lt.1 h1)
        rw [e, cb_zero h]
theorem cb_turn : ∀ (a b : List UInt8), compareBytes b a = - compareBytes a b
  | [], [] => rfl
  | [], _ :: _ => rfl
  | _ :: _, [] => rfl
  | x :: a, y :: b => by
    simp only [compareBytes]
    have h := cb_turn a b
    by_cases h1 : x < y
    · have h2 : ¬ y < x := UInt8.not_lt.2 (UInt8.le_of_lt h1)
      simp [h1, h2]
    · by_cases h2 : y < x
      · simp [h1, h2]
      · simp [h1, h2, h]
theorem cb_cases (a b : List UInt8) : compareBytes a b = -1 ∨ compareBytes a b = 0 ∨ compareBytes a b = 1 := by
  induction a generalizing b with
  | nil => cases b <;> simp [compareBytes]
  | cons x a ih =>
    cases b with
    | nil => simp [compareBytes]
    | cons y b =>
      simp only [compareBytes]
      split
      · simp
      · split
        · simp
        · exact ih b
theorem cb_trans : ∀ (a b c : List UInt8), compareBytes a b ≤ 0 → compareBytes b c ≤ 0 → compareBytes a c ≤ 0
  | [], _, [], _, _ => by simp [compareBytes]
  | [], _, _ :: _, _, _ => by simp [compareBytes]
  | _ :: _, [], _, h, _ => by simp [compareBytes] at h
  | _ :: _, _ :: _, [], _, h => by simp [compareBytes] at h
  | x :: a, y :: b, z :: c, h1, h2 => by
    simp only [compareBytes] at h1 h2 ⊢
    have t := cb_trans a b c
    have hx : x.toNat = x.toNat := rfl
    simp only [UInt8.lt_iff_toNat_lt] at *
    by_cases a1 : x.toNat < y.toNat
    · by_cases a2 : y.toNat < z.toNat
      · have : x.toNat < z.toNat := by omega
        simp [this]
      · rw [if_neg a2] at h2
        by_cases a3 : z.toNat < y.toNat
        · rw [if_pos a3] at h2; omega
        · have : x.toNat < z.toNat := by omega
          simp [this]
    · rw [if_neg a1] at h1
      by_cases a4 : y.toNat < x.toNat
      · rw [if_pos a4] at h1; omega
      · rw [if_neg a4] at h1
        by_cases a2 : y.toNat < z.toNat
        · have : x.toNat < z.toNat := by omega
          simp [this]
        · rw [if_neg a2] at h2
          by_cases a3 : z.toNat < y.toNat
          · rw [if_pos a3] at h2; omega
          · rw [if_neg a3] at h2
            rw [if_neg (by omega), if_neg (by omega)]
            exact t h1 h2
theorem less_iff : ∀ (a b : List UInt8), Op.bytesLess a b = decide (compareBytes a b = -1)
  | [], [] => by simp [Op.bytesLess, compareBytes]
  | [], _ :: _ => by simp [Op.bytesLess, compareBytes]
  | _ :: _, [] => by simp [Op.bytesLess, compareBytes]
  | x :: a, y :: b => by
    have h := less_iff a b
    simp only [Op.bytesLess, compareBytes]
    by_cases h1 : x < y
    · simp [h1]
    · by_cases h2 : y < x
      · have h3 : ¬ x = y := fun e => by subst e; exact h1 h2
        simp [h1, h2, h3]
      · have e : x = y := UInt8.le_antisymm (UInt8.not_lt.1 h2) (UInt8.not_lt.1 h1)
        subst e
        simp [h, h1]

/-! ### What is wrong with a path -/
def check (xs : List (List UInt8)) : Nat := if xs.length = 0 then 8 else if 8 < xs.length then 9 else if xs.all Nm.right = true then 0 else 8
theorem check_none {xs : List (List UInt8)} (h : xs.length = 0) : check xs = 8 := by simp [check, h]
theorem check_deep {xs : List (List UInt8)} (h : 8 < xs.length) : check xs = 9 := by unfold check; rw [if_neg (by omega), if_pos h]
theorem check_all {xs : List (List UInt8)} (h0 : xs.length ≠ 0) (h : ¬ 8 < xs.length) (ha : xs.all Nm.right = true) : check xs = 0 := by unfold check; rw [if_neg h0, if_neg h, if_pos ha]
theorem check_not {xs : List (List UInt8)} (h0 : xs.length ≠ 0) (h : ¬ 8 < xs.length) (ha : xs.all Nm.right = false) : check xs = 8 := by unfold check; rw [if_neg h0, if_neg h, if_neg (by rw [ha]; simp)]
theorem check_le (xs : List (List UInt8)) : check xs ≤ 9 := by unfold check; split <;> (try split) <;> (try split) <;> omega
theorem check_zero {xs : List (List UInt8)} (h : check xs = 0) : 1 ≤ xs.length ∧ xs.length ≤ 8 ∧ ∀ x ∈ xs, Nm.right x = true := by
  unfold check at h
  split at h
  · cases h
  · split at h
    · cases h
    · split at h
      · rename_i h1 h2 h3
        exact ⟨by omega, by omega, fun x hx => List.all_eq_true.1 h3 x hx⟩
      · cases h

theorem width4 (l : List UInt8) : (decodeL l).2 ≤ 4 := by
  rw [decodeL_N]
  unfold decodeN
  repeat' split
  all_goals simp
theorem rgo_len (m : Nat) : ∀ (n : Nat) (l : List UInt8), l.length ≤ m → n ≤ 24 → Nm.rgo n l = true → l.length ≤ 4 * (24 - n) := by
  induction m with
  | zero => intro n l h _ _; omega
  | succ m ih =>
    intro n l h hn hr
    by_cases hne : l = []
    · subst hne; simp
    · by_cases h1 : n = 24 ∨ Nm.may (decodeL l).1 = false
      · rw [Nm.rgo_no hne h1] at hr; cases hr
      · have h2 : n ≠ 24 := fun e => h1 (Or.inl e)
        have h3 : Nm.may (decodeL l).1 = true := by
          cases e : Nm.may (decodeL l).1 with
          | true => rfl
          | false => exact absurd (Or.inr e) h1
        rw [Nm.rgo_step hne h2 h3] at hr
        have h4 := Nm.rest_lt hne
        have h5 := ih (n + 1) (Nm.rest l) (by omega) (by omega) hr
        have h6 := width4 l
        have h7 : (Nm.rest l).length = l.length - (decodeL l).2 := by simp [Nm.rest]
        omega
theorem right_len {l : List UInt8} (h : Nm.right l = true) : l.length ≤ 96 := rgo_len l.length 0 l (Nat.le_refl _) (by omega) h
theorem right_pos {l : List UInt8} (h : Nm.right l = true) : 1 ≤ l.length := by
  cases l with
  | nil => simp [Nm.right, Nm.rgo_nil] at h
  | cons a l => simp

/-! ### How two paths stand -/
def comp : List (List UInt8) → List (List UInt8) → Int
  | [], [] => 0
  | [], _ :: _ => -1
  | _ :: _, [] => 1
  | a :: as, b :: bs => if compareBytes a b = 0 then comp as bs else compareBytes a b
theorem comp_self (xs : List (List UInt8)) : comp xs xs = 0 := by
  induction xs with
  | nil => rfl
  | cons x xs ih => simp [comp, cb_self, ih]
theorem comp_zero : ∀ {xs ys : List (List UInt8)}, comp xs ys = 0 → xs = ys
  | [], [], _ => rfl
  | [], _ :: _, h => by simp [comp] at h
  | _ :: _, [], h => by simp [comp] at h
  | x :: xs, y :: ys, h => by
    simp only [comp] at h
    split at h
    · rename_i h1
      rw [cb_zero h1, comp_zero h]
    · rename_i h1; exact absurd h h1
theorem comp_iff (xs ys : List (List UInt8)) : decide (comp xs ys = 0) = decide (xs = ys) := by
  apply decide_eq_decide.2
  exact ⟨comp_zero, fun h => by rw [h]; exact comp_self _⟩
theorem comp_turn : ∀ (xs ys : List (List UInt8)), comp ys xs = - comp xs ys
  | [], [] => rfl
  | [], _ :: _ => rfl
  | _ :: _, [] => rfl
  | x :: xs, y :: ys => by
    simp only [comp]
    have h := comp_turn xs ys
    have h1 := cb_turn x y
    by_cases h2 : compareBytes x y = 0
    · rw [if_pos h2, if_pos (by omega), h]
    · rw [if_neg h2, if_neg (by omega), h1]
theorem comp_cases (xs ys : List (List UInt8)) : comp xs ys = -1 ∨ comp xs ys = 0 ∨ comp xs ys = 1 := by
  induction xs generalizing ys with
  | nil => cases ys <;> simp [comp]
  | cons x xs ih =>
    cases ys with
    | nil => simp [comp]
    | cons y ys =>
      simp only [comp]
      split
      · exact ih ys
      · exact cb_cases x y
theorem comp_trans : ∀ (a b c : List (List UInt8)), comp a b ≤ 0 → comp b c ≤ 0 → comp a c ≤ 0
  | [], _, [], _, _ => by simp [comp]
  | [], _, _ :: _, _, _ => by simp [comp]
  | _ :: _, [], _, h, _ => by simp [comp] at h
  | _ :: _, _ :: _, [], _, h => by simp [comp] at h
  | x :: a, y :: b, z :: c, h1, h2 => by
    simp only [comp] at h1 h2 ⊢
    have t := comp_trans a b c
    have t0 := cb_trans x y z
    by_cases a1 : compareBytes x y = 0
    · have e := cb_zero a1
      subst e
      rw [if_pos a1] at h1
      by_cases a2 : compareBytes x z = 0
      · rw [if_pos a2] at h2 ⊢; exact t h1 h2
      · rw [if_neg a2] at h2 ⊢; exact h2
    · rw [if_neg a1] at h1
      by_cases a2 : compareBytes y z = 0
      · have e := cb_zero a2
        subst e
        rw [if_neg a1]; exact h1
      · rw [if_neg a2] at h2
        have h3 := t0 h1 h2
        by_cases a3 : compareBytes x z = 0
        · have e := cb_zero a3
          subst e
          have := cb_turn x y
          omega
        · rw [if_neg a3]; exact h3

/-! ### What begins with what -/
def under (xs ys : List (List UInt8)) : Bool := decide (ys.length ≤ xs.length) && decide (xs.take ys.length = ys)
theorem under_nil (xs : List (List UInt8)) : under xs [] = true := by simp [under]
theorem under_iff {xs ys : List (List UInt8)} : under xs ys = true ↔ ∃ r, xs = ys ++ r := by
  unfold under
  constructor
  · intro h
    simp only [Bool.and_eq_true, decide_eq_true_eq] at h
    exact ⟨xs.drop ys.length, by have := List.take_append_drop ys.length xs; rw [h.2] at this; exact this.symm⟩
  · rintro ⟨r, rfl⟩
    simp
theorem comp_app : ∀ (ys r : List (List UInt8)), 0 ≤ comp (ys ++ r) ys
  | [], [] => by simp [comp]
  | [], _ :: _ => by simp [comp]
  | y :: ys, r => by
    have h := comp_app ys r
    simp [comp, cb_self, h]
theorem under_behind {xs ys : List (List UInt8)} (h : under xs ys = true) : 0 ≤ comp xs ys := by
  obtain ⟨r, rfl⟩ := under_iff.1 h
  exact comp_app _ _
/-! ### Short ones -/
def short (xs : List (List UInt8)) : Bool := decide (xs.length ≤ 12) && xs.all fun x => decide (x.length ≤ 120)
theorem short_iff {xs : List (List UInt8)} (h : short xs = true) : xs.length ≤ 12 ∧ ∀ x ∈ xs, x.length ≤ 120 := by
  unfold short at h
  simp only [Bool.and_eq_true, decide_eq_true_eq] at h
  exact ⟨h.1, fun x hx => by simpa using List.all_eq_true.1 h.2 x hx⟩

/-! ### Texts and bytes -/
theorem joined_join (xs : List (List UInt8)) : join (xs.map Nm.quote) [47] = Nm.joined xs := by
  induction xs with
  | nil => rfl
  | cons x r ih =>
    cases r with
    | nil => simp [join_one, Nm.joined]
    | cons y r =>
      rw [Nm.joined_two, ← ih]
      simp only [List.map_cons]
      rw [join_cons, join_cons]
      simp [joinTail]
def textL (l : List UInt8) : List UInt8 := Pk.enc l.length ++ l
def code (xs : List (List UInt8)) : List UInt8 := Pk.enc xs.length ++ (xs.map textL).flatten
theorem join_empty (xs : List (List UInt8)) : join xs [] = xs.flatten := by
  cases xs with
  | nil => rfl
  | cons x r => rw [join_cons]; simp [joinTail]

end Pt
end Go.Proofs.YthlhopdlkkeohaaGreatDoor
/- Values as plain mathematics: which are right, what is in them, their bytes. -/
namespace Go.Proofs.YthlhopdlkkeohaaGreatDoor
namespace Vl
open Go.Lib
/-- Is a text UTF-8? -/
def utf (l : List UInt8) : Bool := (Nm.runes l).isSome
theorem utf_nil : utf [] = true := rfl
/-- May a value be? -/
def Right (k n : Int) (l : List UInt8) : Prop := (k = 1 ∧ l = [] ∧ -2147483647 ≤ n ∧ n ≤ 2147483647) ∨ (k = 2 ∧ n = 0 ∧ utf l = true ∧ l.length ≤ 64) ∨ (k = 3 ∧ l = [] ∧ 0 ≤ n ∧ n ≤ 1)
def right (k n : Int) (l : List UInt8) : Bool :=
  (decide (k = 1) && (decide (l = []) && (decide (-2147483647 ≤ n) && decide (n ≤ 2147483647)))) || (decide (k = 2) && (decide (n = 0) && (utf l && decide (l.length ≤ 64)))) || (decide (k = 3) && (decide (l = []) && (decide (0 ≤ n) && decide (n ≤ 1))))
theorem right_iff {k n : Int} {l : List UInt8} : right k n l = true ↔ Right k n l := by
  simp [right, Right, or_assoc]
theorem right_no {k n : Int} {l : List UInt8} (h : ¬ Right k n l) : right k n l = false := by
  cases e : right k n l with
  | false => rfl
  | true => exact absurd (right_iff.1 e) h
theorem right_yes {k n : Int} {l : List UInt8} (h : Right k n l) : right k n l = true := right_iff.2 h
theorem Right.len {k n : Int} {l : List UInt8} (h : Right k n l) : l.length ≤ 64 := by
  rcases h with ⟨_, rfl, _⟩ | ⟨_, _, _, h⟩ | ⟨_, rfl, _⟩ <;> simp_all
theorem Right.amount {k n : Int} {l : List UInt8} (h : Right k n l) : -2147483647 ≤ n ∧ n ≤ 2147483647 := by
  rcases h with ⟨_, _, h1, h2⟩ | ⟨_, rfl, _, h⟩ | ⟨_, _, h1, h2⟩ <;> omega
theorem Right.kind {k n : Int} {l : List UInt8} (h : Right k n l) : 1 ≤ k ∧ k ≤ 3 := by
  rcases h with ⟨rfl, _⟩ | ⟨rfl, _⟩ | ⟨rfl, _⟩ <;> omega
theorem Right.utf {k n : Int} {l : List UInt8} (h : Right k n l) : utf l = true := by
  rcases h with ⟨_, rfl, _⟩ | ⟨_, _, h, _⟩ | ⟨_, rfl, _⟩
  · rfl
  · exact h
  · rfl

/-! ### What is in a value, and the way back -/
inductive In where
  | int (n : Int)
  | str (l : List UInt8)
  | bool (b : Bool)
def inside (k n : Int) (l : List UInt8) : In := if k = 1 then .int n else if k = 2 then .str l else .bool (n == 1)
def In.k : In → Int | .int _ => 1 | .str _ => 2 | .bool _ => 3
def In.n : In → Int | .int n => n | .str _ => 0 | .bool b => if b then 1 else 0
def In.s : In → List UInt8 | .int _ => [] | .str l => l | .bool _ => []
def In.is (x : In) (k n : Int) (l : List UInt8) : Prop := x.k = k ∧ x.n = n ∧ x.s = l
/-! ### Bytes -/
def fold (n : Int) : Int := if n < 0 then -2 * n - 1 else 2 * n
theorem fold_pos (n : Int) : 0 ≤ fold n := by unfold fold; split <;> omega
theorem fold_le {n : Int} (h1 : -2147483647 ≤ n) (h2 : n ≤ 2147483647) : fold n ≤ 4294967294 := by unfold fold; split <;> omega
def unfold' (n : Int) : Int := if n % 2 = 0 then n / 2 else -(n / 2) - 1
theorem unfold_fold (n : Int) : unfold' (fold n) = n := by
  unfold unfold' fold
  split <;> split <;> omega
/-- A right value's bytes. -/
def code (k n : Int) (l : List UInt8) : List UInt8 := Pk.enc k.toNat ++ (if k = 2 then Pk.enc l.length ++ l else Pk.enc (fold n).toNat)

end Vl
end Go.Proofs.YthlhopdlkkeohaaGreatDoor
/- Dots as plain mathematics: which are right, how they stand. -/
namespace Go.Proofs.YthlhopdlkkeohaaGreatDoor
namespace Dt
/-- How two numbers stand: -1, 0, 1. -/
def compareInt (x y : Int) : Int := if x < y then -1 else if y < x then 1 else 0

/-- May a dot be? -/
def right (r n : Int) : Bool := decide (0 ≤ r) && decide (r < 16) && decide (1 ≤ n) && decide (n ≤ 1048576)
theorem right_iff {r n : Int} : right r n = true ↔ 0 ≤ r ∧ r < 16 ∧ 1 ≤ n ∧ n ≤ 1048576 := by simp [right, and_assoc]
/-- How two stand: by the first number, then by the second. -/
def two (x y : Int) : Int := if x = 0 then y else x
def comp (r n r' n' : Int) : Int := two (compareInt r r') (compareInt n n')
theorem compareInt_zero {x y : Int} : compareInt x y = 0 ↔ x = y := by
  unfold compareInt; constructor
  · intro h; split at h
    · cases h
    · split at h
      · cases h
      · omega
  · rintro rfl; simp
theorem compareInt_cases (x y : Int) : (x < y ∧ compareInt x y = -1) ∨ (x = y ∧ compareInt x y = 0) ∨ (y < x ∧ compareInt x y = 1) := by
  unfold compareInt
  by_cases h : x < y
  · left; exact ⟨h, if_pos h⟩
  · by_cases h' : y < x
    · right; right; exact ⟨h', by rw [if_neg h, if_pos h']⟩
    · right; left; exact ⟨by omega, by rw [if_neg h, if_neg h']⟩
theorem comp_cases (r n r' n' : Int) : ((r < r' ∨ (r = r' ∧ n < n')) ∧ comp r n r' n' = -1) ∨ (r = r' ∧ n = n' ∧ comp r n r' n' = 0) ∨ ((r' < r ∨ (r = r' ∧ n' < n)) ∧ comp r n r' n' = 1) := by
  unfold comp two
  rcases compareInt_cases r r' with ⟨h, e⟩ | ⟨h, e⟩ | ⟨h, e⟩ <;> rw [e]
  · left; exact ⟨.inl h, by simp⟩
  · rcases compareInt_cases n n' with ⟨h2, e2⟩ | ⟨h2, e2⟩ | ⟨h2, e2⟩ <;> rw [e2]
    · left; exact ⟨.inr ⟨h, h2⟩, by simp⟩
    · right; left; exact ⟨h, h2, by simp⟩
    · right; right; exact ⟨.inr ⟨h, h2⟩, by simp⟩
  · right; right; exact ⟨.inl h, by simp⟩

end Dt
end Go.Proofs.YthlhopdlkkeohaaGreatDoor
/- Operations as plain mathematics: how references stand, which rise, what is wrong with an operation, its bytes. -/
namespace Go.Proofs.YthlhopdlkkeohaaGreatDoor

/-- A dot; a reference: a dot and a place. -/
abbrev D := Int × Int
abbrev U := D × Int

namespace Os
/-! ### How references stand -/
def comp (x y : U) : Int := Dt.two (Dt.comp x.1.1 x.1.2 y.1.1 y.1.2) (Dt.compareInt x.2 y.2)
abbrev lt (x y : U) : Prop := x.1.1 < y.1.1 ∨ (x.1.1 = y.1.1 ∧ (x.1.2 < y.1.2 ∨ (x.1.2 = y.1.2 ∧ x.2 < y.2)))
theorem comp_cases (x y : U) : (lt x y ∧ comp x y = -1) ∨ (x = y ∧ comp x y = 0) ∨ (lt y x ∧ comp x y = 1) := by
  obtain ⟨⟨a, b⟩, c⟩ := x
  obtain ⟨⟨a', b'⟩, c'⟩ := y
  simp only [comp, Dt.two, lt, Prod.mk.injEq]
  have h1 := Dt.comp_cases a b a' b'
  have h2 := Dt.compareInt_cases c c'
  generalize Dt.comp a b a' b' = z at *
  generalize Dt.compareInt c c' = q at *
  split <;> omega
theorem lt_trans {x y z : U} (h : lt x y) (k : lt y z) : lt x z := by simp only [lt] at *; omega
theorem lt_irrefl (x : U) : ¬ lt x x := by simp only [lt]; omega
theorem lt_ne {x y : U} (h : lt x y) : x ≠ y := fun e => lt_irrefl x (by rw [← e] at h; exact h)
theorem comp_zero {x y : U} : comp x y = 0 ↔ x = y := by
  rcases comp_cases x y with ⟨h, e⟩ | ⟨h, e⟩ | ⟨h, e⟩
  · exact ⟨fun k => by omega, fun k => absurd k (lt_ne h)⟩
  · exact ⟨fun _ => h, fun _ => e⟩
  · exact ⟨fun k => by omega, fun k => absurd k.symm (lt_ne h)⟩
theorem comp_neg {x y : U} : comp x y = -1 ↔ lt x y := by
  rcases comp_cases x y with ⟨h, e⟩ | ⟨h, e⟩ | ⟨h, e⟩
  · exact ⟨fun _ => h, fun _ => e⟩
  · exact ⟨fun k => by omega, fun k => absurd h (lt_ne k)⟩
  · exact ⟨fun k => by omega, fun k => absurd (lt_trans h k) (lt_irrefl y)⟩
theorem cf_lt (x y : U) : decide (comp x y < 0) = decide (lt x y) := by
  rw [decide_eq_decide, ← comp_neg]
  rcases comp_cases x y with ⟨_, e⟩ | ⟨_, e⟩ | ⟨_, e⟩ <;> omega
theorem cf_eq (x y : U) : decide (comp x y = 0) = decide (x = y) := by rw [decide_eq_decide]; exact comp_zero

/-! ### References that rise -/
def ok (u : U) : Bool := Dt.right u.1.1 u.1.2 && decide (0 ≤ u.2) && decide (u.2 ≤ 15)
abbrev Ups (l : List U) : Prop := (∀ u ∈ l, ok u = true) ∧ l.Pairwise lt
def ups (l : List U) : Bool := decide (Ups l)
theorem ups_iff {l : List U} : ups l = true ↔ Ups l := by simp [ups]
theorem ups_nil : Ups [] := ⟨fun u h => by simp at h, List.Pairwise.nil⟩
theorem ups_step {l : List U} {k : Nat} (h : Ups (l.take k)) (hk : k < l.length) (ho : ok l[k] = true) (hl : k = 0 ∨ ∃ h1 : k - 1 < l.length, lt l[k - 1] l[k]) : Ups (l.take (k + 1)) := by
  rw [List.take_succ_eq_append_getElem hk]
  refine ⟨fun u hu => ?_, List.pairwise_append.2 ⟨h.2, List.pairwise_singleton _ _, fun a ha b hb => ?_⟩⟩
  · rcases List.mem_append.1 hu with hu | hu
    · exact h.1 u hu
    · rw [List.mem_singleton.1 hu]; exact ho
  · rw [List.mem_singleton.1 hb]
    obtain ⟨i, hi, rfl⟩ := List.mem_iff_getElem.1 ha
    rw [List.length_take] at hi
    rcases hl with rfl | ⟨h1, hl⟩
    · omega
    · rw [List.getElem_take]
      by_cases e : i = k - 1
      · subst e; exact hl
      · have := List.pairwise_iff_getElem.1 h.2 i (k - 1) (by rw [List.length_take]; omega) (by rw [List.length_take]; omega) (by omega)
        rw [List.getElem_take, List.getElem_take] at this
        exact lt_trans this hl
theorem not_ok {l : List U} {k : Nat} (hk : k < l.length) (ho : ok l[k] = false) : ups l = false := by
  cases e : ups l with
  | false => rfl
  | true => rw [(ups_iff.1 e).1 _ (List.getElem_mem hk)] at ho; cases ho
theorem not_lt {l : List U} {k : Nat} (hk : k + 1 < l.length) (ho : ¬ lt l[k] l[k + 1]) : ups l = false := by
  cases e : ups l with
  | false => rfl
  | true => exact absurd (List.pairwise_iff_getElem.1 (ups_iff.1 e).2 k (k + 1) (by omega) hk (by omega)) ho
theorem ok_parts (u : U) : ok u = (Dt.right u.1.1 u.1.2 && decide (0 ≤ u.2) && decide (u.2 ≤ 15)) := rfl

/-! ### Operations -/
structure Op where
  k : Int
  p : List (List UInt8)
  vk : Int
  vn : Int
  vs : List UInt8
  n : Int
  l : List U
/-- The leaf of a kind. -/
def leaf (k : Int) : Int := if k = 1 then 1 else if k = 2 ∨ k = 4 then 2 else if k = 3 then 3 else 0
def hv (k : Int) : Bool := decide (k = 1 ∨ k = 2 ∨ k = 4)
def ha (k : Int) : Bool := decide (k = 3)
def hs (k : Int) : Bool := decide (k = 1 ∨ k = 4 ∨ k = 5)
/-- The value, the amount that the kind asks for, or none. -/
def rv (o : Op) : Bool := if hv o.k = true then Vl.right o.vk o.vn o.vs else decide (o.vk = 0 ∧ o.vn = 0 ∧ o.vs = [])
def ra (o : Op) : Bool := if ha o.k = true then decide (o.n ≠ 0 ∧ -2147483647 ≤ o.n ∧ o.n ≤ 2147483647) else decide (o.n = 0)
/-- What is wrong with an operation. -/
def check (o : Op) : Nat :=
  if o.k < 1 ∨ 5 < o.k then 18 else if Pt.check o.p ≠ 0 then Pt.check o.p else
  if rv o = false ∨ ra o = false ∨ (hs o.k = false ∧ 0 < o.l.length) then 2 else if 256 < o.l.length then 7 else if ups o.l = false then 2 else 0
def same (a b : Op) : Bool := decide (a.k = b.k ∧ a.p = b.p ∧ (a.vk = b.vk ∧ a.vn = b.vn ∧ a.vs = b.vs) ∧ a.n = b.n ∧ a.l = b.l)
def gone (o : Op) : Bool := decide (o.k = 0 ∧ o.p = [] ∧ (o.vk = 0 ∧ o.vn = 0 ∧ o.vs = []) ∧ o.n = 0 ∧ o.l = [])
def short (o : Op) : Bool := Pt.short o.p && decide (o.vs.length ≤ 200) && decide (o.l.length ≤ 300)
theorem same_self (a : Op) : same a a = true := by simp [same]
theorem gone_is {o : Op} (h : gone o = true) : o = ⟨0, [], 0, 0, [], 0, []⟩ := by
  obtain ⟨k, p, vk, vn, vs, n, l⟩ := o
  simp only [gone, decide_eq_true_eq] at h
  obtain ⟨h1, h2, ⟨h3, h4, h5⟩, h6, h7⟩ := h
  subst h1 h2 h3 h4 h5 h6 h7
  rfl
theorem check_zero {o : Op} (h : check o = 0) : 1 ≤ o.k ∧ o.k ≤ 5 ∧ Pt.check o.p = 0 ∧ rv o = true ∧ ra o = true ∧ (hs o.k = true ∨ o.l = []) ∧ o.l.length ≤ 256 ∧ ups o.l = true := by
  unfold check at h
  split at h
  · omega
  · split at h
    · omega
    · split at h
      · omega
      · split at h
        · omega
        · split at h
          · omega
          · rename_i h1 h2 h3 h4 h5
            simp only [not_or, Bool.not_eq_false, not_and] at h3
            refine ⟨by omega, by omega, by omega, h3.1, h3.2.1, ?_, by omega, by simpa using h5⟩
            by_cases e : hs o.k = true
            · exact .inl e
            · have := h3.2.2 (by simpa using e)
              exact .inr (List.eq_nil_of_length_eq_zero (by omega))

/-! ### Bytes -/
def rcode (u : U) : List UInt8 := (Pk.enc u.1.1.toNat ++ Pk.enc u.1.2.toNat) ++ Pk.enc u.2.toNat
def rcodes (l : List U) : List UInt8 := l.flatMap rcode
def lcode (l : List U) : List UInt8 := Pk.enc l.length ++ rcodes l
/-- So many of the references' bytes, behind others. -/
def rTo (l : List U) (s : List UInt8) (k : Nat) : List UInt8 := s ++ rcodes (l.take k)
theorem rTo_zero (l : List U) (s : List UInt8) : rTo l s 0 = s := by simp [rTo, rcodes]
theorem rTo_all (l : List U) (s : List UInt8) : rTo l s l.length = s ++ rcodes l := by simp [rTo]
theorem rcodes_cons (u : U) (l : List U) : rcodes (u :: l) = rcode u ++ rcodes l := rfl
/-- The numbers of right references are small. -/
theorem ok_small {u : U} (h : ok u = true) : (0 ≤ u.1.1 ∧ u.1.1 < 16) ∧ (1 ≤ u.1.2 ∧ u.1.2 ≤ 1048576) ∧ 0 ≤ u.2 ∧ u.2 ≤ 15 := by
  simp only [ok, Bool.and_eq_true, decide_eq_true_eq] at h
  have := Dt.right_iff.1 h.1.1
  omega
theorem rcode_len {u : U} (h : ok u = true) : (rcode u).length ≤ 27 := by
  have hs := ok_small h
  have h1 := Pk.enc_len9 (n := u.1.1.toNat) (by omega)
  have h2 := Pk.enc_len9 (n := u.1.2.toNat) (by omega)
  have h3 := Pk.enc_len9 (n := u.2.toNat) (by omega)
  simp only [rcode, List.length_append]
  omega
theorem rcode_pos (u : U) : 1 ≤ (rcode u).length := by
  have := Pk.enc_pos u.1.1.toNat
  simp only [rcode, List.length_append]
  omega
theorem rcodes_len : ∀ {l : List U}, (∀ u ∈ l, ok u = true) → (rcodes l).length ≤ 27 * l.length
  | [], _ => by simp [rcodes]
  | u :: l, h => by
    have h1 := rcodes_len (l := l) (fun x hx => h x (by simp [hx]))
    have h2 := rcode_len (h u (by simp))
    rw [rcodes_cons, List.length_append, List.length_cons]
    omega
theorem rcodes_ge : ∀ l : List U, l.length ≤ (rcodes l).length
  | [] => by simp
  | u :: l => by
    have h1 := rcodes_ge l
    have h2 := rcode_pos u
    rw [rcodes_cons, List.length_append, List.length_cons]
    omega
/-- An operation's bytes, behind its kind and path. -/
def tail (o : Op) : List UInt8 := (if hv o.k = true then Vl.code o.vk o.vn o.vs else []) ++ ((if ha o.k = true then Pk.enc (Vl.fold o.n).toNat else []) ++ (if hs o.k = true then lcode o.l else []))
def code (o : Op) : List UInt8 := if gone o = true then Pk.enc o.k.toNat else Pk.enc o.k.toNat ++ (Pt.code o.p ++ tail o)

/-! ### What is named once -/
theorem ups_nodup {l : List U} (h : Ups l) : l.Nodup := h.2.imp lt_ne
theorem count_le {l : List U} (h : Ups l) (x : U) : l.count x ≤ 1 := List.nodup_iff_count.1 (ups_nodup h)  x
end Os
end Go.Proofs.YthlhopdlkkeohaaGreatDoor
/- Transactions as plain mathematics (for stage 12): what is wrong with one, how two stand, which rise, where a dot's stands, one put in its place, bytes. -/
namespace Go.Proofs.YthlhopdlkkeohaaGreatDoor

/-- The names of operations that are the same are the operations. -/
theorem Os.same_eq {a b : Os.Op} : Os.same a b = true ↔ a = b := by
  obtain ⟨k, p, vk, vn, vs, n, l⟩ := a
  obtain ⟨k', p', vk', vn', vs', n', l'⟩ := b
  simp only [Os.same, decide_eq_true_eq, Os.Op.mk.injEq]
  constructor
  · rintro ⟨h1, h2, ⟨h3, h4, h5⟩, h6, h7⟩; exact ⟨h1, h2, h3, h4, h5, h6, h7⟩
  · rintro ⟨h1, h2, h3, h4, h5, h6, h7⟩; exact ⟨h1, h2, ⟨h3, h4, h5⟩, h6, h7⟩

namespace Tx
/-! ### Dots in a row -/
abbrev dlt (x y : D) : Prop := x.1 < y.1 ∨ (x.1 = y.1 ∧ x.2 < y.2)
theorem dlt_trans {x y z : D} (h : dlt x y) (k : dlt y z) : dlt x z := by simp only [dlt] at *; omega
theorem dlt_irrefl (x : D) : ¬ dlt x x := by simp only [dlt]; omega
theorem dlt_ne {x y : D} (h : dlt x y) : x ≠ y := fun e => dlt_irrefl x (by rw [← e] at h; exact h)
theorem dlt_total (x y : D) : dlt x y ∨ x = y ∨ dlt y x := by
  obtain ⟨a, b⟩ := x
  obtain ⟨c, d⟩ := y
  simp only [dlt, Prod.mk.injEq]
  omega
theorem dcomp_neg (x y : D) : Dt.comp x.1 x.2 y.1 y.2 = -1 ↔ dlt x y := by
  have h := Dt.comp_cases x.1 x.2 y.1 y.2
  simp only [dlt]
  omega
theorem dcomp_lt (x y : D) : Dt.comp x.1 x.2 y.1 y.2 < 0 ↔ dlt x y := by
  have h := Dt.comp_cases x.1 x.2 y.1 y.2
  simp only [dlt]
  omega
theorem dcomp_zero (x y : D) : Dt.comp x.1 x.2 y.1 y.2 = 0 ↔ x = y := by
  have h := Dt.comp_cases x.1 x.2 y.1 y.2
  obtain ⟨a, b⟩ := x
  obtain ⟨c, d⟩ := y
  simp only [Prod.mk.injEq] at *
  omega

/-! ### Transactions -/
structure Txn where
  d : D
  u : Int
  t : Int
  thin : Bool
  ops : List Os.Op
/-- What is wrong with the first operation that is wrong. -/
def opsErr (thin : Bool) : List Os.Op → Nat
  | [] => 0
  | o :: r => if Os.check o ≠ 0 ∧ ¬ (thin = true ∧ Os.gone o = true) then Os.check o else opsErr thin r
def check (t : Txn) : Nat :=
  if Dt.right t.d.1 t.d.2 = false ∨ t.u < 0 ∨ 7 < t.u ∨ t.t < 1 ∨ 1099511627776 < t.t then 2 else if t.ops.length = 0 then 11 else if 16 < t.ops.length then 7 else opsErr t.thin t.ops
def comp (a b : Txn) : Int := Dt.two (Dt.compareInt a.t b.t) (Dt.comp a.d.1 a.d.2 b.d.1 b.d.2)
def sameOps : List Os.Op → List Os.Op → Bool
  | [], [] => true
  | a :: r, b :: q => Os.same a b && sameOps r q
  | _, _ => false
def same (a b : Txn) : Bool := decide (a.d = b.d ∧ a.u = b.u ∧ a.t = b.t ∧ a.thin = b.thin) && sameOps a.ops b.ops
theorem sameOps_eq : ∀ {a b : List Os.Op}, sameOps a b = true ↔ a = b
  | [], [] => by simp [sameOps]
  | [], _ :: _ => by simp [sameOps]
  | _ :: _, [] => by simp [sameOps]
  | a :: r, b :: q => by
    simp only [sameOps, Bool.and_eq_true, Os.same_eq, List.cons.injEq]
    rw [sameOps_eq]
theorem same_eq {a b : Txn} : same a b = true ↔ a = b := by
  obtain ⟨d, u, t, th, o⟩ := a
  obtain ⟨d', u', t', th', o'⟩ := b
  simp only [same, Bool.and_eq_true, decide_eq_true_eq, sameOps_eq, Txn.mk.injEq]
  constructor
  · rintro ⟨⟨h1, h2, h3, h4⟩, h5⟩; exact ⟨h1, h2, h3, h4, h5⟩
  · rintro ⟨h1, h2, h3, h4, h5⟩; exact ⟨⟨h1, h2, h3, h4⟩, h5⟩
theorem same_self (a : Txn) : same a a = true := same_eq.2 rfl
theorem sameOps_all {a b : List Os.Op} (hl : a.length = b.length) (h : ∀ k (h1 : k < a.length) (h2 : k < b.length), Os.same a[k] b[k] = true) : sameOps a b = true :=
  sameOps_eq.2 (List.ext_getElem hl fun k h1 h2 => Os.same_eq.1 (h k h1 h2))
theorem sameOps_len {a b : List Os.Op} (h : a.length ≠ b.length) : sameOps a b = false := by
  cases e : sameOps a b with
  | false => rfl
  | true => exact absurd (by rw [sameOps_eq.1 e]) h
/-- So many operations have no error. -/
theorem opsErr_take {th : Bool} : ∀ {l : List Os.Op} {k : Nat} (_ : k < l.length) (_ : opsErr th (l.take k) = 0), (∀ j (h : j < l.length), j < k → Os.check l[j] = 0 ∨ (th = true ∧ Os.gone l[j] = true)) → opsErr th l = opsErr th (l.drop k)
  | [], _, h, _, _ => by simp at h
  | o :: r, 0, _, _, _ => rfl
  | o :: r, k + 1, h, h0, ha => by
    have ho := ha 0 (by simp) (by omega)
    have e : opsErr th (o :: r) = opsErr th r := by
      rw [opsErr, if_neg]
      rintro ⟨h1, h2⟩
      rcases ho with ho | ho
      · exact h1 ho
      · exact h2 ho
    rw [List.drop_succ_cons, e]
    refine opsErr_take (by simpa using h) ?_ fun j hj hk => ha (j + 1) (by simpa using hj) (by omega)
    rw [List.take_succ_cons, opsErr, if_neg] at h0
    · exact h0
    · rintro ⟨h1, h2⟩
      rcases ho with ho | ho
      · exact h1 ho
      · exact h2 ho
theorem opsErr_zero {th : Bool} : ∀ {l : List Os.Op}, opsErr th l = 0 ↔ ∀ o ∈ l, Os.check o = 0 ∨ (th = true ∧ Os.gone o = true)
  | [] => by simp [opsErr]
  | o :: r => by
    rw [opsErr]
    by_cases h : Os.check o ≠ 0 ∧ ¬ (th = true ∧ Os.gone o = true)
    · rw [if_pos h]
      constructor
      · intro e; exact absurd e h.1
      · intro e
        rcases e o (by simp) with e | e
        · exact e
        · exact absurd e h.2
    · rw [if_neg h, opsErr_zero]
      constructor
      · intro e x hx
        rcases List.mem_cons.1 hx with rfl | hx
        · by_cases e0 : Os.check x = 0
          · exact .inl e0
          · exact .inr (Classical.byContradiction fun q => h ⟨e0, q⟩)
        · exact e x hx
      · intro e x hx
        exact e x (by simp [hx])
theorem check_zero {t : Txn} (h : check t = 0) : Dt.right t.d.1 t.d.2 = true ∧ (0 ≤ t.u ∧ t.u ≤ 7) ∧ (1 ≤ t.t ∧ t.t ≤ 1099511627776) ∧ (1 ≤ t.ops.length ∧ t.ops.length ≤ 16) ∧ ∀ o ∈ t.ops, Os.check o = 0 ∨ (t.thin = true ∧ Os.gone o = true) := by
  unfold check at h
  split at h
  · omega
  · rename_i h1
    split at h
    · omega
    · split at h
      · omega
      · simp only [not_or, Bool.not_eq_false] at h1
        exact ⟨h1.1, by omega, by omega, by omega, opsErr_zero.1 h⟩

/-! ### Transactions that rise -/
abbrev Rises (l : List Txn) : Prop := l.Pairwise fun a b => dlt a.d b.d
def rises (l : List Txn) : Bool := decide (Rises l)
theorem rises_iff {l : List Txn} : rises l = true ↔ Rises l := by simp [rises]
theorem rises_step {l : List Txn} {k : Nat} (h : Rises (l.take k)) (hk : k < l.length) (hl : k = 0 ∨ ∃ h1 : k - 1 < l.length, dlt l[k - 1].d l[k].d) : Rises (l.take (k + 1)) := by
  rw [List.take_succ_eq_append_getElem hk]
  refine List.pairwise_append.2 ⟨h, List.pairwise_singleton _ _, fun a ha b hb => ?_⟩
  rw [List.mem_singleton.1 hb]
  obtain ⟨i, hi, rfl⟩ := List.mem_iff_getElem.1 ha
  rw [List.length_take] at hi
  rcases hl with rfl | ⟨h1, hl⟩
  · omega
  · rw [List.getElem_take]
    by_cases e : i = k - 1
    · subst e; exact hl
    · have := List.pairwise_iff_getElem.1 h i (k - 1) (by rw [List.length_take]; omega) (by rw [List.length_take]; omega) (by omega)
      rw [List.getElem_take, List.getElem_take] at this
      exact dlt_trans this hl
theorem not_rises {l : List Txn} {k : Nat} (hk : k + 1 < l.length) (ho : ¬ dlt l[k].d l[k + 1].d) : rises l = false := by
  cases e : rises l with
  | false => rfl
  | true => exact absurd (List.pairwise_iff_getElem.1 (rises_iff.1 e) k (k + 1) (by omega) hk (by omega)) ho
/-- Where the dot's stands, from k on. -/
def findFrom (d : D) : Nat → List Txn → Int
  | _, [] => -1
  | k, x :: r => if x.d = d then (k : Int) else findFrom d (k + 1) r
def find (l : List Txn) (d : D) : Int := findFrom d 0 l
theorem findFrom_none {d : D} : ∀ {l : List Txn} {k : Nat}, (∀ x ∈ l, x.d ≠ d) → findFrom d k l = -1
  | [], _, _ => rfl
  | x :: r, k, h => by rw [findFrom, if_neg (h x (by simp)), findFrom_none fun y hy => h y (by simp [hy])]
theorem findFrom_at {d : D} : ∀ {l : List Txn} {k i : Nat} (hi : i < l.length), l[i].d = d → (∀ j (h : j < l.length), j < i → l[j].d ≠ d) → findFrom d k l = ((k + i : Nat) : Int)
  | [], _, _, hi, _, _ => by simp at hi
  | x :: r, k, 0, _, he, _ => by rw [findFrom, if_pos (by simpa using he)]; rfl
  | x :: r, k, i + 1, hi, he, hn => by
    rw [findFrom, if_neg (by have := hn 0 (by simp) (by omega); simpa using this), findFrom_at (i := i) (by simpa using hi) (by simpa using he) (fun j h hj => by have := hn (j + 1) (by simpa using h) (by omega); simpa using this)]
    congr 1; omega
theorem find_none {l : List Txn} {d : D} (h : ∀ x ∈ l, x.d ≠ d) : find l d = -1 := findFrom_none h
theorem find_at {l : List Txn} {d : D} {i : Nat} (hp : Rises l) (hi : i < l.length) (he : l[i].d = d) : find l d = (i : Int) := by
  have := findFrom_at (k := 0) hi he fun j h hj e => by
    have := List.pairwise_iff_getElem.1 hp j i h hi hj
    rw [e, ← he] at this
    exact dlt_irrefl _ this
  rw [find, this]
  congr 1; omega
/-- One put in its place. -/
def put : List Txn → Txn → List Txn
  | [], t => [t]
  | x :: r, t => if t.d = x.d then x :: r else if dlt t.d x.d then t :: x :: r else x :: put r t
theorem put_mem {t : Txn} : ∀ {l : List Txn} (x : Txn), x ∈ put l t → x = t ∨ x ∈ l
  | [], x, h => by simp only [put, List.mem_singleton] at h; exact .inl h
  | y :: r, x, h => by
    unfold put at h
    split at h
    · exact .inr h
    · split at h
      · rcases List.mem_cons.1 h with h | h
        · exact .inl h
        · exact .inr h
      · rcases List.mem_cons.1 h with h | h
        · exact .inr (by simp [h])
        · rcases put_mem x h with h | h
          · exact .inl h
          · exact .inr (by simp [h])
theorem put_old {t : Txn} : ∀ {l : List Txn} (x : Txn), x ∈ l → x ∈ put l t
  | [], x, h => by simp at h
  | y :: r, x, h => by
    unfold put
    split
    · exact h
    · split
      · exact List.mem_cons_of_mem _ h
      · rcases List.mem_cons.1 h with h | h
        · simp [h]
        · exact List.mem_cons_of_mem _ (put_old x h)
theorem put_new {t : Txn} : ∀ {l : List Txn}, (∀ x ∈ l, x.d ≠ t.d) → t ∈ put l t
  | [], _ => by simp [put]
  | y :: r, h => by
    unfold put
    rw [if_neg (fun e => h y (by simp) e.symm)]
    split
    · simp
    · exact List.mem_cons_of_mem _ (put_new fun x hx => h x (by simp [hx]))
theorem put_same {t : Txn} : ∀ {l : List Txn}, Rises l → (∃ x ∈ l, x.d = t.d) → put l t = l
  | [], _, h => by obtain ⟨x, hx, _⟩ := h; simp at hx
  | y :: r, hp, h => by
    unfold put
    by_cases e : t.d = y.d
    · rw [if_pos e]
    · obtain ⟨x, hx, hd⟩ := h
      rcases List.mem_cons.1 hx with rfl | hx
      · exact absurd hd.symm e
      · have hr := List.pairwise_cons.1 hp
        have h1 := hr.1 x hx
        rw [hd] at h1
        rw [if_neg e, if_neg (fun q => dlt_irrefl _ (dlt_trans q h1)), put_same hr.2 ⟨x, hx, hd⟩]
theorem put_rises {t : Txn} : ∀ {l : List Txn}, Rises l → Rises (put l t)
  | [], _ => List.pairwise_singleton _ _
  | y :: r, hp => by
    have hr := List.pairwise_cons.1 hp
    unfold put
    split
    · exact hp
    · split
      · rename_i h1 h2
        refine List.pairwise_cons.2 ⟨fun x hx => ?_, hp⟩
        rcases List.mem_cons.1 hx with rfl | hx
        · exact h2
        · exact dlt_trans h2 (hr.1 x hx)
      · rename_i h1 h2
        refine List.pairwise_cons.2 ⟨fun x hx => ?_, put_rises hr.2⟩
        rcases put_mem x hx with rfl | hx
        · rcases dlt_total x.d y.d with h | h | h
          · exact absurd h h2
          · exact absurd h h1
          · exact h
        · exact hr.1 x hx
/-- Two that rise, with the same ones in them, are the same. -/
theorem rises_eq : ∀ {a b : List Txn}, Rises a → Rises b → (∀ x, x ∈ a ↔ x ∈ b) → a = b
  | [], [], _, _, _ => rfl
  | [], y :: b, _, _, h => by have := (h y).2 (by simp); simp at this
  | x :: a, [], _, _, h => by have := (h x).1 (by simp); simp at this
  | x :: a, y :: b, ha, hb, h => by
    have ha' := List.pairwise_cons.1 ha
    have hb' := List.pairwise_cons.1 hb
    have e : x = y := by
      rcases List.mem_cons.1 ((h x).1 (by simp)) with e | e
      · exact e
      · rcases List.mem_cons.1 ((h y).2 (by simp)) with q | q
        · exact q.symm
        · exact absurd (dlt_trans (hb'.1 x e) (ha'.1 y q)) (dlt_irrefl _)
    subst e
    congr 1
    refine rises_eq ha'.2 hb'.2 fun z => ⟨fun hz => ?_, fun hz => ?_⟩
    · rcases List.mem_cons.1 ((h z).1 (List.mem_cons_of_mem _ hz)) with q | q
      · exact absurd (ha'.1 z hz) (by rw [q]; exact dlt_irrefl _)
      · exact q
    · rcases List.mem_cons.1 ((h z).2 (List.mem_cons_of_mem _ hz)) with q | q
      · exact absurd (hb'.1 z hz) (by rw [q]; exact dlt_irrefl _)
      · exact q
/-- All put, one behind the other. -/
def puts (a : List Txn) (l : List Txn) : List Txn := l.foldl put a
theorem puts_rises : ∀ {l a : List Txn}, Rises a → Rises (puts a l)
  | [], _, h => h
  | _ :: r, _, h => puts_rises (l := r) (put_rises h)
theorem puts_mem : ∀ {l a : List Txn}, (∀ x ∈ a, ∀ y ∈ l, x.d ≠ y.d) → (l.Pairwise fun x y => x.d ≠ y.d) → ∀ z, z ∈ puts a l ↔ z ∈ a ∨ z ∈ l
  | [], a, _, _, z => by simp [puts]
  | t :: r, a, h, hp, z => by
    have hp' := List.pairwise_cons.1 hp
    have h1 : ∀ x ∈ put a t, ∀ y ∈ r, x.d ≠ y.d := fun x hx y hy => by
      rcases put_mem x hx with rfl | hx
      · exact hp'.1 y hy
      · exact h x hx y (by simp [hy])
    rw [show puts a (t :: r) = puts (put a t) r from rfl, puts_mem h1 hp'.2 z]
    constructor
    · rintro (q | q)
      · rcases put_mem z q with rfl | q
        · exact .inr (by simp)
        · exact .inl q
      · exact .inr (by simp [q])
    · rintro (q | q)
      · exact .inl (put_old z q)
      · rcases List.mem_cons.1 q with rfl | q
        · exact .inl (put_new fun x hx => h x hx z (by simp))
        · exact .inr q
theorem put_len {t : Txn} : ∀ {l : List Txn}, (∀ x ∈ l, x.d ≠ t.d) → (put l t).length = l.length + 1
  | [], _ => rfl
  | y :: r, h => by
    unfold put
    rw [if_neg (fun e => h y (by simp) e.symm)]
    split
    · rfl
    · rw [List.length_cons, put_len fun x hx => h x (by simp [hx]), List.length_cons]
theorem puts_len : ∀ {l a : List Txn}, (∀ x ∈ a, ∀ y ∈ l, x.d ≠ y.d) → (l.Pairwise fun x y => x.d ≠ y.d) → (puts a l).length = a.length + l.length
  | [], _, _, _ => rfl
  | t :: r, a, h, hp => by
    have hp' := List.pairwise_cons.1 hp
    rw [show puts a (t :: r) = puts (put a t) r from rfl, puts_len (fun x hx y hy => by
      rcases put_mem x hx with rfl | hx
      · exact hp'.1 y hy
      · exact h x hx y (by simp [hy])) hp'.2, put_len (fun x hx => h x hx t (by simp)), List.length_cons]
    omega

/-! ### Bytes -/
def head (t : Txn) : List UInt8 := (Pk.enc t.d.1.toNat ++ Pk.enc t.d.2.toNat) ++ (Pk.enc t.u.toNat ++ (Pk.enc t.t.toNat ++ (Pk.enc (if t.thin = true then 1 else 0) ++ Pk.enc t.ops.length)))
def code (t : Txn) : List UInt8 := head t ++ t.ops.flatMap Os.code
def list (l : List Txn) : List UInt8 := Pk.enc l.length ++ l.flatMap code
end Tx
end Go.Proofs.YthlhopdlkkeohaaGreatDoor
