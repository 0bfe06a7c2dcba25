/- Values as plain mathematics: which are right, what is in them, their bytes. -/
import Derived.Test.YtbbehccagdibcaaUtf
import Derived.Test.YtbbehccagdibcaaPlain
namespace Go.Proofs.Ytbbehccagdibcaa
namespace Vl
open Go.Lib
/-- Is a text UTF-8? -/
def utf (l : List UInt8) : Bool := (Nm.runes l).isSome
theorem utf_nil : utf [] = true := rfl
/-- May a value be? -/
def Right (k n : Int) (l : List UInt8) : Prop := (k = 1 ∧ l = [] ∧ -2147483647 ≤ n ∧ n ≤ 2147483647) ∨ (k = 2 ∧ n = 0 ∧ utf l = true ∧ l.length ≤ 64) ∨ (k = 3 ∧ l = [] ∧ 0 ≤ n ∧ n ≤ 1)
def right (k n : Int) (l : List UInt8) : Bool :=
  (decide (k = 1) && (decide (l = []) && (decide (-2147483647 ≤ n) && decide (n ≤ 2147483647)))) || (decide (k = 2) && (decide (n = 0) && (utf l && decide (l.length ≤ 64)))) || (decide (k = 3) && (decide (l = []) && (decide (0 ≤ n) && decide (n ≤ 1))))
theorem right_iff {k n : Int} {l : List UInt8} : right k n l = true ↔ Right k n l := by
  simp [right, Right, or_assoc]
theorem right_no {k n : Int} {l : List UInt8} (h : ¬ Right k n l) : right k n l = false := by
  cases e : right k n l with
  | false => rfl
  | true => exact absurd (right_iff.1 e) h
theorem right_yes {k n : Int} {l : List UInt8} (h : Right k n l) : right k n l = true := right_iff.2 h
theorem Right.len {k n : Int} {l : List UInt8} (h : Right k n l) : l.length ≤ 64 := by
  rcases h with ⟨_, rfl, _⟩ | ⟨_, _, _, h⟩ | ⟨_, rfl, _⟩ <;> simp_all
theorem Right.amount {k n : Int} {l : List UInt8} (h : Right k n l) : -2147483647 ≤ n ∧ n ≤ 2147483647 := by
  rcases h with ⟨_, _, h1, h2⟩ | ⟨_, rfl, _, h⟩ | ⟨_, _, h1, h2⟩ <;> omega
theorem Right.kind {k n : Int} {l : List UInt8} (h : Right k n l) : 1 ≤ k ∧ k ≤ 3 := by
  rcases h with ⟨rfl, _⟩ | ⟨rfl, _⟩ | ⟨rfl, _⟩ <;> omega
theorem Right.utf {k n : Int} {l : List UInt8} (h : Right k n l) : utf l = true := by
  rcases h with ⟨_, rfl, _⟩ | ⟨_, _, h, _⟩ | ⟨_, rfl, _⟩
  · rfl
  · exact h
  · rfl

/-! ### What is in a value, and the way back -/
inductive In where
  | int (n : Int)
  | str (l : List UInt8)
  | bool (b : Bool)
def inside (k n : Int) (l : List UInt8) : In := if k = 1 then .int n else if k = 2 then .str l else .bool (n == 1)
def In.k : In → Int | .int _ => 1 | .str _ => 2 | .bool _ => 3
def In.n : In → Int | .int n => n | .str _ => 0 | .bool b => if b then 1 else 0
def In.s : In → List UInt8 | .int _ => [] | .str l => l | .bool _ => []
def In.is (x : In) (k n : Int) (l : List UInt8) : Prop := x.k = k ∧ x.n = n ∧ x.s = l
theorem inside_is {k n : Int} {l : List UInt8} (h : Right k n l) : (inside k n l).is k n l := by
  rcases h with ⟨rfl, rfl, _⟩ | ⟨rfl, rfl, _⟩ | ⟨rfl, rfl, h1, h2⟩
  · exact ⟨rfl, rfl, rfl⟩
  · exact ⟨rfl, rfl, rfl⟩
  · have : n = 0 ∨ n = 1 := by omega
    rcases this with rfl | rfl <;> exact ⟨rfl, rfl, rfl⟩
theorem right_of_is {k n : Int} {l : List UInt8} (h : (inside k n l).is k n l) (h1 : -2147483647 ≤ n) (h2 : n ≤ 2147483647) (h3 : l.length ≤ 64) (h4 : utf l = true) : Right k n l := by
  obtain ⟨a, b, c⟩ := h
  unfold inside at a b c
  split at a
  · rename_i e
    rw [if_pos e] at c
    exact .inl ⟨e, c.symm, h1, h2⟩
  · rename_i e
    rw [if_neg e] at b c
    split at a
    · rename_i e2
      rw [if_pos e2] at b
      exact .inr (.inl ⟨e2, b.symm, h4, h3⟩)
    · rename_i e2
      rw [if_neg e2] at b c
      refine .inr (.inr ⟨a.symm, c.symm, ?_⟩)
      cases hb : (n == 1) <;> rw [hb] at b <;> simp [In.n] at b <;> omega
/-! ### Bytes -/
def fold (n : Int) : Int := if n < 0 then -2 * n - 1 else 2 * n
theorem fold_pos (n : Int) : 0 ≤ fold n := by unfold fold; split <;> omega
theorem fold_le {n : Int} (h1 : -2147483647 ≤ n) (h2 : n ≤ 2147483647) : fold n ≤ 4294967294 := by unfold fold; split <;> omega
def unfold' (n : Int) : Int := if n % 2 = 0 then n / 2 else -(n / 2) - 1
theorem unfold_fold (n : Int) : unfold' (fold n) = n := by
  unfold unfold' fold
  split <;> split <;> omega
/-- A right value's bytes. -/
def code (k n : Int) (l : List UInt8) : List UInt8 := Pk.enc k.toNat ++ (if k = 2 then Pk.enc l.length ++ l else Pk.enc (fold n).toNat)

end Vl
end Go.Proofs.Ytbbehccagdibcaa
