/- Dots as plain mathematics: which are right, how they stand. -/
import Derived.Test.YtbbehccagdibcaaPlain
namespace Go.Proofs.Ytbbehccagdibcaa
namespace Dt
/-- How two numbers stand: -1, 0, 1. -/
def compareInt (x y : Int) : Int := if x < y then -1 else if y < x then 1 else 0

/-- May a dot be? -/
def right (r n : Int) : Bool := decide (0 ≤ r) && decide (r < 16) && decide (1 ≤ n) && decide (n ≤ 1048576)
theorem right_iff {r n : Int} : right r n = true ↔ 0 ≤ r ∧ r < 16 ∧ 1 ≤ n ∧ n ≤ 1048576 := by simp [right, and_assoc]
/-- How two stand: by the first number, then by the second. -/
def two (x y : Int) : Int := if x = 0 then y else x
def comp (r n r' n' : Int) : Int := two (compareInt r r') (compareInt n n')
theorem compareInt_zero {x y : Int} : compareInt x y = 0 ↔ x = y := by
  unfold compareInt; constructor
  · intro h; split at h
    · cases h
    · split at h
      · cases h
      · omega
  · rintro rfl; simp
theorem compareInt_cases (x y : Int) : (x < y ∧ compareInt x y = -1) ∨ (x = y ∧ compareInt x y = 0) ∨ (y < x ∧ compareInt x y = 1) := by
  unfold compareInt
  by_cases h : x < y
  · left; exact ⟨h, if_pos h⟩
  · by_cases h' : y < x
    · right; right; exact ⟨h', by rw [if_neg h, if_pos h']⟩
    · right; left; exact ⟨by omega, by rw [if_neg h, if_neg h']⟩
theorem comp_cases (r n r' n' : Int) : ((r < r' ∨ (r = r' ∧ n < n')) ∧ comp r n r' n' = -1) ∨ (r = r' ∧ n = n' ∧ comp r n r' n' = 0) ∨ ((r' < r ∨ (r = r' ∧ n' < n)) ∧ comp r n r' n' = 1) := by
  unfold comp two
  rcases compareInt_cases r r' with ⟨h, e⟩ | ⟨h, e⟩ | ⟨h, e⟩ <;> rw [e]
  · left; exact ⟨.inl h, by simp⟩
  · rcases compareInt_cases n n' with ⟨h2, e2⟩ | ⟨h2, e2⟩ | ⟨h2, e2⟩ <;> rw [e2]
    · left; exact ⟨.inr ⟨h, h2⟩, by simp⟩
    · right; left; exact ⟨h, h2, by simp⟩
    · right; right; exact ⟨.inr ⟨h, h2⟩, by simp⟩
  · right; right; exact ⟨.inl h, by simp⟩

end Dt
end Go.Proofs.Ytbbehccagdibcaa
