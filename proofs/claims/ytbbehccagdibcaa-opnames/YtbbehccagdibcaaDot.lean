/- The walks of the dot's own functions, and of the document's: is it right, how two stand. -/
import Derived.Test.YtbbehccagdibcaaCommon
import Derived.Test.YtbbehccagdibcaaDots
import Derived.WalkKit
import Derived.Deep.RegionWith
import Derived.Deep.Quiet
namespace Go.Proofs.Ytbbehccagdibcaa.D
open Go.RowKit

/-- A dot, an operation, as the program holds them. -/
abbrev dotV (r n : Int) : Value := .agg #[.int .i64 r, .int .i64 n]
abbrev refV (r n i : Int) : Value := .agg #[.int .i64 r, .int .i64 n, .int .i64 i]

theorem right_any (r n : Int) (w : World) : Calls Try.prog 37 #[dotV r n] w fun e w' => e = .returned (.bool (Dt.right r n)) ∧ Below w.heap.size w w' := by
  by_cases h0 : 0 ≤ r
  rotate_left
  · rw [show Dt.right r n = false by rw [Bool.eq_false_iff]; intro h; rw [Dt.right_iff] at h; omega]
    have hd : decide (0 ≤ r) = false := decide_eq_false h0
    go_enter Try.func37, Try.ntmps37
    go_wp2
    go_ret
    exact ⟨rfl, below_new _ _⟩
  by_cases h1 : r < 16
  rotate_left
  · rw [show Dt.right r n = false by rw [Bool.eq_false_iff]; intro h; rw [Dt.right_iff] at h; omega]
    have hd : decide (r < 16) = false := decide_eq_false h1
    go_enter Try.func37, Try.ntmps37
    go_wp2
    go_ret
    exact ⟨rfl, below_new _ _⟩
  by_cases h2 : 1 ≤ n
  rotate_left
  · rw [show Dt.right r n = false by rw [Bool.eq_false_iff]; intro h; rw [Dt.right_iff] at h; omega]
    have hd : decide (1 ≤ n) = false := decide_eq_false h2
    go_enter Try.func37, Try.ntmps37
    go_wp2
    go_ret
    exact ⟨rfl, below_new _ _⟩
  by_cases h3 : n ≤ 1048576
  rotate_left
  · rw [show Dt.right r n = false by rw [Bool.eq_false_iff]; intro h; rw [Dt.right_iff] at h; omega]
    have hd : decide (n ≤ 1048576) = false := decide_eq_false h3
    go_enter Try.func37, Try.ntmps37
    go_wp2
    go_ret
    exact ⟨rfl, below_new _ _⟩
  rw [show Dt.right r n = true by rw [Dt.right_iff]; omega]
  go_enter Try.func37, Try.ntmps37
  go_wp2
  go_ret
  exact ⟨rfl, below_new _ _⟩

theorem refRight_any (r n : Int) (w : World) : Calls Try.prog 39 #[dotV r n] w fun e w' => e = .returned (.bool (Dt.right r n)) ∧ Below w.heap.size w w' := by
  by_cases h0 : 0 ≤ r
  rotate_left
  · rw [show Dt.right r n = false by rw [Bool.eq_false_iff]; intro h; rw [Dt.right_iff] at h; omega]
    have hd : decide (0 ≤ r) = false := decide_eq_false h0
    go_enter Try.func39, Try.ntmps39
    go_wp2
    go_ret
    exact ⟨rfl, below_new _ _⟩
  by_cases h1 : r ≤ 15
  rotate_left
  · rw [show Dt.right r n = false by rw [Bool.eq_false_iff]; intro h; rw [Dt.right_iff] at h; omega]
    have hd : decide (r ≤ 15) = false := decide_eq_false h1
    go_enter Try.func39, Try.ntmps39
    go_wp2
    go_ret
    exact ⟨rfl, below_new _ _⟩
  by_cases h2 : 1 ≤ n
  rotate_left
  · rw [show Dt.right r n = false by rw [Bool.eq_false_iff]; intro h; rw [Dt.right_iff] at h; omega]
    have hd : decide (1 ≤ n) = false := decide_eq_false h2
    go_enter Try.func39, Try.ntmps39
    go_wp2
    go_ret
    exact ⟨rfl, below_new _ _⟩
  by_cases h3 : n ≤ 1048576
  rotate_left
  · rw [show Dt.right r n = false by rw [Bool.eq_false_iff]; intro h; rw [Dt.right_iff] at h; omega]
    have hd : decide (n ≤ 1048576) = false := decide_eq_false h3
    go_enter Try.func39, Try.ntmps39
    go_wp2
    go_ret
    exact ⟨rfl, below_new _ _⟩
  rw [show Dt.right r n = true by rw [Dt.right_iff]; omega]
  go_enter Try.func39, Try.ntmps39
  go_wp2
  go_ret
  exact ⟨rfl, below_new _ _⟩

theorem ints_any (x y : Int) (w : World) : Calls Try.prog 80 #[.int .i64 x, .int .i64 y] w fun e w' => e = .returned (.int .i64 (Dt.compareInt x y)) ∧ w' = w := by
  rcases Dt.compareInt_cases x y with ⟨h, e⟩ | ⟨h, e⟩ | ⟨h, e⟩ <;> rw [e]
  · go_enter Try.func80, Try.ntmps80
    go_wp2
    go_ret
    exact ⟨rfl, rfl⟩
  · subst h
    go_enter Try.func80, Try.ntmps80
    go_wp2
    go_ret
    exact ⟨rfl, rfl⟩
  · have h' : ¬ x < y := by omega
    go_enter Try.func80, Try.ntmps80
    go_wp2
    go_ret
    exact ⟨rfl, rfl⟩

theorem refComp_any (r n r' n' : Int) (w : World) : Calls Try.prog 79 #[dotV r n, dotV r' n'] w fun e w' => e = .returned (.int .i64 (Dt.comp r n r' n')) ∧ Below w.heap.size w w' := by
  by_cases h : r = r'
  · subst h
    rw [show Dt.comp r n r n' = Dt.compareInt n n' by unfold Dt.comp Dt.two; rw [if_pos (Dt.compareInt_zero.2 rfl)]]
    go_enter Try.func79, Try.ntmps79
    go_wp2_with (go_at_call 80; refine (ints_any _ _ _).mono ?_; rintro e w1 ⟨rfl, rfl⟩)
    go_ret
    exact ⟨rfl, below_new2 _ _ _⟩
  · rw [show Dt.comp r n r' n' = Dt.compareInt r r' by unfold Dt.comp Dt.two; rw [if_neg (fun e => h (Dt.compareInt_zero.1 e))]]
    have hb : (r != r') = true := by simpa using h
    go_enter Try.func79, Try.ntmps79
    go_wp2_with (go_at_call 80; refine (ints_any _ _ _).mono ?_; rintro e w1 ⟨rfl, rfl⟩)
    go_ret
    exact ⟨rfl, below_new2 _ _ _⟩

end Go.Proofs.Ytbbehccagdibcaa.D
