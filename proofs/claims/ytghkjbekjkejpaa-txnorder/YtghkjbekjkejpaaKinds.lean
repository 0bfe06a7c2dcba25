/- The walks of both Leafs, and of what the program asks of a kind. -/
import Derived.Test.YtghkjbekjkejpaaMemAll
namespace Go.Proofs.Ytghkjbekjkejpaa.O
open Go.RowKit

/-- The kinds, one by one. -/
theorem kinds (k : Int) : k = 1 ∨ k = 2 ∨ k = 3 ∨ k = 4 ∨ k = 5 ∨ ((k == 1) = false ∧ (k == 2) = false ∧ (k == 3) = false ∧ (k == 4) = false ∧ (k == 5) = false ∧ k ≠ 1 ∧ k ≠ 2 ∧ k ≠ 3 ∧ k ≠ 4 ∧ k ≠ 5) := by
  by_cases h1 : k = 1
  · exact .inl h1
  by_cases h2 : k = 2
  · exact .inr (.inl h2)
  by_cases h3 : k = 3
  · exact .inr (.inr (.inl h3))
  by_cases h4 : k = 4
  · exact .inr (.inr (.inr (.inl h4)))
  by_cases h5 : k = 5
  · exact .inr (.inr (.inr (.inr (.inl h5))))
  exact .inr (.inr (.inr (.inr (.inr ⟨beq_eq_false_iff_ne.2 h1, beq_eq_false_iff_ne.2 h2, beq_eq_false_iff_ne.2 h3, beq_eq_false_iff_ne.2 h4, beq_eq_false_iff_ne.2 h5, h1, h2, h3, h4, h5⟩))))
theorem leaf_else {k : Int} (h1 : k ≠ 1) (h2 : k ≠ 2) (h3 : k ≠ 3) (h4 : k ≠ 4) : Os.leaf k = 0 := by
  unfold Os.leaf
  rw [if_neg h1, if_neg (by omega), if_neg h3]
theorem kinds_else {k : Int} (h1 : k ≠ 1) (h2 : k ≠ 2) (h3 : k ≠ 3) (h4 : k ≠ 4) (h5 : k ≠ 5) : Os.hv k = false ∧ Os.ha k = false ∧ Os.hs k = false := by
  unfold Os.hv Os.ha Os.hs
  refine ⟨decide_eq_false (by omega), decide_eq_false (by omega), decide_eq_false (by omega)⟩

set_option maxRecDepth 20000 in
theorem leaf_any (k : Int) (w : World) : Calls Try.prog 86 #[.int .i64 k] w fun e w' => e = .returned (.int .i64 (Os.leaf k)) ∧ w' = w := by
  rcases kinds k with rfl | rfl | rfl | rfl | rfl | ⟨e1, e2, e3, e4, e5, h1, h2, h3, h4, h5⟩
  rotate_right
  · rw [leaf_else h1 h2 h3 h4]
    clear h1 h2 h3 h4 h5
    go_enter Try.func86, Try.ntmps86
    go_wp2
    go_ret
    exact ⟨rfl, rfl⟩
  all_goals
    go_enter Try.func86, Try.ntmps86
    go_wp2
    go_ret
    exact ⟨rfl, rfl⟩
set_option maxRecDepth 20000 in
theorem hs_any (k : Int) (w : World) : Calls Try.prog 66 #[.int .i64 k] w fun e w' => e = .returned (.bool (Os.hs k)) ∧ w' = w := by
  rcases kinds k with rfl | rfl | rfl | rfl | rfl | ⟨e1, e2, e3, e4, e5, h1, h2, h3, h4, h5⟩
  rotate_right
  · rw [(kinds_else h1 h2 h3 h4 h5).2.2]
    clear h1 h2 h3 h4 h5
    go_enter Try.func66, Try.ntmps66
    go_wp2
    go_ret
    exact ⟨rfl, rfl⟩
  all_goals
    go_enter Try.func66, Try.ntmps66
    go_wp2
    go_ret
    exact ⟨rfl, rfl⟩
set_option maxRecDepth 20000 in
theorem hv_any (k : Int) (w : World) : Calls Try.prog 62 #[.int .i64 k] w fun e w' => e = .returned (.bool (Os.hv k)) ∧ w' = w := by
  have C := fun w => leaf_any k w
  rcases kinds k with rfl | rfl | rfl | rfl | rfl | ⟨e1, e2, e3, e4, e5, h1, h2, h3, h4, h5⟩
  rotate_right
  · rw [(kinds_else h1 h2 h3 h4 h5).1]
    rw [leaf_else h1 h2 h3 h4] at C
    clear h1 h2 h3 h4 h5
    go_enter Try.func62, Try.ntmps62
    go_wp2_with (go_at_call 86; refine (C _).mono ?_; rintro e w1 ⟨rfl, rfl⟩)
    go_ret
    exact ⟨rfl, rfl⟩
  all_goals
    simp only [Os.leaf] at C
    simp at C
    go_enter Try.func62, Try.ntmps62
    go_wp2_with (go_at_call 86; refine (C _).mono ?_; rintro e w1 ⟨rfl, rfl⟩)
    go_ret
    exact ⟨rfl, rfl⟩
set_option maxRecDepth 20000 in
theorem ha_any (k : Int) (w : World) : Calls Try.prog 64 #[.int .i64 k] w fun e w' => e = .returned (.bool (Os.ha k)) ∧ w' = w := by
  have C := fun w => leaf_any k w
  rcases kinds k with rfl | rfl | rfl | rfl | rfl | ⟨e1, e2, e3, e4, e5, h1, h2, h3, h4, h5⟩
  rotate_right
  · rw [(kinds_else h1 h2 h3 h4 h5).2.1]
    rw [leaf_else h1 h2 h3 h4] at C
    clear h1 h2 h3 h4 h5
    go_enter Try.func64, Try.ntmps64
    go_wp2_with (go_at_call 86; refine (C _).mono ?_; rintro e w1 ⟨rfl, rfl⟩)
    go_ret
    exact ⟨rfl, rfl⟩
  all_goals
    simp only [Os.leaf] at C
    simp at C
    go_enter Try.func64, Try.ntmps64
    go_wp2_with (go_at_call 86; refine (C _).mono ?_; rintro e w1 ⟨rfl, rfl⟩)
    go_ret
    exact ⟨rfl, rfl⟩
end Go.Proofs.Ytghkjbekjkejpaa.O
