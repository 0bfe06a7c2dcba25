/- The walks of Right, both sides; the document's one and Good. -/
import Derived.Test.YtpheljlnlbiieaaMem
import Derived.BigQuiet
namespace Go.Proofs.Ytpheljlnlbiieaa
open Go.RowKit

theorem one_any (u : U) (w : World) : Calls Try.prog 39 #[uV u] w fun e w' => e = .returned (.bool (Ct.ok u)) ∧ Below w.heap.size w w' := by
  obtain ⟨⟨r, n⟩, m⟩ := u
  have HC : ∀ w, Calls Try.prog 27 #[dotV r n] w fun e w' => e = .returned (.bool (Dt.right r n)) ∧ Below w.heap.size w w' := refRight_any r n
  have he : Ct.ok ((r, n), m) = (Dt.right r n && decide (1 ≤ m) && decide (m ≤ 64)) := rfl
  rw [he]
  clear he
  cases hq : Dt.right r n with
  | false =>
    rw [hq] at HC
    go_enter Try.func39, Try.ntmps39
    go_wp2_with (go_at_call 27; refine (HC _).mono ?_; rintro e w1 ⟨rfl, hb1⟩)
    go_ret
    exact ⟨rfl, bchain (below_new _ _) hb1⟩
  | true =>
    rw [hq] at HC
    by_cases h1 : 1 ≤ m
    · rw [decide_eq_true h1]
      by_cases h2 : m ≤ 64
      · rw [decide_eq_true h2]
        go_enter Try.func39, Try.ntmps39
        go_wp2_with (go_at_call 27; refine (HC _).mono ?_; rintro e w1 ⟨rfl, hb1⟩; have k0 := keep_cell hb1 (a := ⟨w.heap.size, 2, none⟩) (v := .int .i64 m) (by simp))
        go_ret
        exact ⟨rfl, bchain (below_new _ _) hb1⟩
      · rw [decide_eq_false h2]
        have h3 : decide (m ≤ 64) = false := decide_eq_false h2
        go_enter Try.func39, Try.ntmps39
        go_wp2_with (go_at_call 27; refine (HC _).mono ?_; rintro e w1 ⟨rfl, hb1⟩; have k0 := keep_cell hb1 (a := ⟨w.heap.size, 2, none⟩) (v := .int .i64 m) (by simp))
        go_ret
        exact ⟨rfl, bchain (below_new _ _) hb1⟩
    · rw [decide_eq_false h1]
      have h3 : decide (1 ≤ m) = false := decide_eq_false h1
      go_enter Try.func39, Try.ntmps39
      go_wp2_with (go_at_call 27; refine (HC _).mono ?_; rintro e w1 ⟨rfl, hb1⟩; have k0 := keep_cell hb1 (a := ⟨w.heap.size, 2, none⟩) (v := .int .i64 m) (by simp))
      go_ret
      exact ⟨rfl, bchain (below_new _ _) hb1⟩
end Go.Proofs.Ytpheljlnlbiieaa
