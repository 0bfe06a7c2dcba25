/- The walk of the document's Short of an operation. -/
import Derived.Test.YtghkjbekjkejpaaOpSame
import Derived.Test.YtghkjbekjkejpaaChecks
namespace Go.Proofs.Ytghkjbekjkejpaa.O
open Go.RowKit

set_option maxRecDepth 20000 in
set_option maxHeartbeats 2000000 in
theorem refShort_any (k : Int) (pv : Value) (vk vn : Int) (vs : List UInt8) (n : Int) (sv : Value) (p : List (List UInt8)) (l : List U) (w : World)
    (hx : p.length ≤ 9223372036854775807) (hz : ∀ x ∈ p, x.length ≤ 9223372036854775807) (hp : U.strsAt w pv p) (hs : refsIn w sv l) :
    Calls Try.prog 24 #[opV k pv vk vn vs n sv] w fun e w' => e = .returned (.bool (Os.short ⟨k, p, vk, vn, vs, n, l⟩)) ∧ Below w.heap.size w w' := by
  obtain ⟨bo, cs, rfl, -, -, -⟩ := hs
  have B0 := below_new w (opO k pv vk vn vs n (.slice bo l.length cs))
  have O0 := OAt.new w k pv vk vn vs n (.slice bo l.length cs)
  have C30 := U.short_any pv p _ hx hz (U.strsAt_below hp B0 (Nat.le_refl _))
  clear hp hx hz
  show Calls Try.prog 24 #[opV k pv vk vn vs n (.slice bo l.length cs)] w fun e w' => e = .returned (.bool (Pt.short p && decide (vs.length ≤ 200) && decide (l.length ≤ 300))) ∧ Below w.heap.size w w'
  generalize l.length = m at *
  cases hq : Pt.short p with
  | false =>
    rw [hq] at C30
    simp only [Bool.false_and]
    clear hq
    go_enter Try.func24, Try.ntmps24
    go_wp2_with (go_at_call 49; refine C30.mono ?_; rintro e w1 ⟨rfl, hb1⟩)
    go_ret
    exact ⟨rfl, bchain B0 hb1⟩
  | true =>
    rw [hq] at C30
    simp only [Bool.true_and]
    clear hq
    by_cases h1 : vs.length ≤ 200
    · rw [decide_eq_true h1]
      simp only [Bool.true_and]
      have h1' : (vs.length : Int) ≤ 200 := by omega
      by_cases h2 : m ≤ 300
      · rw [decide_eq_true h2]
        have h2' : (m : Int) ≤ 300 := by omega
        go_enter Try.func24, Try.ntmps24
        go_wp2_with (go_at_call 49; refine C30.mono ?_; rintro e w1 ⟨rfl, hb1⟩; obtain ⟨c0, c1, c2, c3, c4, c5, c6⟩ := O0.on hb1)
        go_ret
        exact ⟨rfl, bchain B0 hb1⟩
      · rw [decide_eq_false h2]
        have h2' : ¬ (m : Int) ≤ 300 := by omega
        go_enter Try.func24, Try.ntmps24
        go_wp2_with (go_at_call 49; refine C30.mono ?_; rintro e w1 ⟨rfl, hb1⟩; obtain ⟨c0, c1, c2, c3, c4, c5, c6⟩ := O0.on hb1)
        go_ret
        exact ⟨ret_bool (decide_eq_false (by omega)), bchain B0 hb1⟩
    · rw [decide_eq_false h1]
      simp only [Bool.false_and]
      have h1' : ¬ (vs.length : Int) ≤ 200 := by omega
      go_enter Try.func24, Try.ntmps24
      go_wp2_with (go_at_call 49; refine C30.mono ?_; rintro e w1 ⟨rfl, hb1⟩; obtain ⟨c0, c1, c2, c3, c4, c5, c6⟩ := O0.on hb1)
      go_ret
      exact ⟨rfl, bchain B0 hb1⟩
end Go.Proofs.Ytghkjbekjkejpaa.O
