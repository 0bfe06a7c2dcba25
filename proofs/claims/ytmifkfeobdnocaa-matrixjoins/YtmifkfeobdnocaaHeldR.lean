/- What stands through the walk of the statement MatrixRises. -/
import Derived.Test.YtmifkfeobdnocaaLStable
namespace Go.Proofs.Ytmifkfeobdnocaa
open Go.RowKit
set_option linter.unusedVariables false

theorem dots_new {w V : World} {n : Nat} (h : V.heap.size = n) (hB : Below w.heap.size w V) (r d : Int) : Dots w n r d (V.alloc (.cells #[.int .i64 r, .int .i64 d] 26)) := by
  subst h
  exact ⟨by simp, by simp, bchain hB (below_new _ _)⟩
theorem add_small {a b : Int} (h1 : -1000 ≤ a ∧ a ≤ 1000) (h2 : -1000 ≤ b ∧ b ≤ 1000) (w : World) : (binOp .add 3 (.int .i64 a) (.int .i64 b)).run Try.prog w = .ok (.int .i64 (a + b)) w := by
  have e : IntKind.i64.wrap (a + b) = a + b := wrap_i64 (by omega) (by omega)
  go_simp
/-- What stands through the walk: the matrix, the one that has learnt, the dot. -/
abbrev HeldR (w : World) (m M : List Int) (c : Nat) (r d : Int) (w' : World) : Prop := MatAt 27 w' (w.heap.size + 1 + 1 + 1) m ∧ MatAt 27 w' c M ∧ Dots w (w.heap.size + 1 + 1) r d w'
theorem HeldR.on {w W w1 : World} {m M : List Int} {c : Nat} {r d : Int} (h : HeldR w m M c r d W) (hb : Below W.heap.size W w1) : HeldR w m M c r d w1 := ⟨h.1.on hb, h.2.1.on hb, h.2.2.on hb⟩
theorem HeldR.drew {w W : World} {m M : List Int} {c : Nat} {r d : Int} (h : HeldR w m M c r d W) : HeldR w m M c r d W.drew := ⟨h.1.drew, h.2.1.drew, h.2.2.1, h.2.2.2.1, h.2.2.2.2.drew⟩

end Go.Proofs.Ytmifkfeobdnocaa
