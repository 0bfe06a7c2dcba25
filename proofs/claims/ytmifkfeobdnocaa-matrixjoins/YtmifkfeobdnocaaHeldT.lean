/- The walk of the statement MatrixTells. -/
import Derived.Test.YtmifkfeobdnocaaHeldR
namespace Go.Proofs.Ytmifkfeobdnocaa
open Go.RowKit
set_option linter.unusedVariables false

/-- What stands through the walk: the matrix, the vector, the dot, the matrix as the program's, the row. -/
abbrev HeldT (w : World) (m v l : List Int) (r d : Int) (w' : World) : Prop := MatAt 24 w' w.heap.size m ∧ VecAt w' (w.heap.size + 1) v ∧ MatAt 27 w' (w.heap.size + 1 + 1 + 1) m ∧ VecAt w' (w.heap.size + 1 + 1 + 1 + 1) l ∧ Dots w (w.heap.size + 1 + 1) r d w'
theorem HeldT.on {w W w1 : World} {m v l : List Int} {r d : Int} (h : HeldT w m v l r d W) (hb : Below W.heap.size W w1) : HeldT w m v l r d w1 := ⟨h.1.on hb, h.2.1.on hb, h.2.2.1.on hb, h.2.2.2.1.on hb, h.2.2.2.2.on hb⟩
theorem HeldT.drew {w W : World} {m v l : List Int} {r d : Int} (h : HeldT w m v l r d W) : HeldT w m v l r d W.drew := ⟨h.1.drew, h.2.1.drew, h.2.2.1.drew, h.2.2.2.1.drew, h.2.2.2.2.1, h.2.2.2.2.2.1, h.2.2.2.2.2.2.drew⟩
theorem HeldT.row {w W : World} {m v l : List Int} {r d : Int} (h : HeldT w m v l r d W) (x : List Int) : HeldT w m v x r d (W.setRow (w.heap.size + 1 + 1 + 1 + 1) (ints x).toArray) :=
  ⟨h.1.other_row (by omega) _, h.2.1.other_row (by omega) _, h.2.2.1.other_row (by omega) _, h.2.2.2.1.row x, dots_row h.2.2.2.2 (by omega) (by omega) _⟩
end Go.Proofs.Ytmifkfeobdnocaa
