/- The walks of cmp.Compare of texts, of slices.Compare, Compare and the document's Compare. -/
import Derived.Test.YtmnehekcealjhaaSameRAll
import Derived.Test.YtmnehekcealjhaaCompP
import Derived.WalkLawsBesides
namespace Go.Proofs.Ytmnehekcealjhaa.U
open Go.RowKit

/-- How far two paths are alike. -/
def stand (xs ys : List (List UInt8)) (k : Nat) : Prop := k ≤ xs.length ∧ k ≤ ys.length ∧ Pt.comp xs ys = Pt.comp (xs.drop k) (ys.drop k)
theorem stand_zero (xs ys : List (List UInt8)) : stand xs ys 0 := ⟨by omega, by omega, by simp⟩
theorem stand_succ {xs ys : List (List UInt8)} {k : Nat} (h : stand xs ys k) (h1 : k < xs.length) (h2 : k < ys.length) (e : Lib.compareBytes xs[k] ys[k] = 0) : stand xs ys (k + 1) := by
  refine ⟨by omega, by omega, ?_⟩
  rw [h.2.2, List.drop_eq_getElem_cons h1, List.drop_eq_getElem_cons h2]
  simp only [Pt.comp]
  rw [if_pos e]
theorem stand_diff {xs ys : List (List UInt8)} {k : Nat} (h : stand xs ys k) (h1 : k < xs.length) (h2 : k < ys.length) (e : Lib.compareBytes xs[k] ys[k] ≠ 0) : Pt.comp xs ys = Lib.compareBytes xs[k] ys[k] := by
  rw [h.2.2, List.drop_eq_getElem_cons h1, List.drop_eq_getElem_cons h2]
  simp only [Pt.comp]
  rw [if_neg e]
theorem drop_all {xs : List (List UInt8)} {k : Nat} (h : ¬ k < xs.length) : xs.drop k = [] := List.drop_eq_nil_of_le (by omega)
theorem stand_more {xs ys : List (List UInt8)} {k : Nat} (h : stand xs ys k) (h1 : k < xs.length) (h2 : ¬ k < ys.length) : Pt.comp xs ys = 1 := by
  rw [h.2.2, List.drop_eq_getElem_cons h1, drop_all h2]; rfl
theorem stand_less {xs ys : List (List UInt8)} {k : Nat} (h : stand xs ys k) (h1 : ¬ k < xs.length) (h2 : k < ys.length) : Pt.comp xs ys = -1 := by
  rw [h.2.2, List.drop_eq_getElem_cons h2, drop_all h1]; rfl
theorem stand_same {xs ys : List (List UInt8)} {k : Nat} (h : stand xs ys k) (h1 : ¬ k < xs.length) (h2 : ¬ k < ys.length) : Pt.comp xs ys = 0 := by
  rw [h.2.2, drop_all h1, drop_all h2]; rfl

theorem ret_int {a b : Int} (h : a = b) : Ending.returned (.int .i64 a) = .returned (.int .i64 b) := by rw [h]

/-- Two texts lie in memory. -/
structure Two (w : World) (p q : Addr) (x y : List UInt8) (W : World) : Prop where
  a : W.cell? p = some (.string ⟨x.toArray⟩)
  b : W.cell? q = some (.string ⟨y.toArray⟩)
  below : Below w.heap.size w W
theorem Two.on {w W W' : World} {p q : Addr} {x y : List UInt8} (h : Two w p q x y W) (hb : Below W.heap.size W W') : Two w p q x y W' :=
  ⟨(hb.cell (World.block_lt_of_cell? _ _ h.a)).trans h.a, (hb.cell (World.block_lt_of_cell? _ _ h.b)).trans h.b, h.below.trans (hb.mono h.below.size)⟩
theorem Two.drew {w W : World} {p q : Addr} {x y : List UInt8} (h : Two w p q x y W) : Two w p q x y W.drew := ⟨h.a, h.b, h.below.drew⟩
theorem Two.parts {w W : World} {p q : Addr} {x y : List UInt8} (h : Two w p q x y W) : W.cell? p = some (.string ⟨x.toArray⟩) ∧ W.cell? q = some (.string ⟨y.toArray⟩) ∧ Below w.heap.size w W := ⟨h.a, h.b, h.below⟩

end Go.Proofs.Ytmnehekcealjhaa.U
