/- Operations that make memory, taken one by one: boxes, and variables new in memory. -/
import Derived.Test.YtmifkfeobdnocaaHeldT
namespace Go.Proofs.Ytmifkfeobdnocaa
open Go.RowKit

section
variable {ops : Array Oper} {rest : List Oper} {o : Oper} {a : Act} {w : World} {Q : Exit → Act → World → Prop}
theorem take_made {v : Value} {w' : World} (hgd : o.guard = none) (he : (execOp a.eval o).run Try.prog w = .ok (.value v) w') (hk : wpList Try.prog ops Q rest (a.put o.dst v) w') : wpList Try.prog ops Q (o :: rest) a w :=
  wpList_plain hgd fun _ hK => by
    unfold Oper.wp
    rw [he]
    exact hK _ _ hk
theorem take_box (T : TypeId) (l : List Int) (N : Nat) (hN : w.heap.size = N) (hgd : o.guard = none) (x : Operand) (ho : o.op = .box T x) (hx : a.eval x = vecV l)
    (hk : wpList Try.prog ops Q rest (a.put o.dst (.pointer (some ⟨N, 0, none⟩))) (w.alloc (.cells (ints l).toArray T))) : wpList Try.prog ops Q (o :: rest) a w :=
  take_made (v := .pointer (some ⟨N, 0, none⟩)) (w' := w.alloc (.cells (ints l).toArray T)) hgd (by
    subst hN
    unfold execOp
    simp only [ho, hx]
    go_simp) hk
theorem take_boxD (r d : Int) (N : Nat) (hN : w.heap.size = N) (hgd : o.guard = none) (x : Operand) (ho : o.op = .box 26 x) (hx : a.eval x = dotV r d)
    (hk : wpList Try.prog ops Q rest (a.put o.dst (.pointer (some ⟨N, 0, none⟩))) (w.alloc (.cells #[.int .i64 r, .int .i64 d] 26))) : wpList Try.prog ops Q (o :: rest) a w :=
  take_made (v := .pointer (some ⟨N, 0, none⟩)) (w' := w.alloc (.cells #[.int .i64 r, .int .i64 d] 26)) hgd (by
    subst hN
    unfold execOp
    simp only [ho, hx]
    go_simp) hk
theorem take_new27 (N : Nat) (hN : w.heap.size = N) (hgd : o.guard = none) (ho : o.op = .alloc 27) (hk : wpList Try.prog ops Q rest (a.put o.dst (.pointer (some ⟨N, 0, none⟩))) (w.alloc (.cells (ints zeros).toArray 27))) : wpList Try.prog ops Q (o :: rest) a w := by
  subst hN
  exact take_alloc27 hgd ho hk
theorem take_new23 (N : Nat) (hN : w.heap.size = N) (hgd : o.guard = none) (ho : o.op = .alloc 23) (hk : wpList Try.prog ops Q rest (a.put o.dst (.pointer (some ⟨N, 0, none⟩))) (w.alloc (.cells (ints noughts).toArray 23))) : wpList Try.prog ops Q (o :: rest) a w :=
  take_made (v := .pointer (some ⟨N, 0, none⟩)) (w' := w.alloc (.cells (ints noughts).toArray 23)) hgd (by
    subst hN
    unfold execOp
    simp only [ho]
    go_simp
    rfl) hk
end
theorem geq_yes {a b : Int} (h : b ≤ a) (w : World) : (binOp .geq 3 (.int .i64 a) (.int .i64 b)).run Try.prog w = .ok (.bool true) w := by go_simp
theorem geq_no {a b : Int} (h : a < b) (w : World) : (binOp .geq 3 (.int .i64 a) (.int .i64 b)).run Try.prog w = .ok (.bool false) w := by go_simp
end Go.Proofs.Ytmifkfeobdnocaa
