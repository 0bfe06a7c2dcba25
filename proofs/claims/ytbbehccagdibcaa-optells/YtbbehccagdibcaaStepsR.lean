/- Loads of references, operation by operation. -/
import Derived.Test.YtbbehccagdibcaaMem
namespace Go.Proofs.Ytbbehccagdibcaa.O
open Go.RowKit
section
variable {o : Oper} {a : Act} {w : World}
theorem exec_idx {x y : Operand} {ad : Addr} {n c k : Nat} (ho : o.op = .indexAddr 25 x y) (hx : a.eval x = .slice (some ad) n c) (hy : a.eval y = .int .i64 (k : Int)) (hk : k < n) (w : World) :
    (execOp a.eval o).run Try.prog w = .ok (.value (.pointer (some (ad.add (k * 3))))) w := by
  have h0 : (0 : Int) ≤ (k : Int) := by omega
  have h1 : (k : Int) < (n : Int) := by omega
  unfold execOp
  simp only [ho, hx, hy, Sem.run_bind]
  go_simp
theorem exec_fld0 {x : Operand} {p : Addr} (ho : o.op = .fieldAddr 31 x 0) (hx : a.eval x = .pointer (some p)) (w : World) :
    (execOp a.eval o).run Try.prog w = .ok (.value (.pointer (some p))) w := by
  unfold execOp
  simp only [ho, hx, Sem.run_bind]
  go_simp
theorem exec_fld1 {x : Operand} {p : Addr} (ho : o.op = .fieldAddr 31 x 1) (hx : a.eval x = .pointer (some p)) (w : World) :
    (execOp a.eval o).run Try.prog w = .ok (.value (.pointer (some ⟨p.block, p.off + 2, none⟩))) w := by
  unfold execOp
  simp only [ho, hx, Sem.run_bind]
  go_simp
theorem exec_ldU {x : Operand} {p : Addr} {u : U} (ho : o.op = .load 31 x) (hx : a.eval x = .pointer (some p)) (h : CAt w p u) :
    (execOp a.eval o).run Try.prog w = .ok (.value (uV u)) w := by
  obtain ⟨h0, h1, h2⟩ := h
  unfold execOp
  simp only [ho, hx, Sem.run_bind]
  go_simp
theorem exec_ldD {x : Operand} {p : Addr} {u : U} (ho : o.op = .load 29 x) (hx : a.eval x = .pointer (some p)) (h : CAt w p u) :
    (execOp a.eval o).run Try.prog w = .ok (.value (dV u.1)) w := by
  obtain ⟨h0, h1, h2⟩ := h
  unfold execOp
  simp only [ho, hx, Sem.run_bind]
  go_simp
theorem exec_ldN {x : Operand} {p : Addr} {u : U} (ho : o.op = .load 3 x) (hx : a.eval x = .pointer (some ⟨p.block, p.off + 2, none⟩)) (h : CAt w p u) :
    (execOp a.eval o).run Try.prog w = .ok (.value (.int .i64 u.2)) w := by
  obtain ⟨h0, h1, h2⟩ := h
  unfold execOp
  simp only [ho, hx, Sem.run_bind]
  go_simp
theorem exec_ldd {x : Operand} {b : Nat} {d : D} (ho : o.op = .load 29 x) (hx : a.eval x = .pointer (some ⟨b, 0, none⟩)) (h : DAt w b d) :
    (execOp a.eval o).run Try.prog w = .ok (.value (dV d)) w := by
  obtain ⟨h0, h1⟩ := h
  unfold execOp
  simp only [ho, hx, Sem.run_bind]
  go_simp
end
end Go.Proofs.Ytbbehccagdibcaa.O
