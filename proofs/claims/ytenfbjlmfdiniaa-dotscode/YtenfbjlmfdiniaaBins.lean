/- Operations on two numbers, each at values whose answer is known. -/
import Derived.Test.YtenfbjlmfdiniaaSteps
namespace Go.Proofs.Ytenfbjlmfdiniaa
open Go.RowKit

theorem add_i {x y z : Int} (h1 : -9223372036854775808 ≤ z) (h2 : z < 9223372036854775808) (e : x + y = z) (w : World) : (binOp .add 3 (.int .i64 x) (.int .i64 y)).run Try.prog w = .ok (.int .i64 z) w := by
  subst e
  have : IntKind.i64.wrap (x + y) = x + y := by simp [IntKind.wrap, IntKind.bits, IntKind.signed]; omega
  go_simp
  try exact this
theorem sub_i {x y z : Int} (h1 : -9223372036854775808 ≤ z) (h2 : z < 9223372036854775808) (e : x - y = z) (w : World) : (binOp .sub 3 (.int .i64 x) (.int .i64 y)).run Try.prog w = .ok (.int .i64 z) w := by
  subst e
  have : IntKind.i64.wrap (x - y) = x - y := by simp [IntKind.wrap, IntKind.bits, IntKind.signed]; omega
  go_simp
  try exact this
theorem gtr_i {x y : Int} (h : y < x) (w : World) : (binOp .gtr 3 (.int .i64 x) (.int .i64 y)).run Try.prog w = .ok (.bool true) w := by
  go_simp
theorem gtr_no {x y : Int} (h : ¬ y < x) (w : World) : (binOp .gtr 3 (.int .i64 x) (.int .i64 y)).run Try.prog w = .ok (.bool false) w := by
  have h' : x ≤ y := by omega
  go_simp
theorem geq_i {x y : Int} (h : y ≤ x) (w : World) : (binOp .geq 3 (.int .i64 x) (.int .i64 y)).run Try.prog w = .ok (.bool true) w := by
  go_simp
theorem geq_no {x y : Int} (h : ¬ y ≤ x) (w : World) : (binOp .geq 3 (.int .i64 x) (.int .i64 y)).run Try.prog w = .ok (.bool false) w := by
  have h' : x < y := by omega
  go_simp
theorem neqb_same (x : Bool) (w : World) : (binOp .neq 4 (.bool x) (.bool x)).run Try.prog w = .ok (.bool false) w := by go_simp
end Go.Proofs.Ytenfbjlmfdiniaa
