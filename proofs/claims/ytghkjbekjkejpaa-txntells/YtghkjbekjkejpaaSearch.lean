/- How two references stand, both sides. -/
import Derived.Test.YtghkjbekjkejpaaMemAll
namespace Go.Proofs.Ytghkjbekjkejpaa.O
open Go.RowKit

theorem cmpR_any (x y : U) (w : World) : Calls Try.prog 95 #[uV x, uV y] w fun e w' => e = .returned (.int .i64 (Os.comp x y)) ∧ Below w.heap.size w w' := D.refs_any x.1.1 x.1.2 x.2 y.1.1 y.1.2 y.2 w
theorem refCmpR_any (x y : U) (w : World) : Calls Try.prog 76 #[uV x, uV y] w fun e w' => e = .returned (.int .i64 (Os.comp x y)) ∧ Below w.heap.size w w' := D.refRefs_any x.1.1 x.1.2 x.2 y.1.1 y.1.2 y.2 w

end Go.Proofs.Ytghkjbekjkejpaa.O
