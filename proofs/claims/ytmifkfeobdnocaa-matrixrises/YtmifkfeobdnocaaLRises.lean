/- The walk of the statement MatrixRises. -/
import Derived.Test.YtmifkfeobdnocaaRisesF
import Derived.Test.YtmifkfeobdnocaaRisesT
namespace Go.Proofs.Ytmifkfeobdnocaa
open Go.RowKit
theorem matrixRises_walk (m : List Int) (i : Int) (v : List Int) (n r d : Int) (hm : m.length = 256) (hv : v.length = 16) (w : World) : Calls Try.prog 4 #[vecV m, .int .i64 i, vecV v, .int .i64 n, dotV r d] w fun e w' => e = .returned (.bool true) ∧ Below w.heap.size w w' := by
  cases hX : Vc.has (Mx.frontier m n) r d
  · exact rises_false m i v n r d hm hv hX w
  · exact rises_true m i v n r d hm hv hX w
end Go.Proofs.Ytmifkfeobdnocaa
