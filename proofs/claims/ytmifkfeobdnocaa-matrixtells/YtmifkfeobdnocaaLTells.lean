/- The walk of the statement MatrixTells. -/
import Derived.Test.YtmifkfeobdnocaaTellsIn
import Derived.Test.YtmifkfeobdnocaaTellsLo
import Derived.Test.YtmifkfeobdnocaaTellsHi
namespace Go.Proofs.Ytmifkfeobdnocaa
open Go.RowKit
theorem matrixTells_walk (m : List Int) (i : Int) (v : List Int) (n r d : Int) (hm : m.length = 256) (hv : v.length = 16) (w : World) : Calls Try.prog 3 #[vecV m, .int .i64 i, vecV v, .int .i64 n, dotV r d] w fun e w' => e = .returned (.bool true) ∧ Below w.heap.size w w' := by
  by_cases h0 : i < 0
  · exact tells_out_lo m i (by omega) v n r d hm hv h0 w
  · by_cases h1 : 16 ≤ i
    · exact tells_out_hi m i (by omega) v n r d hm hv h1 w
    · obtain ⟨k, rfl⟩ : ∃ k : Nat, i = (k : Int) := ⟨i.toNat, by omega⟩
      exact tells_in m k (by omega) v n r d hm hv w
end Go.Proofs.Ytmifkfeobdnocaa
