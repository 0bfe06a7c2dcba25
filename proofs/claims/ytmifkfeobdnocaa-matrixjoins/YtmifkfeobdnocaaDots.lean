/- Dots and vectors as plain mathematics: which are right, which are whose, the join and the meet, how many, and their bytes. -/
import Derived.Test.YtmifkfeobdnocaaChecked
namespace Go.Proofs.Ytmifkfeobdnocaa
namespace Dt
/-- May a dot be? -/
def right (r n : Int) : Bool := decide (0 ≤ r) && decide (r < 16) && decide (1 ≤ n) && decide (n ≤ 1048576)
theorem right_iff {r n : Int} : right r n = true ↔ 0 ≤ r ∧ r < 16 ∧ 1 ≤ n ∧ n ≤ 1048576 := by simp [right, and_assoc]
end Dt
end Go.Proofs.Ytmifkfeobdnocaa
