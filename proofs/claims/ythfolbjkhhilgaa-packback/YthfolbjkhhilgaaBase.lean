/- What the proofs of this seat share. -/
import Derived.Test.YthfolbjkhhilgaaRows
import Derived.ProofKit
namespace Go.Proofs.Ythfolbjkhhilgaa
theorem own : ownKnob Try.prog.godebug = none := by kernel_rfl
end Go.Proofs.Ythfolbjkhhilgaa
