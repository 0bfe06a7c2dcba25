/- The walk of the statement MatrixJoins. -/
import Derived.Test.YtmifkfeobdnocaaJoinsA
import Derived.Test.YtmifkfeobdnocaaJoinsB
import Derived.Test.YtmifkfeobdnocaaJoinsC
import Derived.Test.YtmifkfeobdnocaaJoinsD
import Derived.Test.YtmifkfeobdnocaaJoinsE
import Derived.Test.YtmifkfeobdnocaaJoinsF
import Derived.Test.YtmifkfeobdnocaaJoinsG
namespace Go.Proofs.Ytmifkfeobdnocaa
open Go.RowKit
theorem matrixJoins_walk (a b : List Int) (n i : Int) (ha : a.length = 256) (hb : b.length = 256) (w : World) : Calls Try.prog 6 #[vecV a, vecV b, .int .i64 n, .int .i64 i] w fun e w' => e = .returned (.bool true) ∧ Below w.heap.size w w' := by
  cases hR : Mx.rights a 16
  · exact joins_A a b n i ha hb hR w
  · by_cases h1 : n < 1
    · exact joins_B a b n i ha hb hR h1 w
    · by_cases h2 : 16 < n
      · exact joins_C a b n i ha hb hR (by omega) h2 w
      · by_cases h3 : i < 0
        · exact joins_D a b n i ha hb hR (by omega) (by omega) h3 w
        · by_cases h4 : n ≤ i
          · exact joins_E a b n i ha hb hR (by omega) (by omega) (by omega) h4 w
          · by_cases h5 : Mx.behind a n i = 0
            · obtain ⟨p, rfl⟩ : ∃ p : Nat, n = (p : Int) := ⟨n.toNat, by omega⟩
              obtain ⟨q, rfl⟩ : ∃ q : Nat, i = (q : Int) := ⟨i.toNat, by omega⟩
              exact joins_G a b p q ha hb hR p q rfl rfl (by omega) (by omega) (by omega) h5 w
            · exact joins_F a b n i ha hb hR (by omega) (by omega) (by omega) (by omega) h5 w
end Go.Proofs.Ytmifkfeobdnocaa
