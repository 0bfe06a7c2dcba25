/-
  No cell of these rows narrows 'for every input' (looked for: loops, veiled, ifaces, maps, wideKeys, modest, calm, conditions, laid).
  DERIVED. THE GIVEN ROWS OF THIS SEAT. 6 by the template 'for every input the law returns true; each argument reads behind the call as it read before'; 0 by the template 'total and deterministic' (their statements: YtenfbjlmfdiniaaTotals.lean).
  GIVEN WITH THE SEED: the statements are not yours to turn. If you find one false, say at which input.
  Laid BY PROGRAM, IN A SANDBOX (cutbox-rows.mjs): the forced cells as the released guide's own fill.sh prints them over the translation 37dc89c51a104d96… (all of the seat's roots in one cut). By AI agents, Wed Nov 11 2026. No macro, syntax, notation, axiom, sorry.
-/
import Derived.Test.YtenfbjlmfdiniaaChecked
import GoSem.Claim
import GoSem.ClaimJoined
import GoSem.ClaimMapViews
import Derived.JoinedTies
import Derived.KernelRfl
namespace Go.Proofs.Ytenfbjlmfdiniaa
/- THE CELL 'sum', in the pinned program and in every row, IS THE sha256 OF THE DUMP (.gsa) THAT YtenfbjlmfdiniaaProg.lean LOADS. Nothing in Lean hashes anything: it is a label: what it is worth is what the hold of that sum in a sandbox is worth. -/
noncomputable def Try.pinned : Pinned := { name := "ytenfbjlmfdiniaa", sum := "37dc89c51a104d9691763cd16c096b5a7eafc2e7a9128941e8d0775c5b8fda1c", checked := Try.checked }
namespace Rows
def none {H : Type} : Left H := { results := [], args := [] }

/-- 'palinodelaw06.DotsTell': WHATEVER THE INPUT: true; the input reads as it did. -/
def dotsTellSpec : ChangeSpec := { name := "dotsTell", fn := fun _ => fun
  | [d1, d2, d3] => { results := [.lit (.bool true)], args := [d1, d2, d3] }
  | _ => none }
def dotsTellRow : OpenClaim := { program := "ytenfbjlmfdiniaa", sum := "37dc89c51a104d9691763cd16c096b5a7eafc2e7a9128941e8d0775c5b8fda1c", func := "palinode/palinodelaw06.DotsTell", spec := "dotsTell", unfollowed := true, recurses := true, apart := false }
def DotsTellSaid : Prop := dotsTellRow.holds Try.pinned (OpenSpec.ofChange dotsTellSpec)

/-- ITS FALSE NEIGHBOUR: 'it returns false'. Refute it at one input. -/
def dotsTellWrong : ChangeSpec := { name := "dotsTell", fn := fun _ => fun
  | [d1, d2, d3] => { results := [.lit (.bool false)], args := [d1, d2, d3] }
  | _ => none }
def DotsTellWrongFalsely : Prop := dotsTellRow.holds Try.pinned (OpenSpec.ofChange dotsTellWrong)

/-- 'palinodelaw06.DotsJoin': WHATEVER THE INPUT: true; the input reads as it did. -/
def dotsJoinSpec : ChangeSpec := { name := "dotsJoin", fn := fun _ => fun
  | [d1, d2] => { results := [.lit (.bool true)], args := [d1, d2] }
  | _ => none }
def dotsJoinRow : OpenClaim := { program := "ytenfbjlmfdiniaa", sum := "37dc89c51a104d9691763cd16c096b5a7eafc2e7a9128941e8d0775c5b8fda1c", func := "palinode/palinodelaw06.DotsJoin", spec := "dotsJoin", unfollowed := true, recurses := true, apart := false }
def DotsJoinSaid : Prop := dotsJoinRow.holds Try.pinned (OpenSpec.ofChange dotsJoinSpec)

/-- ITS FALSE NEIGHBOUR: 'it returns false'. Refute it at one input. -/
def dotsJoinWrong : ChangeSpec := { name := "dotsJoin", fn := fun _ => fun
  | [d1, d2] => { results := [.lit (.bool false)], args := [d1, d2] }
  | _ => none }
def DotsJoinWrongFalsely : Prop := dotsJoinRow.holds Try.pinned (OpenSpec.ofChange dotsJoinWrong)

/-- 'palinodelaw06.DotsOrder': WHATEVER THE INPUT: true; the input reads as it did. -/
def dotsOrderSpec : ChangeSpec := { name := "dotsOrder", fn := fun _ => fun
  | [d1, d2] => { results := [.lit (.bool true)], args := [d1, d2] }
  | _ => none }
def dotsOrderRow : OpenClaim := { program := "ytenfbjlmfdiniaa", sum := "37dc89c51a104d9691763cd16c096b5a7eafc2e7a9128941e8d0775c5b8fda1c", func := "palinode/palinodelaw06.DotsOrder", spec := "dotsOrder", unfollowed := true, recurses := true, apart := false }
def DotsOrderSaid : Prop := dotsOrderRow.holds Try.pinned (OpenSpec.ofChange dotsOrderSpec)

/-- ITS FALSE NEIGHBOUR: 'it returns false'. Refute it at one input. -/
def dotsOrderWrong : ChangeSpec := { name := "dotsOrder", fn := fun _ => fun
  | [d1, d2] => { results := [.lit (.bool false)], args := [d1, d2] }
  | _ => none }
def DotsOrderWrongFalsely : Prop := dotsOrderRow.holds Try.pinned (OpenSpec.ofChange dotsOrderWrong)

/-- 'palinodelaw06.DotsLattice': WHATEVER THE INPUT: true; the input reads as it did. -/
def dotsLatticeSpec : ChangeSpec := { name := "dotsLattice", fn := fun _ => fun
  | [d1, d2, d3, d4] => { results := [.lit (.bool true)], args := [d1, d2, d3, d4] }
  | _ => none }
def dotsLatticeRow : OpenClaim := { program := "ytenfbjlmfdiniaa", sum := "37dc89c51a104d9691763cd16c096b5a7eafc2e7a9128941e8d0775c5b8fda1c", func := "palinode/palinodelaw06.DotsLattice", spec := "dotsLattice", unfollowed := true, recurses := true, apart := false }
def DotsLatticeSaid : Prop := dotsLatticeRow.holds Try.pinned (OpenSpec.ofChange dotsLatticeSpec)

/-- ITS FALSE NEIGHBOUR: 'it returns false'. Refute it at one input. -/
def dotsLatticeWrong : ChangeSpec := { name := "dotsLattice", fn := fun _ => fun
  | [d1, d2, d3, d4] => { results := [.lit (.bool false)], args := [d1, d2, d3, d4] }
  | _ => none }
def DotsLatticeWrongFalsely : Prop := dotsLatticeRow.holds Try.pinned (OpenSpec.ofChange dotsLatticeWrong)

/-- 'palinodelaw06.DotsCode': WHATEVER THE INPUT: true; the input reads as it did. -/
def dotsCodeSpec : ChangeSpec := { name := "dotsCode", fn := fun _ => fun
  | [d1, d2] => { results := [.lit (.bool true)], args := [d1, d2] }
  | _ => none }
def dotsCodeRow : OpenClaim := { program := "ytenfbjlmfdiniaa", sum := "37dc89c51a104d9691763cd16c096b5a7eafc2e7a9128941e8d0775c5b8fda1c", func := "palinode/palinodelaw06.DotsCode", spec := "dotsCode", inPlace := ["internal/abi.NoEscape"], unfollowed := true, recurses := true, apart := false }
def DotsCodeSaid : Prop := dotsCodeRow.holds Try.pinned (OpenSpec.ofChange dotsCodeSpec)

/-- ITS FALSE NEIGHBOUR: 'it returns false'. Refute it at one input. -/
def dotsCodeWrong : ChangeSpec := { name := "dotsCode", fn := fun _ => fun
  | [d1, d2] => { results := [.lit (.bool false)], args := [d1, d2] }
  | _ => none }
def DotsCodeWrongFalsely : Prop := dotsCodeRow.holds Try.pinned (OpenSpec.ofChange dotsCodeWrong)

/-- 'palinodelaw06.DotsRead': WHATEVER THE INPUT: true; the input reads as it did. -/
def dotsReadSpec : ChangeSpec := { name := "dotsRead", fn := fun _ => fun
  | [d1, d2] => { results := [.lit (.bool true)], args := [d1, d2] }
  | _ => none }
def dotsReadRow : OpenClaim := { program := "ytenfbjlmfdiniaa", sum := "37dc89c51a104d9691763cd16c096b5a7eafc2e7a9128941e8d0775c5b8fda1c", func := "palinode/palinodelaw06.DotsRead", spec := "dotsRead", unfollowed := true, recurses := true, apart := false }
def DotsReadSaid : Prop := dotsReadRow.holds Try.pinned (OpenSpec.ofChange dotsReadSpec)

/-- ITS FALSE NEIGHBOUR: 'it returns false'. Refute it at one input. -/
def dotsReadWrong : ChangeSpec := { name := "dotsRead", fn := fun _ => fun
  | [d1, d2] => { results := [.lit (.bool false)], args := [d1, d2] }
  | _ => none }
def DotsReadWrongFalsely : Prop := dotsReadRow.holds Try.pinned (OpenSpec.ofChange dotsReadWrong)

/- THE SECOND FORM. 'bulk': how many values and letters a reading holds, each counted each time it is reached (what is shared counts as often as it is met; a slice's spare places count too). A statement '..UptoSaid' is the law's where the arguments, and the package variables that the reading takes, are together of bulk at most 1048576: NARROWER than '..Said'. Prove '..Said' where nothing that the law and all that it calls make is longer than what came in: it says more and counts as full. Else prove '..UptoSaid'. A law counts once. -/
mutual
def uptoBulk {H : Type} : DataW H → Nat
  | .lit (.string bytes) => bytes.length + 1
  | .lit _ => 1
  | .nil => 1
  | .ptr d => uptoBulk d + 1
  | .slice elems spare => uptoBulkAll elems + uptoBulkAll spare + 1
  | .agg parts => uptoBulkAll parts + 1
  | .iface _ d => uptoBulk d + 1
  | .map entries => uptoBulkEntries entries + 1
  | .held _ => 1
def uptoBulkAll {H : Type} : List (DataW H) → Nat
  | [] => 0
  | d :: r => uptoBulk d + uptoBulkAll r
def uptoBulkEntries {H : Type} : List (Lit × DataW H) → Nat
  | [] => 0
  | x :: r => uptoBulkEntry x + uptoBulkEntries r
def uptoBulkEntry {H : Type} : Lit × DataW H → Nat
  | (.string bytes, d) => bytes.length + uptoBulk d + 1
  | (_, d) => uptoBulk d + 1
 end
def uptoSmall : (H : Type) → List (DataW H) → Bool := fun _ ds => decide (uptoBulkAll ds ≤ 1048576)
def OpenSpec.upto (s : _root_.Go.ChangeSpec) : _root_.Go.OpenSpec := { _root_.Go.OpenSpec.ofChange s with cond := some uptoSmall }

/-- 'palinodelaw06.DotsTell', WHERE WHAT IT READS IS OF BULK AT MOST 1048576: true; the input reads as it did. -/
def dotsTellUptoRow : OpenClaim := { program := "ytenfbjlmfdiniaa", sum := "37dc89c51a104d9691763cd16c096b5a7eafc2e7a9128941e8d0775c5b8fda1c", func := "palinode/palinodelaw06.DotsTell", spec := "dotsTell", unfollowed := true, recurses := true, apart := false, narrowed := true }
def DotsTellUptoSaid : Prop := dotsTellUptoRow.holds Try.pinned (OpenSpec.upto dotsTellSpec)

/-- 'palinodelaw06.DotsJoin', WHERE WHAT IT READS IS OF BULK AT MOST 1048576: true; the input reads as it did. -/
def dotsJoinUptoRow : OpenClaim := { program := "ytenfbjlmfdiniaa", sum := "37dc89c51a104d9691763cd16c096b5a7eafc2e7a9128941e8d0775c5b8fda1c", func := "palinode/palinodelaw06.DotsJoin", spec := "dotsJoin", unfollowed := true, recurses := true, apart := false, narrowed := true }
def DotsJoinUptoSaid : Prop := dotsJoinUptoRow.holds Try.pinned (OpenSpec.upto dotsJoinSpec)

/-- 'palinodelaw06.DotsOrder', WHERE WHAT IT READS IS OF BULK AT MOST 1048576: true; the input reads as it did. -/
def dotsOrderUptoRow : OpenClaim := { program := "ytenfbjlmfdiniaa", sum := "37dc89c51a104d9691763cd16c096b5a7eafc2e7a9128941e8d0775c5b8fda1c", func := "palinode/palinodelaw06.DotsOrder", spec := "dotsOrder", unfollowed := true, recurses := true, apart := false, narrowed := true }
def DotsOrderUptoSaid : Prop := dotsOrderUptoRow.holds Try.pinned (OpenSpec.upto dotsOrderSpec)

/-- 'palinodelaw06.DotsLattice', WHERE WHAT IT READS IS OF BULK AT MOST 1048576: true; the input reads as it did. -/
def dotsLatticeUptoRow : OpenClaim := { program := "ytenfbjlmfdiniaa", sum := "37dc89c51a104d9691763cd16c096b5a7eafc2e7a9128941e8d0775c5b8fda1c", func := "palinode/palinodelaw06.DotsLattice", spec := "dotsLattice", unfollowed := true, recurses := true, apart := false, narrowed := true }
def DotsLatticeUptoSaid : Prop := dotsLatticeUptoRow.holds Try.pinned (OpenSpec.upto dotsLatticeSpec)

/-- 'palinodelaw06.DotsCode', WHERE WHAT IT READS IS OF BULK AT MOST 1048576: true; the input reads as it did. -/
def dotsCodeUptoRow : OpenClaim := { program := "ytenfbjlmfdiniaa", sum := "37dc89c51a104d9691763cd16c096b5a7eafc2e7a9128941e8d0775c5b8fda1c", func := "palinode/palinodelaw06.DotsCode", spec := "dotsCode", inPlace := ["internal/abi.NoEscape"], unfollowed := true, recurses := true, apart := false, narrowed := true }
def DotsCodeUptoSaid : Prop := dotsCodeUptoRow.holds Try.pinned (OpenSpec.upto dotsCodeSpec)

/-- 'palinodelaw06.DotsRead', WHERE WHAT IT READS IS OF BULK AT MOST 1048576: true; the input reads as it did. -/
def dotsReadUptoRow : OpenClaim := { program := "ytenfbjlmfdiniaa", sum := "37dc89c51a104d9691763cd16c096b5a7eafc2e7a9128941e8d0775c5b8fda1c", func := "palinode/palinodelaw06.DotsRead", spec := "dotsRead", unfollowed := true, recurses := true, apart := false, narrowed := true }
def DotsReadUptoSaid : Prop := dotsReadUptoRow.holds Try.pinned (OpenSpec.upto dotsReadSpec)

end Rows
end Go.Proofs.Ytenfbjlmfdiniaa
