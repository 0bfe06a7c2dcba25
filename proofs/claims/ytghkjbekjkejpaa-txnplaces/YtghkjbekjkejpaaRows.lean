/-
  No cell of these rows narrows 'for every input' (looked for: loops, veiled, ifaces, maps, wideKeys, modest, calm, conditions, laid).
  DERIVED. THE GIVEN ROWS OF THIS SEAT. 3 by the template 'for every input the law returns true; each argument reads behind the call as it read before'; 0 by the template 'total and deterministic' (their statements: YtghkjbekjkejpaaTotals.lean).
  GIVEN WITH THE SEED: the statements are not yours to turn. If you find one false, say at which input.
  Laid BY PROGRAM, IN A SANDBOX (cutbox-rows.mjs): the forced cells as the released guide's own fill.sh prints them over the translation e3f7258a403632cb… (all of the seat's roots in one cut). By AI agents, Wed Nov 11 2026. No macro, syntax, notation, axiom, sorry.
-/
import Derived.Test.YtghkjbekjkejpaaChecked
import GoSem.Claim
import GoSem.ClaimJoined
import GoSem.ClaimMapViews
import Derived.JoinedTies
import Derived.KernelRfl
namespace Go.Proofs.Ytghkjbekjkejpaa
/- THE CELL 'sum', in the pinned program and in every row, IS THE sha256 OF THE DUMP (.gsa) THAT YtghkjbekjkejpaaProg.lean LOADS. Nothing in Lean hashes anything: it is a label: what it is worth is what the hold of that sum in a sandbox is worth. -/
noncomputable def Try.pinned : Pinned := { name := "ytghkjbekjkejpaa", sum := "e3f7258a403632cbfa83024864b7ce8eda6647eb69b068c9ca9aca25141fd812", checked := Try.checked }
namespace Rows
def none {H : Type} : Left H := { results := [], args := [] }

/-- 'palinodelaw12.TxnTells': WHATEVER THE INPUT: true; the input reads as it did. -/
def txnTellsSpec : ChangeSpec := { name := "txnTells", fn := fun _ => fun
  | [d1, d2] => { results := [.lit (.bool true)], args := [d1, d2] }
  | _ => none }
def txnTellsRow : OpenClaim := { program := "ytghkjbekjkejpaa", sum := "e3f7258a403632cbfa83024864b7ce8eda6647eb69b068c9ca9aca25141fd812", func := "palinode/palinodelaw12.TxnTells", spec := "txnTells", inPlace := ["internal/abi.NoEscape", "internal/bytealg.MakeNoZero"], unfollowed := true, recurses := true, apart := false }
def TxnTellsSaid : Prop := txnTellsRow.holds Try.pinned (OpenSpec.ofChange txnTellsSpec)

/-- ITS FALSE NEIGHBOUR: 'it returns false'. Refute it at one input. -/
def txnTellsWrong : ChangeSpec := { name := "txnTells", fn := fun _ => fun
  | [d1, d2] => { results := [.lit (.bool false)], args := [d1, d2] }
  | _ => none }
def TxnTellsWrongFalsely : Prop := txnTellsRow.holds Try.pinned (OpenSpec.ofChange txnTellsWrong)

/-- 'palinodelaw12.TxnPlaces': WHATEVER THE INPUT: true; the input reads as it did. -/
def txnPlacesSpec : ChangeSpec := { name := "txnPlaces", fn := fun _ => fun
  | [d1, d2] => { results := [.lit (.bool true)], args := [d1, d2] }
  | _ => none }
def txnPlacesRow : OpenClaim := { program := "ytghkjbekjkejpaa", sum := "e3f7258a403632cbfa83024864b7ce8eda6647eb69b068c9ca9aca25141fd812", func := "palinode/palinodelaw12.TxnPlaces", spec := "txnPlaces", unfollowed := true, recurses := true, apart := false }
def TxnPlacesSaid : Prop := txnPlacesRow.holds Try.pinned (OpenSpec.ofChange txnPlacesSpec)

/-- ITS FALSE NEIGHBOUR: 'it returns false'. Refute it at one input. -/
def txnPlacesWrong : ChangeSpec := { name := "txnPlaces", fn := fun _ => fun
  | [d1, d2] => { results := [.lit (.bool false)], args := [d1, d2] }
  | _ => none }
def TxnPlacesWrongFalsely : Prop := txnPlacesRow.holds Try.pinned (OpenSpec.ofChange txnPlacesWrong)

/-- 'palinodelaw12.TxnOrder': WHATEVER THE INPUT: true; the input reads as it did. -/
def txnOrderSpec : ChangeSpec := { name := "txnOrder", fn := fun _ => fun
  | [d] => { results := [.lit (.bool true)], args := [d] }
  | _ => none }
def txnOrderRow : OpenClaim := { program := "ytghkjbekjkejpaa", sum := "e3f7258a403632cbfa83024864b7ce8eda6647eb69b068c9ca9aca25141fd812", func := "palinode/palinodelaw12.TxnOrder", spec := "txnOrder", unfollowed := true, recurses := true, apart := false }
def TxnOrderSaid : Prop := txnOrderRow.holds Try.pinned (OpenSpec.ofChange txnOrderSpec)

/-- ITS FALSE NEIGHBOUR: 'it returns false'. Refute it at one input. -/
def txnOrderWrong : ChangeSpec := { name := "txnOrder", fn := fun _ => fun
  | [d] => { results := [.lit (.bool false)], args := [d] }
  | _ => none }
def TxnOrderWrongFalsely : Prop := txnOrderRow.holds Try.pinned (OpenSpec.ofChange txnOrderWrong)

/- THE SECOND FORM. 'bulk': how many values and letters a reading holds, each counted each time it is reached (what is shared counts as often as it is met; a slice's spare places count too). A statement '..UptoSaid' is the law's where the arguments, and the package variables that the reading takes, are together of bulk at most 1048576: NARROWER than '..Said'. Prove '..Said' where nothing that the law and all that it calls make is longer than what came in: it says more and counts as full. Else prove '..UptoSaid'. A law counts once. -/
mutual
def uptoBulk {H : Type} : DataW H → Nat
  | .lit (.string bytes) => bytes.length + 1
  | .lit _ => 1
  | .nil => 1
  | .ptr d => uptoBulk d + 1
  | .slice elems spare => uptoBulkAll elems + uptoBulkAll spare + 1
  | .agg parts => uptoBulkAll parts + 1
  | .iface _ d => uptoBulk d + 1
  | .map entries => uptoBulkEntries entries + 1
  | .held _ => 1
def uptoBulkAll {H : Type} : List (DataW H) → Nat
  | [] => 0
  | d :: r => uptoBulk d + uptoBulkAll r
def uptoBulkEntries {H : Type} : List (Lit × DataW H) → Nat
  | [] => 0
  | x :: r => uptoBulkEntry x + uptoBulkEntries r
def uptoBulkEntry {H : Type} : Lit × DataW H → Nat
  | (.string bytes, d) => bytes.length + uptoBulk d + 1
  | (_, d) => uptoBulk d + 1
 end
def uptoSmall : (H : Type) → List (DataW H) → Bool := fun _ ds => decide (uptoBulkAll ds ≤ 1048576)
def OpenSpec.upto (s : _root_.Go.ChangeSpec) : _root_.Go.OpenSpec := { _root_.Go.OpenSpec.ofChange s with cond := some uptoSmall }

/-- 'palinodelaw12.TxnTells', WHERE WHAT IT READS IS OF BULK AT MOST 1048576: true; the input reads as it did. -/
def txnTellsUptoRow : OpenClaim := { program := "ytghkjbekjkejpaa", sum := "e3f7258a403632cbfa83024864b7ce8eda6647eb69b068c9ca9aca25141fd812", func := "palinode/palinodelaw12.TxnTells", spec := "txnTells", inPlace := ["internal/abi.NoEscape", "internal/bytealg.MakeNoZero"], unfollowed := true, recurses := true, apart := false, narrowed := true }
def TxnTellsUptoSaid : Prop := txnTellsUptoRow.holds Try.pinned (OpenSpec.upto txnTellsSpec)

/-- 'palinodelaw12.TxnPlaces', WHERE WHAT IT READS IS OF BULK AT MOST 1048576: true; the input reads as it did. -/
def txnPlacesUptoRow : OpenClaim := { program := "ytghkjbekjkejpaa", sum := "e3f7258a403632cbfa83024864b7ce8eda6647eb69b068c9ca9aca25141fd812", func := "palinode/palinodelaw12.TxnPlaces", spec := "txnPlaces", unfollowed := true, recurses := true, apart := false, narrowed := true }
def TxnPlacesUptoSaid : Prop := txnPlacesUptoRow.holds Try.pinned (OpenSpec.upto txnPlacesSpec)

/-- 'palinodelaw12.TxnOrder', WHERE WHAT IT READS IS OF BULK AT MOST 1048576: true; the input reads as it did. -/
def txnOrderUptoRow : OpenClaim := { program := "ytghkjbekjkejpaa", sum := "e3f7258a403632cbfa83024864b7ce8eda6647eb69b068c9ca9aca25141fd812", func := "palinode/palinodelaw12.TxnOrder", spec := "txnOrder", unfollowed := true, recurses := true, apart := false, narrowed := true }
def TxnOrderUptoSaid : Prop := txnOrderUptoRow.holds Try.pinned (OpenSpec.upto txnOrderSpec)

end Rows
end Go.Proofs.Ytghkjbekjkejpaa
