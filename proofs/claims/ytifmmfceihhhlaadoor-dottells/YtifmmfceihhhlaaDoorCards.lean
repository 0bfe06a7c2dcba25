/-
  DERIVED. GIVEN WITH THE SEED: THE CARDS: each row of YtifmmfceihhhlaaDoorRows.lean that lists a variable, with what it lists TIED to the program's text (the seventh form; the later family's looks); each row that meets fmt, with fmt's text TOLD by the authors' own Lean function (tested against real Go, not proved from fmt's source: count such statements apart). THE CARD IS WHAT COUNTS. Prove the row's statement (the work); the ties are given (YtifmmfceihhhlaaDoorTie.lean); close each card by the builder's one call (the guide's Derived/Test/ToyasCard.lean, 'card_holds'). Laid BY PROGRAM, IN A SANDBOX (cutbox-door.mjs). By AI agents, Wed Nov 11 2026. No macro, syntax, notation, axiom, sorry.
-/
import Derived.Test.YtifmmfceihhhlaaDoorRows
import GoSem.ClaimSeven
namespace Go.Proofs.YtifmmfceihhhlaaDoor
namespace Rows

/-- THE TIED CARD OF 'palinodelaw04.DotTells'. -/
def dotTellsCard : Claim7 := { stood := { row := dotTellsRow, standIns := [], harness := (true, "92ac2f938b546994af44e6aa4776f0bcbaefc4a2c23d202f8e30e944a5949bf5"), looks := true }, kinds := [], alts := [], laidByText := true, laidKinds := [.data, .data, .data, .sentinel, .sentinel], laidTests := true, laidLooks := .later }
def DotTellsCardSaid : Prop := Claim7.holds Tryd.pinned (.plain (OpenSpec.ofChange dotTellsSpec)) dotTellsCard

/-- THE TIED CARD OF 'palinodelaw04.DotParses'. -/
def dotParsesCard : Claim7 := { stood := { row := dotParsesRow, standIns := [], harness := (true, "92ac2f938b546994af44e6aa4776f0bcbaefc4a2c23d202f8e30e944a5949bf5"), looks := true }, kinds := [], alts := [], laidByText := true, laidKinds := [.data, .data, .data, .sentinel, .sentinel], laidTests := true, laidLooks := .later }
def DotParsesCardSaid : Prop := Claim7.holds Tryd.pinned (.plain (OpenSpec.ofChange dotParsesSpec)) dotParsesCard

/-- THE TIED CARD OF 'palinodelaw04.DotReads'. -/
def dotReadsCard : Claim7 := { stood := { row := dotReadsRow, standIns := [], harness := (true, "92ac2f938b546994af44e6aa4776f0bcbaefc4a2c23d202f8e30e944a5949bf5"), looks := true }, kinds := [], alts := [], laidByText := true, laidKinds := [.data, .data, .data, .sentinel, .sentinel], laidTests := true, laidLooks := .later }
def DotReadsCardSaid : Prop := Claim7.holds Tryd.pinned (.plain (OpenSpec.ofChange dotReadsSpec)) dotReadsCard

/-- THE TIED CARD OF 'palinodelaw04.DotBack'. -/
def dotBackCard : Claim7 := { stood := { row := dotBackRow, standIns := [], harness := (true, "92ac2f938b546994af44e6aa4776f0bcbaefc4a2c23d202f8e30e944a5949bf5"), looks := true }, kinds := [], alts := [], laidByText := true, laidKinds := [.data, .data, .data, .sentinel, .sentinel], laidTests := true, laidLooks := .later }
def DotBackCardSaid : Prop := Claim7.holds Tryd.pinned (.plain (OpenSpec.ofChange dotBackSpec)) dotBackCard

/-- THE TIED CARD OF 'palinodelaw04.DotRow'. -/
def dotRowCard : Claim7 := { stood := { row := dotRowRow, standIns := [], harness := (true, "92ac2f938b546994af44e6aa4776f0bcbaefc4a2c23d202f8e30e944a5949bf5"), looks := true }, kinds := [], alts := [], laidByText := true, laidKinds := [.data, .data, .data, .sentinel, .sentinel], laidTests := true, laidLooks := .later }
def DotRowCardSaid : Prop := Claim7.holds Tryd.pinned (.plain (OpenSpec.ofChange dotRowSpec)) dotRowCard

/-- THE SECOND FORM's CARD OF 'palinodelaw04.DotTells'. -/
def dotTellsUptoCard : Claim7 := { stood := { row := dotTellsUptoRow, standIns := [], harness := (true, "92ac2f938b546994af44e6aa4776f0bcbaefc4a2c23d202f8e30e944a5949bf5"), looks := true }, kinds := [], alts := [], laidByText := true, laidKinds := [.data, .data, .data, .sentinel, .sentinel], laidTests := true, laidLooks := .later }
def DotTellsUptoCardSaid : Prop := Claim7.holds Tryd.pinned (.plain (OpenSpec.upto dotTellsSpec)) dotTellsUptoCard

/-- THE SECOND FORM's CARD OF 'palinodelaw04.DotParses'. -/
def dotParsesUptoCard : Claim7 := { stood := { row := dotParsesUptoRow, standIns := [], harness := (true, "92ac2f938b546994af44e6aa4776f0bcbaefc4a2c23d202f8e30e944a5949bf5"), looks := true }, kinds := [], alts := [], laidByText := true, laidKinds := [.data, .data, .data, .sentinel, .sentinel], laidTests := true, laidLooks := .later }
def DotParsesUptoCardSaid : Prop := Claim7.holds Tryd.pinned (.plain (OpenSpec.upto dotParsesSpec)) dotParsesUptoCard

/-- THE SECOND FORM's CARD OF 'palinodelaw04.DotReads'. -/
def dotReadsUptoCard : Claim7 := { stood := { row := dotReadsUptoRow, standIns := [], harness := (true, "92ac2f938b546994af44e6aa4776f0bcbaefc4a2c23d202f8e30e944a5949bf5"), looks := true }, kinds := [], alts := [], laidByText := true, laidKinds := [.data, .data, .data, .sentinel, .sentinel], laidTests := true, laidLooks := .later }
def DotReadsUptoCardSaid : Prop := Claim7.holds Tryd.pinned (.plain (OpenSpec.upto dotReadsSpec)) dotReadsUptoCard

/-- THE SECOND FORM's CARD OF 'palinodelaw04.DotBack'. -/
def dotBackUptoCard : Claim7 := { stood := { row := dotBackUptoRow, standIns := [], harness := (true, "92ac2f938b546994af44e6aa4776f0bcbaefc4a2c23d202f8e30e944a5949bf5"), looks := true }, kinds := [], alts := [], laidByText := true, laidKinds := [.data, .data, .data, .sentinel, .sentinel], laidTests := true, laidLooks := .later }
def DotBackUptoCardSaid : Prop := Claim7.holds Tryd.pinned (.plain (OpenSpec.upto dotBackSpec)) dotBackUptoCard

/-- THE SECOND FORM's CARD OF 'palinodelaw04.DotRow'. -/
def dotRowUptoCard : Claim7 := { stood := { row := dotRowUptoRow, standIns := [], harness := (true, "92ac2f938b546994af44e6aa4776f0bcbaefc4a2c23d202f8e30e944a5949bf5"), looks := true }, kinds := [], alts := [], laidByText := true, laidKinds := [.data, .data, .data, .sentinel, .sentinel], laidTests := true, laidLooks := .later }
def DotRowUptoCardSaid : Prop := Claim7.holds Tryd.pinned (.plain (OpenSpec.upto dotRowSpec)) dotRowUptoCard
end Rows
end Go.Proofs.YtifmmfceihhhlaaDoor
