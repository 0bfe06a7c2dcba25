/-
  DERIVED. GIVEN WITH THE SEED: THE CARDS: each row of YtpcdfonbejhhgaaDoorRows.lean that lists a variable, with what it lists TIED to the program's text (the seventh form; the later family's looks); each row that meets fmt, with fmt's text TOLD by the authors' own Lean function (tested against real Go, not proved from fmt's source: count such statements apart). THE CARD IS WHAT COUNTS. Prove the row's statement (the work); the ties are given (YtpcdfonbejhhgaaDoorTie.lean); close each card by the builder's one call (the guide's Derived/Test/ToyasCard.lean, 'card_holds'). Laid BY PROGRAM, IN A SANDBOX (cutbox-door.mjs). By AI agents, Wed Nov 11 2026. No macro, syntax, notation, axiom, sorry.
-/
import Derived.Test.YtpcdfonbejhhgaaDoorRows
import GoSem.ClaimSeven
namespace Go.Proofs.YtpcdfonbejhhgaaDoor
namespace Rows

/-- THE TIED CARD OF 'palinodelaw01.SumTells'. -/
def sumTellsCard : Claim7 := { stood := { row := sumTellsRow, standIns := [], harness := (true, "881d2a8dc705645715d41c82993014b19693c0fd1a880ea2643d9511d2db4b45"), looks := false }, kinds := [], alts := [], laidByText := true, laidKinds := [.data], laidTests := true, laidLooks := .later }
def SumTellsCardSaid : Prop := Claim7.holds Tryd.pinned (.plain (OpenSpec.ofChange sumTellsSpec)) sumTellsCard

/-- THE TIED CARD OF 'palinodelaw01.SumGoes'. -/
def sumGoesCard : Claim7 := { stood := { row := sumGoesRow, standIns := [], harness := (true, "881d2a8dc705645715d41c82993014b19693c0fd1a880ea2643d9511d2db4b45"), looks := false }, kinds := [], alts := [], laidByText := true, laidKinds := [.data], laidTests := true, laidLooks := .later }
def SumGoesCardSaid : Prop := Claim7.holds Tryd.pinned (.plain (OpenSpec.ofChange sumGoesSpec)) sumGoesCard

/-- THE TIED CARD OF 'palinodelaw01.SumOpens'. -/
def sumOpensCard : Claim7 := { stood := { row := sumOpensRow, standIns := [], harness := (true, "881d2a8dc705645715d41c82993014b19693c0fd1a880ea2643d9511d2db4b45"), looks := false }, kinds := [], alts := [], laidByText := true, laidKinds := [.data], laidTests := true, laidLooks := .later }
def SumOpensCardSaid : Prop := Claim7.holds Tryd.pinned (.plain (OpenSpec.ofChange sumOpensSpec)) sumOpensCard

/-- THE TIED CARD OF 'palinodelaw01.SumFinds'. -/
def sumFindsCard : Claim7 := { stood := { row := sumFindsRow, standIns := [], harness := (true, "881d2a8dc705645715d41c82993014b19693c0fd1a880ea2643d9511d2db4b45"), looks := false }, kinds := [], alts := [], laidByText := true, laidKinds := [.data], laidTests := true, laidLooks := .later }
def SumFindsCardSaid : Prop := Claim7.holds Tryd.pinned (.plain (OpenSpec.ofChange sumFindsSpec)) sumFindsCard

/-- THE SECOND FORM's CARD OF 'palinodelaw01.SumTells'. -/
def sumTellsUptoCard : Claim7 := { stood := { row := sumTellsUptoRow, standIns := [], harness := (true, "881d2a8dc705645715d41c82993014b19693c0fd1a880ea2643d9511d2db4b45"), looks := false }, kinds := [], alts := [], laidByText := true, laidKinds := [.data], laidTests := true, laidLooks := .later }
def SumTellsUptoCardSaid : Prop := Claim7.holds Tryd.pinned (.plain (OpenSpec.upto sumTellsSpec)) sumTellsUptoCard

/-- THE SECOND FORM's CARD OF 'palinodelaw01.SumGoes'. -/
def sumGoesUptoCard : Claim7 := { stood := { row := sumGoesUptoRow, standIns := [], harness := (true, "881d2a8dc705645715d41c82993014b19693c0fd1a880ea2643d9511d2db4b45"), looks := false }, kinds := [], alts := [], laidByText := true, laidKinds := [.data], laidTests := true, laidLooks := .later }
def SumGoesUptoCardSaid : Prop := Claim7.holds Tryd.pinned (.plain (OpenSpec.upto sumGoesSpec)) sumGoesUptoCard

/-- THE SECOND FORM's CARD OF 'palinodelaw01.SumOpens'. -/
def sumOpensUptoCard : Claim7 := { stood := { row := sumOpensUptoRow, standIns := [], harness := (true, "881d2a8dc705645715d41c82993014b19693c0fd1a880ea2643d9511d2db4b45"), looks := false }, kinds := [], alts := [], laidByText := true, laidKinds := [.data], laidTests := true, laidLooks := .later }
def SumOpensUptoCardSaid : Prop := Claim7.holds Tryd.pinned (.plain (OpenSpec.upto sumOpensSpec)) sumOpensUptoCard

/-- THE SECOND FORM's CARD OF 'palinodelaw01.SumFinds'. -/
def sumFindsUptoCard : Claim7 := { stood := { row := sumFindsUptoRow, standIns := [], harness := (true, "881d2a8dc705645715d41c82993014b19693c0fd1a880ea2643d9511d2db4b45"), looks := false }, kinds := [], alts := [], laidByText := true, laidKinds := [.data], laidTests := true, laidLooks := .later }
def SumFindsUptoCardSaid : Prop := Claim7.holds Tryd.pinned (.plain (OpenSpec.upto sumFindsSpec)) sumFindsUptoCard
end Rows
end Go.Proofs.YtpcdfonbejhhgaaDoor
