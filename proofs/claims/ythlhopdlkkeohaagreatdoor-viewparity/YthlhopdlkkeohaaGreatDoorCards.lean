/-
  DERIVED. GIVEN WITH THE SEED: THE CARDS: each row of YthlhopdlkkeohaaGreatDoorRows.lean that lists a variable, with what it lists TIED to the program's text (the seventh form; the later family's looks); each row that meets fmt, with fmt's text TOLD by the authors' own Lean function (tested against real Go, not proved from fmt's source: count such statements apart). THE CARD IS WHAT COUNTS. Prove the row's statement (the work); the ties are given (YthlhopdlkkeohaaGreatDoorTie.lean); close each card by the builder's one call (the guide's Derived/Test/ToyasCard.lean, 'card_holds'). Laid BY PROGRAM, IN A SANDBOX (cutbox-door.mjs). By AI agents, Wed Nov 11 2026. No macro, syntax, notation, axiom, sorry.
-/
import Derived.Test.YthlhopdlkkeohaaGreatDoorRows
import GoSem.ClaimSeven
namespace Go.Proofs.YthlhopdlkkeohaaGreatDoor
namespace Rows

/-- THE TIED CARD OF 'palinodelaw18.ViewTells'. -/
def viewTellsCard : Claim7 := { stood := { row := viewTellsRow, standIns := [], harness := (true, "152be2674ef13a1aaa058bef035e539d7063608000ae23684d5ee1c7c2c52a38"), looks := true }, kinds := [], alts := [], laidByText := true, laidKinds := [.data, .data, .data], laidTests := true, laidLooks := .later }
def ViewTellsCardSaid : Prop := Claim7.holds Tryz.pinned (.plain (OpenSpec.ofChange viewTellsSpec)) viewTellsCard

/-- THE TIED CARD OF 'palinodelaw18.ViewAll'. -/
def viewAllCard : Claim7 := { stood := { row := viewAllRow, standIns := [], harness := (true, "152be2674ef13a1aaa058bef035e539d7063608000ae23684d5ee1c7c2c52a38"), looks := true }, kinds := [], alts := [], laidByText := true, laidKinds := [.data, .data, .data], laidTests := true, laidLooks := .later }
def ViewAllCardSaid : Prop := Claim7.holds Tryz.pinned (.plain (OpenSpec.ofChange viewAllSpec)) viewAllCard

/-- THE TIED CARD OF 'palinodelaw18.ViewParity'. -/
def viewParityCard : Claim7 := { stood := { row := viewParityRow, standIns := [], harness := (true, "152be2674ef13a1aaa058bef035e539d7063608000ae23684d5ee1c7c2c52a38"), looks := true }, kinds := [], alts := [], laidByText := true, laidKinds := [.data, .data, .data], laidTests := true, laidLooks := .later }
def ViewParityCardSaid : Prop := Claim7.holds Tryz.pinned (.plain (OpenSpec.ofChange viewParitySpec)) viewParityCard

/-- THE SECOND FORM's CARD OF 'palinodelaw18.ViewTells'. -/
def viewTellsUptoCard : Claim7 := { stood := { row := viewTellsUptoRow, standIns := [], harness := (true, "152be2674ef13a1aaa058bef035e539d7063608000ae23684d5ee1c7c2c52a38"), looks := true }, kinds := [], alts := [], laidByText := true, laidKinds := [.data, .data, .data], laidTests := true, laidLooks := .later }
def ViewTellsUptoCardSaid : Prop := Claim7.holds Tryz.pinned (.plain (OpenSpec.upto viewTellsSpec)) viewTellsUptoCard

/-- THE SECOND FORM's CARD OF 'palinodelaw18.ViewAll'. -/
def viewAllUptoCard : Claim7 := { stood := { row := viewAllUptoRow, standIns := [], harness := (true, "152be2674ef13a1aaa058bef035e539d7063608000ae23684d5ee1c7c2c52a38"), looks := true }, kinds := [], alts := [], laidByText := true, laidKinds := [.data, .data, .data], laidTests := true, laidLooks := .later }
def ViewAllUptoCardSaid : Prop := Claim7.holds Tryz.pinned (.plain (OpenSpec.upto viewAllSpec)) viewAllUptoCard

/-- THE SECOND FORM's CARD OF 'palinodelaw18.ViewParity'. -/
def viewParityUptoCard : Claim7 := { stood := { row := viewParityUptoRow, standIns := [], harness := (true, "152be2674ef13a1aaa058bef035e539d7063608000ae23684d5ee1c7c2c52a38"), looks := true }, kinds := [], alts := [], laidByText := true, laidKinds := [.data, .data, .data], laidTests := true, laidLooks := .later }
def ViewParityUptoCardSaid : Prop := Claim7.holds Tryz.pinned (.plain (OpenSpec.upto viewParitySpec)) viewParityUptoCard
end Rows
end Go.Proofs.YthlhopdlkkeohaaGreatDoor
