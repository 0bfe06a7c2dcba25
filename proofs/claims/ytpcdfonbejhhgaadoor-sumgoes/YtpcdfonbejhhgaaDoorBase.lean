/- What all four proofs of this seat share: the listed table's cells, out of the row's condition; the witness's heap. -/
import Derived.Test.YtpcdfonbejhhgaaDoorRows
import Derived.Test.YtpcdfonbejhhgaaDoorRef
import Derived.ProofKit
import Derived.LaidMore
import Derived.Lib.LaidTab
import Derived.Stop.Joined
namespace Go.Proofs.YtpcdfonbejhhgaaDoor
open Go.ChangeShapes Go.WideShapes Go.ChangeAt Go.RowKit

theorem own : ownKnob Tryd.prog.godebug = none := by kernel_rfl
theorem gHalves : Tryd.prog.globalNamed "palinode/sum.halves" = some 0 := by kernel_rfl
theorem tHalves : (Tryd.prog.globals[0]?).map (·.type) = some 36 := by kernel_rfl
theorem Tryd.cells22 : Tryd.prog.cellsOf 22 = 1 := by kernel_rfl
theorem Tryd.cells36 : Tryd.prog.cellsOf 36 = 16 := by kernel_rfl
def halves : List Int := [0, 498536548, 997073096, 651767980, 1994146192, 1802195444, 1303535960, 1342533948, 3988292384, 4027552580, 3604390888, 3412177804, 2607071920, 2262029012, 2685067896, 3183342108]
def laid1 : List (String × DataW Unit) := [("palinode/sum.halves", Rows.laid_palinode_sum_halves)]

/-- The door's own heap meets the condition. -/
theorem door_met (os : Os) (args : Array Value) : laidMetH Tryd.prog laid1 ((World.doorLaid Tryd.prog 400 os).forCall (fun _ _ => 0) ⟨#[], args, []⟩).memory :=
  laidMetH_of_parts3 (fuel := 8) (laidMet_of_run' 8 (by kernel_rfl) (by kernel_rfl)) (by kernel_rfl) (by kernel_rfl)

/-- What the condition gives the walks. -/
theorem tab_of_laid {W : World} (h : laidMetH Tryd.prog laid1 W) : Tab W := by
  rw [MakeChecks.laidMetH_plain _ _ _ (by kernel_rfl)] at h
  have hT : Lib.TabIs Tryd.prog W "palinode/sum.halves" .u32 halves := Lib.tabIs_of_head (rest := []) gHalves tHalves Tryd.underlying36 Tryd.underlying22 Tryd.cells22 Tryd.cells36 h
  intro i hi
  have := hT.cell gHalves i (by simpa [halves] using hi)
  rw [this]
  have e : ∀ j : Fin 16, halves.getD j.val 0 = ((Crc.tabAt j.val : Nat) : Int) := by decide
  rw [e ⟨i, hi⟩]

end Go.Proofs.YtpcdfonbejhhgaaDoor
