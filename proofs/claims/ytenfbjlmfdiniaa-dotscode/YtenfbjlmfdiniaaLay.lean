/- The builder's String, which lies proved over any program, laid at this program. -/
import Derived.Shelf.Strings.BuilderK
import Derived.Test.YtenfbjlmfdiniaaChecked
import Derived.WalkKit
namespace Go.Proofs.Ytenfbjlmfdiniaa
open Go.Shelf Go.RowKit

/-- Which number the library's functions and types have here. -/
def ren : Ren := ⟨fun | 169 => 67 | n => n, fun | 70 => 72 | 9 => 9 | 0 => 0 | 72 => 75 | 37 => 73 | 127 => 101 | 3 => 3 | 4 => 4 | 5 => 5 | 21 => 21 | 46 => 94 | 51 => 121 | n => n, fun n => n⟩
theorem lay169 : Lays.n169 Try.prog ren := {
  mixed := by kernel_rfl
  f169 := Try.func67.trans (congrArg some (by kernel_rfl))
  t0 := Try.underlying0, a0 := Try.isAgg0, z0 := Try.sizeOf0, v0 := Try.zeroValue0
  t3 := Try.underlying3, a3 := Try.isAgg3, z3 := Try.sizeOf3, v3 := Try.zeroValue3
  t9 := Try.underlying9, a9 := Try.isAgg9, z9 := Try.sizeOf9, v9 := Try.zeroValue9
  t37 := Try.underlying73, a37 := Try.isAgg73, z37 := Try.sizeOf73, v37 := Try.zeroValue73
  t70 := Try.underlying72, a70 := Try.isAgg72, z70 := Try.sizeOf72, v70 := Try.zeroValue72
  t72 := Try.underlying75, a72 := Try.isAgg75, z72 := Try.sizeOf75, v72 := Try.zeroValue75
  t127 := Try.underlying101, a127 := Try.isAgg101, z127 := Try.sizeOf101, v127 := Try.zeroValue101 }
theorem layX : Builder.Extra Try.prog ren := {
  sizeBuilder := by kernel_rfl
  liesBuilder := by kernel_rfl
  t5 := Try.underlying5, a5 := Try.isAgg5, z5 := Try.sizeOf5, v5 := Try.zeroValue5
  infoByte := by kernel_rfl
  cellsByte := by kernel_rfl
  sizeByte := by kernel_rfl
  neB5 := by decide }

/-- The builder tells its text. -/
theorem bString (B b : Nat) (l : List UInt8) (w : World) (h : Lib.IsBuilderF 75 5 B b (Lib.byteCells l) w) (hBw : B ≤ w.heap.size) :
    Calls Try.prog 67 #[.pointer (some ⟨b, 0, none⟩)] w fun e w' => e = .returned (.string ⟨l.toArray⟩) ∧ (Lib.IsBuilderF 75 5 B b (Lib.byteCells l) w' ∧ Below B w w' ∧ Lib.OthersKept 5 (some b) w w') := Any.Builder_String_any_k lay169 layX B b l w h hBw

end Go.Proofs.Ytenfbjlmfdiniaa
