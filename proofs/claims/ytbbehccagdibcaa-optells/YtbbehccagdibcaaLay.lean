/- The calls of the library that the program makes and that lie proved over any program: the builder's String: laid at this program. -/
import Derived.Shelf.Strings.BuilderK
import Derived.Test.YtbbehccagdibcaaChecked
import Derived.WalkKit
namespace Go.Proofs.Ytbbehccagdibcaa
open Go.Shelf Go.RowKit

/-- Which number the library's functions, types and variables have here. -/
def ren : Ren := ⟨fun | 169 => 88 | n => n, fun | 0 => 0 | 3 => 3 | 5 => 5 | 9 => 9 | 37 => 87 | 70 => 93 | 72 => 95 | 127 => 110 | n => n, fun | n => n⟩
theorem lay169 : Lays.n169 Try.prog ren := {
  mixed := by kernel_rfl
  f169 := Try.func88.trans (congrArg some (by kernel_rfl))
  t0 := Try.underlying0, a0 := Try.isAgg0, z0 := Try.sizeOf0, v0 := Try.zeroValue0
  t3 := Try.underlying3, a3 := Try.isAgg3, z3 := Try.sizeOf3, v3 := Try.zeroValue3
  t9 := Try.underlying9, a9 := Try.isAgg9, z9 := Try.sizeOf9, v9 := Try.zeroValue9
  t37 := Try.underlying87, a37 := Try.isAgg87, z37 := Try.sizeOf87, v37 := Try.zeroValue87
  t70 := Try.underlying93, a70 := Try.isAgg93, z70 := Try.sizeOf93, v70 := Try.zeroValue93
  t72 := Try.underlying95, a72 := Try.isAgg95, z72 := Try.sizeOf95, v72 := Try.zeroValue95
  t127 := Try.underlying110, a127 := Try.isAgg110, z127 := Try.sizeOf110, v127 := Try.zeroValue110 }
theorem layX : Builder.Extra Try.prog ren := {
  sizeBuilder := by kernel_rfl
  liesBuilder := by kernel_rfl
  t5 := Try.underlying5, a5 := Try.isAgg5, z5 := Try.sizeOf5, v5 := Try.zeroValue5
  infoByte := by kernel_rfl
  cellsByte := by kernel_rfl
  sizeByte := by kernel_rfl
  neB5 := by decide }

/-- The builder tells its text. -/
theorem bString (B b : Nat) (l : List UInt8) (w : World) (h : Lib.IsBuilderF 95 5 B b (Lib.byteCells l) w) (hBw : B ≤ w.heap.size) :
    Calls Try.prog 88 #[.pointer (some ⟨b, 0, none⟩)] w fun e w' => e = .returned (.string ⟨l.toArray⟩) ∧ (Lib.IsBuilderF 95 5 B b (Lib.byteCells l) w' ∧ Below B w w' ∧ Lib.OthersKept 5 (some b) w w') := Any.Builder_String_any_k lay169 layX B b l w h hBw

end Go.Proofs.Ytbbehccagdibcaa
