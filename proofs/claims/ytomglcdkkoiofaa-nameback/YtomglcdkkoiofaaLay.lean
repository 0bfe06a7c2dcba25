/- The calls of the library that the program makes and that lie proved over any program: the builder's String, AppendRune, HasPrefix: laid at this program. -/
import Derived.Shelf.Strings.BuilderRune
import Derived.Shelf.Strings.Prefix
import Derived.Test.YtomglcdkkoiofaaChecked
import Derived.WalkKit
namespace Go.Proofs.Ytomglcdkkoiofaa
open Go.Shelf Go.RowKit

/-- Which number the library's functions and types have here. -/
def ren : Ren := ⟨fun | 169 => 24 | 206 => 29 | 99 => 19 | 242 => 31 | 278 => 33 | n => n, fun | 70 => 41 | 9 => 9 | 0 => 0 | 72 => 44 | 37 => 42 | 127 => 53 | 3 => 3 | 4 => 4 | 5 => 5 | 21 => 21 | 46 => 57 | 51 => 56 | n => n, fun n => n⟩
theorem lay169 : Lays.n169 Try.prog ren := {
  mixed := by kernel_rfl
  f169 := Try.func24.trans (congrArg some (by kernel_rfl))
  t0 := Try.underlying0, a0 := Try.isAgg0, z0 := Try.sizeOf0, v0 := Try.zeroValue0
  t3 := Try.underlying3, a3 := Try.isAgg3, z3 := Try.sizeOf3, v3 := Try.zeroValue3
  t9 := Try.underlying9, a9 := Try.isAgg9, z9 := Try.sizeOf9, v9 := Try.zeroValue9
  t37 := Try.underlying42, a37 := Try.isAgg42, z37 := Try.sizeOf42, v37 := Try.zeroValue42
  t70 := Try.underlying41, a70 := Try.isAgg41, z70 := Try.sizeOf41, v70 := Try.zeroValue41
  t72 := Try.underlying44, a72 := Try.isAgg44, z72 := Try.sizeOf44, v72 := Try.zeroValue44
  t127 := Try.underlying53, a127 := Try.isAgg53, z127 := Try.sizeOf53, v127 := Try.zeroValue53 }
theorem layX : Builder.Extra Try.prog ren := {
  sizeBuilder := by kernel_rfl
  liesBuilder := by kernel_rfl
  t5 := Try.underlying5, a5 := Try.isAgg5, z5 := Try.sizeOf5, v5 := Try.zeroValue5
  infoByte := by kernel_rfl
  cellsByte := by kernel_rfl
  sizeByte := by kernel_rfl
  neB5 := by decide }
theorem lay99 : Lays.n99 Try.prog ren := {
  mixed := by kernel_rfl
  f99 := Try.func19.trans (congrArg some (by kernel_rfl))
  f206 := Try.func29.trans (congrArg some (by kernel_rfl))
  t3 := Try.underlying3, a3 := Try.isAgg3, z3 := Try.sizeOf3, v3 := Try.zeroValue3
  t4 := Try.underlying4, a4 := Try.isAgg4, z4 := Try.sizeOf4, v4 := Try.zeroValue4
  t9 := Try.underlying9, a9 := Try.isAgg9, z9 := Try.sizeOf9, v9 := Try.zeroValue9 }
theorem lay242 : Lays.n242 Try.prog ren := {
  mixed := by kernel_rfl
  f242 := Try.func31.trans (congrArg some (by kernel_rfl))
  f278 := Try.func33.trans (congrArg some (by kernel_rfl))
  t4 := Try.underlying4, a4 := Try.isAgg4, z4 := Try.sizeOf4, v4 := Try.zeroValue4
  t5 := Try.underlying5, a5 := Try.isAgg5, z5 := Try.sizeOf5, v5 := Try.zeroValue5
  t21 := Try.underlying21, a21 := Try.isAgg21, z21 := Try.sizeOf21, v21 := Try.zeroValue21
  t37 := Try.underlying42, a37 := Try.isAgg42, z37 := Try.sizeOf42, v37 := Try.zeroValue42
  t46 := Try.underlying57, a46 := Try.isAgg57, z46 := Try.sizeOf57, v46 := Try.zeroValue57
  t51 := Try.underlying56, a51 := Try.isAgg56, z51 := Try.sizeOf56, v51 := Try.zeroValue56 }

/-- The builder tells its text. -/
theorem bString (B b : Nat) (l : List UInt8) (w : World) (h : Lib.IsBuilderF 44 5 B b (Lib.byteCells l) w) (hBw : B ≤ w.heap.size) :
    Calls Try.prog 24 #[.pointer (some ⟨b, 0, none⟩)] w fun e w' => e = .returned (.string ⟨l.toArray⟩) ∧ (Lib.IsBuilderF 44 5 B b (Lib.byteCells l) w' ∧ Below B w w' ∧ Lib.OthersKept 5 (some b) w w') := Any.Builder_String_any_k lay169 layX B b l w h hBw
theorem hasPrefix_any (s p : ByteArray) (w : World) :
    Calls Try.prog 19 #[.string s, .string p] w fun e w' => e = .returned (.bool (Lib.hasPrefix s.data.toList p.data.toList)) ∧ w' = w := Any.strings_HasPrefix lay99 s p w
theorem appendRune_any (B : Nat) (v : Value) (n : Nat) (xs : List Value) (r : Int) (hr0 : -2147483648 ≤ r) (hr1 : r ≤ 2147483647) (w : World) (hown : w.ownsRowF B 5 1 v n xs) (hlen : n + 4 ≤ 140737488355328) (hBw : B ≤ w.heap.size) :
    Calls Try.prog 31 #[v, .int .i32 r] w fun e w' => ∃ v', e = .returned v' ∧ w'.ownsRowF B 5 1 v' (n + (Lib.runeCells r).length) (xs ++ Lib.runeCells r) ∧ ∃ o, (w.alloc o).grownBy w' v.ownBlock := Any.utf8_AppendRune_own lay242 layX B v n xs r hr0 hr1 w hown hlen hBw

end Go.Proofs.Ytomglcdkkoiofaa
