/- slices.Sort of texts and of numbers, slices.Compact of both, slices.Clone of texts, slices.SortFunc: what lies proved over any program, laid at this program. -/
import Derived.Shelf.SlSortCmp.NoneTotal
import Derived.Shelf.Sort.Plain
import Derived.Shelf.Slices.In.SortNone
import Derived.Shelf.Slices.CompactS
import Derived.Shelf.Slices.Clone
import Derived.Test.YtmnehekcealjhaaChecked
namespace Go.Proofs.Ytmnehekcealjhaa.O
open Go.RowKit Go.Shelf

/-- Which number the library's functions, types and variables have here. -/
def ren : Ren := ⟨fun | 125 => 40 | 128 => 61 | 129 => 62 | 190 => 25 | 194 => 26 | 258 => 42 | 302 => 64 | 303 => 65 | 304 => 66 | 305 => 67 | 306 => 68 | 307 => 69 | 308 => 70 | 309 => 71 | 310 => 72 | 329 => 82 | 330 => 83 | 333 => 87 | 334 => 88 | 335 => 89 | 336 => 90 | 344 => 97 | n => n, fun | 0 => 0 | 3 => 3 | 4 => 4 | 5 => 5 | 9 => 9 | 31 => 31 | 46 => 79 | 51 => 101 | 53 => 103 | 131 => 98 | 182 => 93 | 183 => 94 | 218 => 117 | 222 => 121 | 228 => 132 | 229 => 133 | n => n, fun | n => n⟩
theorem lay190 : Lays.n190 Try.prog ren := {
  mixed := by kernel_rfl
  f125 := Try.func40.trans (congrArg some (by kernel_rfl))
  f128 := Try.func61.trans (congrArg some (by kernel_rfl))
  f129 := Try.func62.trans (congrArg some (by kernel_rfl))
  f190 := Try.func25.trans (congrArg some (by kernel_rfl))
  f258 := Try.func42.trans (congrArg some (by kernel_rfl))
  f302 := Try.func64.trans (congrArg some (by kernel_rfl))
  f303 := Try.func65.trans (congrArg some (by kernel_rfl))
  f304 := Try.func66.trans (congrArg some (by kernel_rfl))
  f305 := Try.func67.trans (congrArg some (by kernel_rfl))
  f306 := Try.func68.trans (congrArg some (by kernel_rfl))
  f307 := Try.func69.trans (congrArg some (by kernel_rfl))
  f308 := Try.func70.trans (congrArg some (by kernel_rfl))
  f309 := Try.func71.trans (congrArg some (by kernel_rfl))
  f310 := Try.func72.trans (congrArg some (by kernel_rfl))
  f329 := Try.func82.trans (congrArg some (by kernel_rfl))
  f330 := Try.func83.trans (congrArg some (by kernel_rfl))
  f333 := Try.func87.trans (congrArg some (by kernel_rfl))
  f334 := Try.func88.trans (congrArg some (by kernel_rfl))
  f335 := Try.func89.trans (congrArg some (by kernel_rfl))
  f336 := Try.func90.trans (congrArg some (by kernel_rfl))
  f344 := Try.func97.trans (congrArg some (by kernel_rfl))
  t0 := Try.underlying0, a0 := Try.isAgg0, z0 := Try.sizeOf0, v0 := Try.zeroValue0
  t3 := Try.underlying3, a3 := Try.isAgg3, z3 := Try.sizeOf3, v3 := Try.zeroValue3
  t4 := Try.underlying4, a4 := Try.isAgg4, z4 := Try.sizeOf4, v4 := Try.zeroValue4
  t5 := Try.underlying5, a5 := Try.isAgg5, z5 := Try.sizeOf5, v5 := Try.zeroValue5
  t9 := Try.underlying9, a9 := Try.isAgg9, z9 := Try.sizeOf9, v9 := Try.zeroValue9
  t31 := Try.underlying31, a31 := Try.isAgg31, z31 := Try.sizeOf31, v31 := Try.zeroValue31
  t46 := Try.underlying79, a46 := Try.isAgg79, z46 := Try.sizeOf79, v46 := Try.zeroValue79
  t51 := Try.underlying101, a51 := Try.isAgg101, z51 := Try.sizeOf101, v51 := Try.zeroValue101
  t53 := Try.underlying103, a53 := Try.isAgg103, z53 := Try.sizeOf103, v53 := Try.zeroValue103
  t131 := Try.underlying98, a131 := Try.isAgg98, z131 := Try.sizeOf98, v131 := Try.zeroValue98
  t182 := Try.underlying93, a182 := Try.isAgg93, z182 := Try.sizeOf93, v182 := Try.zeroValue93
  t183 := Try.underlying94, a183 := Try.isAgg94, z183 := Try.sizeOf94, v183 := Try.zeroValue94
  t218 := Try.underlying117, a218 := Try.isAgg117, z218 := Try.sizeOf117, v218 := Try.zeroValue117
  t222 := Try.underlying121, a222 := Try.isAgg121, z222 := Try.sizeOf121, v222 := Try.zeroValue121
  t228 := Try.underlying132, a228 := Try.isAgg132, z228 := Try.sizeOf132, v228 := Try.zeroValue132
  t229 := Try.underlying133, a229 := Try.isAgg133, z229 := Try.sizeOf133, v229 := Try.zeroValue133 }
theorem lay194 : Lays.n194 Try.prog ren := {
  mixed := by kernel_rfl
  f194 := Try.func26.trans (congrArg some (by kernel_rfl))
  t0 := Try.underlying0, a0 := Try.isAgg0, z0 := Try.sizeOf0, v0 := Try.zeroValue0
  t3 := Try.underlying3, a3 := Try.isAgg3, z3 := Try.sizeOf3, v3 := Try.zeroValue3
  t4 := Try.underlying4, a4 := Try.isAgg4, z4 := Try.sizeOf4, v4 := Try.zeroValue4
  t9 := Try.underlying9, a9 := Try.isAgg9, z9 := Try.sizeOf9, v9 := Try.zeroValue9
  t31 := Try.underlying31, a31 := Try.isAgg31, z31 := Try.sizeOf31, v31 := Try.zeroValue31 }
/-- Which number the library's functions, types and variables have here. -/
def ren2 : Ren := ⟨fun | 16 => 18 | n => n, fun | 4 => 4 | 9 => 9 | 24 => 31 | n => n, fun | n => n⟩
theorem lays16 : Lays2.n16 Try.prog ren2 := {
  mixed := by kernel_rfl
  f16 := Try.func18.trans (congrArg some (by kernel_rfl))
  t4 := Try.underlying4, a4 := Try.isAgg4, z4 := Try.sizeOf4, v4 := Try.zeroValue4
  t9 := Try.underlying9, a9 := Try.isAgg9, z9 := Try.sizeOf9, v9 := Try.zeroValue9
  t24 := Try.underlying31, a24 := Try.isAgg31, z24 := Try.sizeOf31, v24 := Try.zeroValue31
  i9 := by kernel_rfl }
/-- Which number the library's functions and types have here. -/
def sortRen : Ren := ⟨fun | 6 => 20 | 15 => 40 | 14 => 39 | 28 => 61 | 29 => 62 | 20 => 53 | 21 => 54 | 22 => 55 | 23 => 56 | 24 => 57 | 25 => 58 | 26 => 59 | 27 => 60 | 46 => 81 | 47 => 82 | 48 => 83 | 49 => 84 | 50 => 85 | 57 => 96 | n => n, fun | 22 => 28 | 24 => 33 | 25 => 64 | 3 => 3 | 39 => 79 | 0 => 0 | 53 => 101 | 55 => 103 | 4 => 4 | 46 => 94 | 45 => 93 | 50 => 98 | 5 => 5 | 9 => 9 | 66 => 117 | 70 => 121 | 76 => 132 | 77 => 133 | n => n, fun | n => n⟩
theorem laySort : SlLaysF0.n6 Try.prog sortRen := {
  mixed := by kernel_rfl
  f6 := ⟨Try.f20.name, by decide, Try.func20.trans (congrArg some (by kernel_rfl))⟩
  f14 := ⟨Try.f39.name, by decide, Try.func39.trans (congrArg some (by kernel_rfl))⟩
  f15 := Try.func40.trans (congrArg some (by kernel_rfl))
  f20 := ⟨Try.f53.name, by decide, Try.func53.trans (congrArg some (by kernel_rfl))⟩
  f21 := ⟨Try.f54.name, by decide, Try.func54.trans (congrArg some (by kernel_rfl))⟩
  f22 := ⟨Try.f55.name, by decide, Try.func55.trans (congrArg some (by kernel_rfl))⟩
  f23 := ⟨Try.f56.name, by decide, Try.func56.trans (congrArg some (by kernel_rfl))⟩
  f24 := ⟨Try.f57.name, by decide, Try.func57.trans (congrArg some (by kernel_rfl))⟩
  f25 := ⟨Try.f58.name, by decide, Try.func58.trans (congrArg some (by kernel_rfl))⟩
  f26 := ⟨Try.f59.name, by decide, Try.func59.trans (congrArg some (by kernel_rfl))⟩
  f27 := ⟨Try.f60.name, by decide, Try.func60.trans (congrArg some (by kernel_rfl))⟩
  f28 := Try.func61.trans (congrArg some (by kernel_rfl))
  f29 := Try.func62.trans (congrArg some (by kernel_rfl))
  f46 := ⟨Try.f81.name, by decide, Try.func81.trans (congrArg some (by kernel_rfl))⟩
  f47 := Try.func82.trans (congrArg some (by kernel_rfl))
  f48 := Try.func83.trans (congrArg some (by kernel_rfl))
  f49 := ⟨Try.f84.name, by decide, Try.func84.trans (congrArg some (by kernel_rfl))⟩
  f50 := ⟨Try.f85.name, by decide, Try.func85.trans (congrArg some (by kernel_rfl))⟩
  f57 := ⟨Try.f96.name, by decide, Try.func96.trans (congrArg some (by kernel_rfl))⟩
  t0 := Try.underlying0, a0 := Try.isAgg0, z0 := Try.sizeOf0, v0 := Try.zeroValue0
  t3 := Try.underlying3, a3 := Try.isAgg3, z3 := Try.sizeOf3, v3 := Try.zeroValue3
  t4 := Try.underlying4, a4 := Try.isAgg4, z4 := Try.sizeOf4, v4 := Try.zeroValue4
  t5 := Try.underlying5, a5 := Try.isAgg5, z5 := Try.sizeOf5, v5 := Try.zeroValue5
  t9 := Try.underlying9, a9 := Try.isAgg9, z9 := Try.sizeOf9, v9 := Try.zeroValue9
  t22 := Try.underlying28, a22 := Try.isAgg28, z22 := Try.sizeOf28, v22 := Try.zeroValue28
  t25 := Try.underlying64, a25 := Try.isAgg64, z25 := Try.sizeOf64, v25 := Try.zeroValue64
  t39 := Try.underlying79, a39 := Try.isAgg79, z39 := Try.sizeOf79, v39 := Try.zeroValue79
  t45 := Try.underlying93, a45 := Try.isAgg93, z45 := Try.sizeOf93, v45 := Try.zeroValue93
  t46 := Try.underlying94, a46 := Try.isAgg94, z46 := Try.sizeOf94, v46 := Try.zeroValue94
  t50 := Try.underlying98, a50 := Try.isAgg98, z50 := Try.sizeOf98, v50 := Try.zeroValue98
  t53 := Try.underlying101, a53 := Try.isAgg101, z53 := Try.sizeOf101, v53 := Try.zeroValue101
  t55 := Try.underlying103, a55 := Try.isAgg103, z55 := Try.sizeOf103, v55 := Try.zeroValue103
  t66 := Try.underlying117, a66 := Try.isAgg117, z66 := Try.sizeOf117, v66 := Try.zeroValue117
  t70 := Try.underlying121, a70 := Try.isAgg121, z70 := Try.sizeOf121, v70 := Try.zeroValue121
  t76 := Try.underlying132, a76 := Try.isAgg132, z76 := Try.sizeOf132, v76 := Try.zeroValue132
  t77 := Try.underlying133, a77 := Try.isAgg133, z77 := Try.sizeOf133, v77 := Try.zeroValue133 }
end Go.Proofs.Ytmnehekcealjhaa.O
