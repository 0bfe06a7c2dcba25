/- slices.Clone of texts, slices.SortFunc of leaves and of items: what lies proved over any program, laid at this program. -/
import Derived.Shelf.SlSortCmp.NoneTotal
import Derived.Shelf.Sort.Plain
import Derived.Shelf.Slices.Clone
import Derived.Test.YthlhopdlkkeohaaGreatDoorChecked
namespace Go.Proofs.YthlhopdlkkeohaaGreatDoor.O
open Go.RowKit Go.Shelf

/-- Which number the library's functions, types and variables have here. -/
def ren2 : Ren := ⟨fun | 16 => 38 | n => n, fun | 0 => 0 | 3 => 3 | 4 => 4 | 9 => 9 | 22 => 199 | 24 => 24 | n => n, fun | n => n⟩
theorem lays16 : Lays2.n16 Tryz.prog ren2 := {
  mixed := by kernel_rfl
  f16 := Tryz.func38.trans (congrArg some (by kernel_rfl))
  t4 := Tryz.underlying4, a4 := Tryz.isAgg4, z4 := Tryz.sizeOf4, v4 := Tryz.zeroValue4
  t9 := Tryz.underlying9, a9 := Tryz.isAgg9, z9 := Tryz.sizeOf9, v9 := Tryz.zeroValue9
  t24 := Tryz.underlying24, a24 := Tryz.isAgg24, z24 := Tryz.sizeOf24, v24 := Tryz.zeroValue24
  i9 := by kernel_rfl }
/-- Which number the library's functions and types have here. -/
def sortRen : Ren := ⟨fun | 6 => 73 | 15 => 70 | 14 => 118 | 28 => 115 | 29 => 116 | 20 => 144 | 21 => 145 | 22 => 146 | 23 => 147 | 24 => 148 | 25 => 149 | 26 => 150 | 27 => 151 | 46 => 176 | 47 => 139 | 48 => 140 | 49 => 177 | 50 => 178 | 57 => 192 | n => n, fun | 22 => 82 | 24 => 85 | 25 => 127 | 3 => 3 | 39 => 124 | 0 => 0 | 53 => 163 | 55 => 165 | 4 => 4 | 46 => 157 | 45 => 156 | 50 => 144 | 5 => 5 | 9 => 9 | 66 => 181 | 70 => 185 | 76 => 209 | 77 => 135 | n => n, fun | n => n⟩
theorem laySort : SlLaysF0.n6 Tryz.prog sortRen := {
  mixed := by kernel_rfl
  f6 := ⟨Tryz.f73.name, by decide, Tryz.func73.trans (congrArg some (by kernel_rfl))⟩
  f14 := ⟨Tryz.f118.name, by decide, Tryz.func118.trans (congrArg some (by kernel_rfl))⟩
  f15 := Tryz.func70.trans (congrArg some (by kernel_rfl))
  f20 := ⟨Tryz.f144.name, by decide, Tryz.func144.trans (congrArg some (by kernel_rfl))⟩
  f21 := ⟨Tryz.f145.name, by decide, Tryz.func145.trans (congrArg some (by kernel_rfl))⟩
  f22 := ⟨Tryz.f146.name, by decide, Tryz.func146.trans (congrArg some (by kernel_rfl))⟩
  f23 := ⟨Tryz.f147.name, by decide, Tryz.func147.trans (congrArg some (by kernel_rfl))⟩
  f24 := ⟨Tryz.f148.name, by decide, Tryz.func148.trans (congrArg some (by kernel_rfl))⟩
  f25 := ⟨Tryz.f149.name, by decide, Tryz.func149.trans (congrArg some (by kernel_rfl))⟩
  f26 := ⟨Tryz.f150.name, by decide, Tryz.func150.trans (congrArg some (by kernel_rfl))⟩
  f27 := ⟨Tryz.f151.name, by decide, Tryz.func151.trans (congrArg some (by kernel_rfl))⟩
  f28 := Tryz.func115.trans (congrArg some (by kernel_rfl))
  f29 := Tryz.func116.trans (congrArg some (by kernel_rfl))
  f46 := ⟨Tryz.f176.name, by decide, Tryz.func176.trans (congrArg some (by kernel_rfl))⟩
  f47 := Tryz.func139.trans (congrArg some (by kernel_rfl))
  f48 := Tryz.func140.trans (congrArg some (by kernel_rfl))
  f49 := ⟨Tryz.f177.name, by decide, Tryz.func177.trans (congrArg some (by kernel_rfl))⟩
  f50 := ⟨Tryz.f178.name, by decide, Tryz.func178.trans (congrArg some (by kernel_rfl))⟩
  f57 := ⟨Tryz.f192.name, by decide, Tryz.func192.trans (congrArg some (by kernel_rfl))⟩
  t0 := Tryz.underlying0, a0 := Tryz.isAgg0, z0 := Tryz.sizeOf0, v0 := Tryz.zeroValue0
  t3 := Tryz.underlying3, a3 := Tryz.isAgg3, z3 := Tryz.sizeOf3, v3 := Tryz.zeroValue3
  t4 := Tryz.underlying4, a4 := Tryz.isAgg4, z4 := Tryz.sizeOf4, v4 := Tryz.zeroValue4
  t5 := Tryz.underlying5, a5 := Tryz.isAgg5, z5 := Tryz.sizeOf5, v5 := Tryz.zeroValue5
  t9 := Tryz.underlying9, a9 := Tryz.isAgg9, z9 := Tryz.sizeOf9, v9 := Tryz.zeroValue9
  t22 := Tryz.underlying82, a22 := Tryz.isAgg82, z22 := Tryz.sizeOf82, v22 := Tryz.zeroValue82
  t25 := Tryz.underlying127, a25 := Tryz.isAgg127, z25 := Tryz.sizeOf127, v25 := Tryz.zeroValue127
  t39 := Tryz.underlying124, a39 := Tryz.isAgg124, z39 := Tryz.sizeOf124, v39 := Tryz.zeroValue124
  t45 := Tryz.underlying156, a45 := Tryz.isAgg156, z45 := Tryz.sizeOf156, v45 := Tryz.zeroValue156
  t46 := Tryz.underlying157, a46 := Tryz.isAgg157, z46 := Tryz.sizeOf157, v46 := Tryz.zeroValue157
  t50 := Tryz.underlying144, a50 := Tryz.isAgg144, z50 := Tryz.sizeOf144, v50 := Tryz.zeroValue144
  t53 := Tryz.underlying163, a53 := Tryz.isAgg163, z53 := Tryz.sizeOf163, v53 := Tryz.zeroValue163
  t55 := Tryz.underlying165, a55 := Tryz.isAgg165, z55 := Tryz.sizeOf165, v55 := Tryz.zeroValue165
  t66 := Tryz.underlying181, a66 := Tryz.isAgg181, z66 := Tryz.sizeOf181, v66 := Tryz.zeroValue181
  t70 := Tryz.underlying185, a70 := Tryz.isAgg185, z70 := Tryz.sizeOf185, v70 := Tryz.zeroValue185
  t76 := Tryz.underlying209, a76 := Tryz.isAgg209, z76 := Tryz.sizeOf209, v76 := Tryz.zeroValue209
  t77 := Tryz.underlying135, a77 := Tryz.isAgg135, z77 := Tryz.sizeOf135, v77 := Tryz.zeroValue135 }
/-- Which number the library's functions and types have here. -/
def sortRenI : Ren := ⟨fun | 6 => 33 | 15 => 70 | 14 => 69 | 28 => 115 | 29 => 116 | 20 => 107 | 21 => 108 | 22 => 109 | 23 => 110 | 24 => 111 | 25 => 112 | 26 => 113 | 27 => 114 | 46 => 138 | 47 => 139 | 48 => 140 | 49 => 141 | 50 => 142 | 57 => 174 | n => n, fun | 22 => 28 | 24 => 76 | 25 => 81 | 3 => 3 | 39 => 124 | 0 => 0 | 53 => 163 | 55 => 165 | 4 => 4 | 46 => 157 | 45 => 156 | 50 => 144 | 5 => 5 | 9 => 9 | 66 => 181 | 70 => 185 | 76 => 209 | 77 => 135 | n => n, fun | n => n⟩
theorem laySortI : SlLaysF0.n6 Tryz.prog sortRenI := {
  mixed := by kernel_rfl
  f6 := ⟨Tryz.f33.name, by decide, Tryz.func33.trans (congrArg some (by kernel_rfl))⟩
  f14 := ⟨Tryz.f69.name, by decide, Tryz.func69.trans (congrArg some (by kernel_rfl))⟩
  f15 := Tryz.func70.trans (congrArg some (by kernel_rfl))
  f20 := ⟨Tryz.f107.name, by decide, Tryz.func107.trans (congrArg some (by kernel_rfl))⟩
  f21 := ⟨Tryz.f108.name, by decide, Tryz.func108.trans (congrArg some (by kernel_rfl))⟩
  f22 := ⟨Tryz.f109.name, by decide, Tryz.func109.trans (congrArg some (by kernel_rfl))⟩
  f23 := ⟨Tryz.f110.name, by decide, Tryz.func110.trans (congrArg some (by kernel_rfl))⟩
  f24 := ⟨Tryz.f111.name, by decide, Tryz.func111.trans (congrArg some (by kernel_rfl))⟩
  f25 := ⟨Tryz.f112.name, by decide, Tryz.func112.trans (congrArg some (by kernel_rfl))⟩
  f26 := ⟨Tryz.f113.name, by decide, Tryz.func113.trans (congrArg some (by kernel_rfl))⟩
  f27 := ⟨Tryz.f114.name, by decide, Tryz.func114.trans (congrArg some (by kernel_rfl))⟩
  f28 := Tryz.func115.trans (congrArg some (by kernel_rfl))
  f29 := Tryz.func116.trans (congrArg some (by kernel_rfl))
  f46 := ⟨Tryz.f138.name, by decide, Tryz.func138.trans (congrArg some (by kernel_rfl))⟩
  f47 := Tryz.func139.trans (congrArg some (by kernel_rfl))
  f48 := Tryz.func140.trans (congrArg some (by kernel_rfl))
  f49 := ⟨Tryz.f141.name, by decide, Tryz.func141.trans (congrArg some (by kernel_rfl))⟩
  f50 := ⟨Tryz.f142.name, by decide, Tryz.func142.trans (congrArg some (by kernel_rfl))⟩
  f57 := ⟨Tryz.f174.name, by decide, Tryz.func174.trans (congrArg some (by kernel_rfl))⟩
  t0 := Tryz.underlying0, a0 := Tryz.isAgg0, z0 := Tryz.sizeOf0, v0 := Tryz.zeroValue0
  t3 := Tryz.underlying3, a3 := Tryz.isAgg3, z3 := Tryz.sizeOf3, v3 := Tryz.zeroValue3
  t4 := Tryz.underlying4, a4 := Tryz.isAgg4, z4 := Tryz.sizeOf4, v4 := Tryz.zeroValue4
  t5 := Tryz.underlying5, a5 := Tryz.isAgg5, z5 := Tryz.sizeOf5, v5 := Tryz.zeroValue5
  t9 := Tryz.underlying9, a9 := Tryz.isAgg9, z9 := Tryz.sizeOf9, v9 := Tryz.zeroValue9
  t22 := Tryz.underlying28, a22 := Tryz.isAgg28, z22 := Tryz.sizeOf28, v22 := Tryz.zeroValue28
  t25 := Tryz.underlying81, a25 := Tryz.isAgg81, z25 := Tryz.sizeOf81, v25 := Tryz.zeroValue81
  t39 := Tryz.underlying124, a39 := Tryz.isAgg124, z39 := Tryz.sizeOf124, v39 := Tryz.zeroValue124
  t45 := Tryz.underlying156, a45 := Tryz.isAgg156, z45 := Tryz.sizeOf156, v45 := Tryz.zeroValue156
  t46 := Tryz.underlying157, a46 := Tryz.isAgg157, z46 := Tryz.sizeOf157, v46 := Tryz.zeroValue157
  t50 := Tryz.underlying144, a50 := Tryz.isAgg144, z50 := Tryz.sizeOf144, v50 := Tryz.zeroValue144
  t53 := Tryz.underlying163, a53 := Tryz.isAgg163, z53 := Tryz.sizeOf163, v53 := Tryz.zeroValue163
  t55 := Tryz.underlying165, a55 := Tryz.isAgg165, z55 := Tryz.sizeOf165, v55 := Tryz.zeroValue165
  t66 := Tryz.underlying181, a66 := Tryz.isAgg181, z66 := Tryz.sizeOf181, v66 := Tryz.zeroValue181
  t70 := Tryz.underlying185, a70 := Tryz.isAgg185, z70 := Tryz.sizeOf185, v70 := Tryz.zeroValue185
  t76 := Tryz.underlying209, a76 := Tryz.isAgg209, z76 := Tryz.sizeOf209, v76 := Tryz.zeroValue209
  t77 := Tryz.underlying135, a77 := Tryz.isAgg135, z77 := Tryz.sizeOf135, v77 := Tryz.zeroValue135 }
end Go.Proofs.YthlhopdlkkeohaaGreatDoor.O
