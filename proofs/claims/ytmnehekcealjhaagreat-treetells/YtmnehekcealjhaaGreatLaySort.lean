/- slices.Sort of texts and of numbers, slices.Compact of both, slices.Clone of texts, slices.SortFunc: what lies proved over any program, laid at this program. -/
import Derived.Shelf.SlSortCmp.NoneTotal
import Derived.Shelf.Sort.Plain
import Derived.Shelf.Slices.In.SortNone
import Derived.Shelf.Slices.CompactI
import Derived.Shelf.Slices.CompactS
import Derived.Shelf.Slices.Clone
import Derived.Test.YtmnehekcealjhaaGreatChecked
namespace Go.Proofs.YtmnehekcealjhaaGreat.O
open Go.RowKit Go.Shelf

/-- Which number the library's functions, types and variables have here. -/
def ren : Ren := ⟨fun | 125 => 59 | 128 => 83 | 129 => 84 | 189 => 29 | 190 => 40 | 194 => 41 | 215 => 115 | 216 => 80 | 257 => 58 | 258 => 63 | 294 => 74 | 295 => 75 | 296 => 76 | 297 => 77 | 298 => 78 | 299 => 79 | 300 => 81 | 301 => 82 | 302 => 94 | 303 => 95 | 304 => 96 | 305 => 97 | 306 => 98 | 307 => 99 | 308 => 100 | 309 => 101 | 310 => 102 | 328 => 110 | 329 => 111 | 330 => 112 | 331 => 113 | 332 => 114 | 333 => 120 | 334 => 121 | 335 => 122 | 336 => 123 | 343 => 129 | 344 => 131 | n => n, fun | 0 => 0 | 3 => 3 | 4 => 4 | 5 => 5 | 9 => 9 | 28 => 32 | 31 => 24 | 46 => 99 | 51 => 123 | 53 => 125 | 131 => 120 | 182 => 114 | 183 => 115 | 218 => 142 | 222 => 146 | 228 => 157 | 229 => 158 | n => n, fun | n => n⟩
theorem lay189 : Lays.n189 Tryz.prog ren := {
  mixed := by kernel_rfl
  f125 := Tryz.func59.trans (congrArg some (by kernel_rfl))
  f128 := Tryz.func83.trans (congrArg some (by kernel_rfl))
  f129 := Tryz.func84.trans (congrArg some (by kernel_rfl))
  f189 := Tryz.func29.trans (congrArg some (by kernel_rfl))
  f215 := Tryz.func115.trans (congrArg some (by kernel_rfl))
  f216 := Tryz.func80.trans (congrArg some (by kernel_rfl))
  f257 := Tryz.func58.trans (congrArg some (by kernel_rfl))
  f294 := Tryz.func74.trans (congrArg some (by kernel_rfl))
  f295 := Tryz.func75.trans (congrArg some (by kernel_rfl))
  f296 := Tryz.func76.trans (congrArg some (by kernel_rfl))
  f297 := Tryz.func77.trans (congrArg some (by kernel_rfl))
  f298 := Tryz.func78.trans (congrArg some (by kernel_rfl))
  f299 := Tryz.func79.trans (congrArg some (by kernel_rfl))
  f300 := Tryz.func81.trans (congrArg some (by kernel_rfl))
  f301 := Tryz.func82.trans (congrArg some (by kernel_rfl))
  f328 := Tryz.func110.trans (congrArg some (by kernel_rfl))
  f329 := Tryz.func111.trans (congrArg some (by kernel_rfl))
  f330 := Tryz.func112.trans (congrArg some (by kernel_rfl))
  f331 := Tryz.func113.trans (congrArg some (by kernel_rfl))
  f332 := Tryz.func114.trans (congrArg some (by kernel_rfl))
  f343 := Tryz.func129.trans (congrArg some (by kernel_rfl))
  t0 := Tryz.underlying0, a0 := Tryz.isAgg0, z0 := Tryz.sizeOf0, v0 := Tryz.zeroValue0
  t3 := Tryz.underlying3, a3 := Tryz.isAgg3, z3 := Tryz.sizeOf3, v3 := Tryz.zeroValue3
  t4 := Tryz.underlying4, a4 := Tryz.isAgg4, z4 := Tryz.sizeOf4, v4 := Tryz.zeroValue4
  t5 := Tryz.underlying5, a5 := Tryz.isAgg5, z5 := Tryz.sizeOf5, v5 := Tryz.zeroValue5
  t9 := Tryz.underlying9, a9 := Tryz.isAgg9, z9 := Tryz.sizeOf9, v9 := Tryz.zeroValue9
  t28 := Tryz.underlying32, a28 := Tryz.isAgg32, z28 := Tryz.sizeOf32, v28 := Tryz.zeroValue32
  t46 := Tryz.underlying99, a46 := Tryz.isAgg99, z46 := Tryz.sizeOf99, v46 := Tryz.zeroValue99
  t51 := Tryz.underlying123, a51 := Tryz.isAgg123, z51 := Tryz.sizeOf123, v51 := Tryz.zeroValue123
  t53 := Tryz.underlying125, a53 := Tryz.isAgg125, z53 := Tryz.sizeOf125, v53 := Tryz.zeroValue125
  t131 := Tryz.underlying120, a131 := Tryz.isAgg120, z131 := Tryz.sizeOf120, v131 := Tryz.zeroValue120
  t182 := Tryz.underlying114, a182 := Tryz.isAgg114, z182 := Tryz.sizeOf114, v182 := Tryz.zeroValue114
  t183 := Tryz.underlying115, a183 := Tryz.isAgg115, z183 := Tryz.sizeOf115, v183 := Tryz.zeroValue115
  t218 := Tryz.underlying142, a218 := Tryz.isAgg142, z218 := Tryz.sizeOf142, v218 := Tryz.zeroValue142
  t222 := Tryz.underlying146, a222 := Tryz.isAgg146, z222 := Tryz.sizeOf146, v222 := Tryz.zeroValue146
  t228 := Tryz.underlying157, a228 := Tryz.isAgg157, z228 := Tryz.sizeOf157, v228 := Tryz.zeroValue157
  t229 := Tryz.underlying158, a229 := Tryz.isAgg158, z229 := Tryz.sizeOf158, v229 := Tryz.zeroValue158 }
theorem lay190 : Lays.n190 Tryz.prog ren := {
  mixed := by kernel_rfl
  f125 := Tryz.func59.trans (congrArg some (by kernel_rfl))
  f128 := Tryz.func83.trans (congrArg some (by kernel_rfl))
  f129 := Tryz.func84.trans (congrArg some (by kernel_rfl))
  f190 := Tryz.func40.trans (congrArg some (by kernel_rfl))
  f258 := Tryz.func63.trans (congrArg some (by kernel_rfl))
  f302 := Tryz.func94.trans (congrArg some (by kernel_rfl))
  f303 := Tryz.func95.trans (congrArg some (by kernel_rfl))
  f304 := Tryz.func96.trans (congrArg some (by kernel_rfl))
  f305 := Tryz.func97.trans (congrArg some (by kernel_rfl))
  f306 := Tryz.func98.trans (congrArg some (by kernel_rfl))
  f307 := Tryz.func99.trans (congrArg some (by kernel_rfl))
  f308 := Tryz.func100.trans (congrArg some (by kernel_rfl))
  f309 := Tryz.func101.trans (congrArg some (by kernel_rfl))
  f310 := Tryz.func102.trans (congrArg some (by kernel_rfl))
  f329 := Tryz.func111.trans (congrArg some (by kernel_rfl))
  f330 := Tryz.func112.trans (congrArg some (by kernel_rfl))
  f333 := Tryz.func120.trans (congrArg some (by kernel_rfl))
  f334 := Tryz.func121.trans (congrArg some (by kernel_rfl))
  f335 := Tryz.func122.trans (congrArg some (by kernel_rfl))
  f336 := Tryz.func123.trans (congrArg some (by kernel_rfl))
  f344 := Tryz.func131.trans (congrArg some (by kernel_rfl))
  t0 := Tryz.underlying0, a0 := Tryz.isAgg0, z0 := Tryz.sizeOf0, v0 := Tryz.zeroValue0
  t3 := Tryz.underlying3, a3 := Tryz.isAgg3, z3 := Tryz.sizeOf3, v3 := Tryz.zeroValue3
  t4 := Tryz.underlying4, a4 := Tryz.isAgg4, z4 := Tryz.sizeOf4, v4 := Tryz.zeroValue4
  t5 := Tryz.underlying5, a5 := Tryz.isAgg5, z5 := Tryz.sizeOf5, v5 := Tryz.zeroValue5
  t9 := Tryz.underlying9, a9 := Tryz.isAgg9, z9 := Tryz.sizeOf9, v9 := Tryz.zeroValue9
  t31 := Tryz.underlying24, a31 := Tryz.isAgg24, z31 := Tryz.sizeOf24, v31 := Tryz.zeroValue24
  t46 := Tryz.underlying99, a46 := Tryz.isAgg99, z46 := Tryz.sizeOf99, v46 := Tryz.zeroValue99
  t51 := Tryz.underlying123, a51 := Tryz.isAgg123, z51 := Tryz.sizeOf123, v51 := Tryz.zeroValue123
  t53 := Tryz.underlying125, a53 := Tryz.isAgg125, z53 := Tryz.sizeOf125, v53 := Tryz.zeroValue125
  t131 := Tryz.underlying120, a131 := Tryz.isAgg120, z131 := Tryz.sizeOf120, v131 := Tryz.zeroValue120
  t182 := Tryz.underlying114, a182 := Tryz.isAgg114, z182 := Tryz.sizeOf114, v182 := Tryz.zeroValue114
  t183 := Tryz.underlying115, a183 := Tryz.isAgg115, z183 := Tryz.sizeOf115, v183 := Tryz.zeroValue115
  t218 := Tryz.underlying142, a218 := Tryz.isAgg142, z218 := Tryz.sizeOf142, v218 := Tryz.zeroValue142
  t222 := Tryz.underlying146, a222 := Tryz.isAgg146, z222 := Tryz.sizeOf146, v222 := Tryz.zeroValue146
  t228 := Tryz.underlying157, a228 := Tryz.isAgg157, z228 := Tryz.sizeOf157, v228 := Tryz.zeroValue157
  t229 := Tryz.underlying158, a229 := Tryz.isAgg158, z229 := Tryz.sizeOf158, v229 := Tryz.zeroValue158 }
theorem lay194 : Lays.n194 Tryz.prog ren := {
  mixed := by kernel_rfl
  f194 := Tryz.func41.trans (congrArg some (by kernel_rfl))
  t0 := Tryz.underlying0, a0 := Tryz.isAgg0, z0 := Tryz.sizeOf0, v0 := Tryz.zeroValue0
  t3 := Tryz.underlying3, a3 := Tryz.isAgg3, z3 := Tryz.sizeOf3, v3 := Tryz.zeroValue3
  t4 := Tryz.underlying4, a4 := Tryz.isAgg4, z4 := Tryz.sizeOf4, v4 := Tryz.zeroValue4
  t9 := Tryz.underlying9, a9 := Tryz.isAgg9, z9 := Tryz.sizeOf9, v9 := Tryz.zeroValue9
  t31 := Tryz.underlying24, a31 := Tryz.isAgg24, z31 := Tryz.sizeOf24, v31 := Tryz.zeroValue24 }
/-- Which number the library's functions, types and variables have here. -/
def ren2 : Ren := ⟨fun | 16 => 32 | 20 => 30 | n => n, fun | 0 => 0 | 3 => 3 | 4 => 4 | 9 => 9 | 22 => 32 | 24 => 24 | n => n, fun | n => n⟩
theorem lays20 : Lays2.n20 Tryz.prog ren2 := {
  mixed := by kernel_rfl
  f20 := Tryz.func30.trans (congrArg some (by kernel_rfl))
  t0 := Tryz.underlying0, a0 := Tryz.isAgg0, z0 := Tryz.sizeOf0, v0 := Tryz.zeroValue0
  t3 := Tryz.underlying3, a3 := Tryz.isAgg3, z3 := Tryz.sizeOf3, v3 := Tryz.zeroValue3
  t4 := Tryz.underlying4, a4 := Tryz.isAgg4, z4 := Tryz.sizeOf4, v4 := Tryz.zeroValue4
  t22 := Tryz.underlying32, a22 := Tryz.isAgg32, z22 := Tryz.sizeOf32, v22 := Tryz.zeroValue32
  i3 := by kernel_rfl }
theorem lays16 : Lays2.n16 Tryz.prog ren2 := {
  mixed := by kernel_rfl
  f16 := Tryz.func32.trans (congrArg some (by kernel_rfl))
  t4 := Tryz.underlying4, a4 := Tryz.isAgg4, z4 := Tryz.sizeOf4, v4 := Tryz.zeroValue4
  t9 := Tryz.underlying9, a9 := Tryz.isAgg9, z9 := Tryz.sizeOf9, v9 := Tryz.zeroValue9
  t24 := Tryz.underlying24, a24 := Tryz.isAgg24, z24 := Tryz.sizeOf24, v24 := Tryz.zeroValue24
  i9 := by kernel_rfl }
/-- Which number the library's functions and types have here. -/
def sortRen : Ren := ⟨fun | 6 => 33 | 15 => 59 | 14 => 61 | 28 => 83 | 29 => 84 | 20 => 85 | 21 => 86 | 22 => 87 | 23 => 88 | 24 => 89 | 25 => 90 | 26 => 91 | 27 => 92 | 46 => 116 | 47 => 111 | 48 => 112 | 49 => 117 | 50 => 118 | 57 => 130 | n => n, fun | 22 => 36 | 24 => 77 | 25 => 81 | 3 => 3 | 39 => 99 | 0 => 0 | 53 => 123 | 55 => 125 | 4 => 4 | 46 => 115 | 45 => 114 | 50 => 120 | 5 => 5 | 9 => 9 | 66 => 142 | 70 => 146 | 76 => 157 | 77 => 158 | n => n, fun | n => n⟩
theorem laySort : SlLaysF0.n6 Tryz.prog sortRen := {
  mixed := by kernel_rfl
  f6 := ⟨Tryz.f33.name, by decide, Tryz.func33.trans (congrArg some (by kernel_rfl))⟩
  f14 := ⟨Tryz.f61.name, by decide, Tryz.func61.trans (congrArg some (by kernel_rfl))⟩
  f15 := Tryz.func59.trans (congrArg some (by kernel_rfl))
  f20 := ⟨Tryz.f85.name, by decide, Tryz.func85.trans (congrArg some (by kernel_rfl))⟩
  f21 := ⟨Tryz.f86.name, by decide, Tryz.func86.trans (congrArg some (by kernel_rfl))⟩
  f22 := ⟨Tryz.f87.name, by decide, Tryz.func87.trans (congrArg some (by kernel_rfl))⟩
  f23 := ⟨Tryz.f88.name, by decide, Tryz.func88.trans (congrArg some (by kernel_rfl))⟩
  f24 := ⟨Tryz.f89.name, by decide, Tryz.func89.trans (congrArg some (by kernel_rfl))⟩
  f25 := ⟨Tryz.f90.name, by decide, Tryz.func90.trans (congrArg some (by kernel_rfl))⟩
  f26 := ⟨Tryz.f91.name, by decide, Tryz.func91.trans (congrArg some (by kernel_rfl))⟩
  f27 := ⟨Tryz.f92.name, by decide, Tryz.func92.trans (congrArg some (by kernel_rfl))⟩
  f28 := Tryz.func83.trans (congrArg some (by kernel_rfl))
  f29 := Tryz.func84.trans (congrArg some (by kernel_rfl))
  f46 := ⟨Tryz.f116.name, by decide, Tryz.func116.trans (congrArg some (by kernel_rfl))⟩
  f47 := Tryz.func111.trans (congrArg some (by kernel_rfl))
  f48 := Tryz.func112.trans (congrArg some (by kernel_rfl))
  f49 := ⟨Tryz.f117.name, by decide, Tryz.func117.trans (congrArg some (by kernel_rfl))⟩
  f50 := ⟨Tryz.f118.name, by decide, Tryz.func118.trans (congrArg some (by kernel_rfl))⟩
  f57 := ⟨Tryz.f130.name, by decide, Tryz.func130.trans (congrArg some (by kernel_rfl))⟩
  t0 := Tryz.underlying0, a0 := Tryz.isAgg0, z0 := Tryz.sizeOf0, v0 := Tryz.zeroValue0
  t3 := Tryz.underlying3, a3 := Tryz.isAgg3, z3 := Tryz.sizeOf3, v3 := Tryz.zeroValue3
  t4 := Tryz.underlying4, a4 := Tryz.isAgg4, z4 := Tryz.sizeOf4, v4 := Tryz.zeroValue4
  t5 := Tryz.underlying5, a5 := Tryz.isAgg5, z5 := Tryz.sizeOf5, v5 := Tryz.zeroValue5
  t9 := Tryz.underlying9, a9 := Tryz.isAgg9, z9 := Tryz.sizeOf9, v9 := Tryz.zeroValue9
  t22 := Tryz.underlying36, a22 := Tryz.isAgg36, z22 := Tryz.sizeOf36, v22 := Tryz.zeroValue36
  t25 := Tryz.underlying81, a25 := Tryz.isAgg81, z25 := Tryz.sizeOf81, v25 := Tryz.zeroValue81
  t39 := Tryz.underlying99, a39 := Tryz.isAgg99, z39 := Tryz.sizeOf99, v39 := Tryz.zeroValue99
  t45 := Tryz.underlying114, a45 := Tryz.isAgg114, z45 := Tryz.sizeOf114, v45 := Tryz.zeroValue114
  t46 := Tryz.underlying115, a46 := Tryz.isAgg115, z46 := Tryz.sizeOf115, v46 := Tryz.zeroValue115
  t50 := Tryz.underlying120, a50 := Tryz.isAgg120, z50 := Tryz.sizeOf120, v50 := Tryz.zeroValue120
  t53 := Tryz.underlying123, a53 := Tryz.isAgg123, z53 := Tryz.sizeOf123, v53 := Tryz.zeroValue123
  t55 := Tryz.underlying125, a55 := Tryz.isAgg125, z55 := Tryz.sizeOf125, v55 := Tryz.zeroValue125
  t66 := Tryz.underlying142, a66 := Tryz.isAgg142, z66 := Tryz.sizeOf142, v66 := Tryz.zeroValue142
  t70 := Tryz.underlying146, a70 := Tryz.isAgg146, z70 := Tryz.sizeOf146, v70 := Tryz.zeroValue146
  t76 := Tryz.underlying157, a76 := Tryz.isAgg157, z76 := Tryz.sizeOf157, v76 := Tryz.zeroValue157
  t77 := Tryz.underlying158, a77 := Tryz.isAgg158, z77 := Tryz.sizeOf158, v77 := Tryz.zeroValue158 }
end Go.Proofs.YtmnehekcealjhaaGreat.O
