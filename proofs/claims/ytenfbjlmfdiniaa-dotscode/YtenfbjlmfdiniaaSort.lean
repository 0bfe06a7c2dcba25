/- slices.SortFunc, which lies proved over any program, laid at this program; what it does to a row of dots. -/
import Derived.Shelf.SlSortCmp.NoneTotal
import Derived.Test.YtenfbjlmfdiniaaCompact
namespace Go.Proofs.Ytenfbjlmfdiniaa
open Go.RowKit Go.Shelf

/-- Which number the library's functions and types have here. -/
def sortRen : Ren := ⟨fun | 6 => 85 | 15 => 99 | 14 => 98 | 28 => 111 | 29 => 112 | 20 => 103 | 21 => 104 | 22 => 105 | 23 => 106 | 24 => 107 | 25 => 108 | 26 => 109 | 27 => 110 | 46 => 113 | 47 => 114 | 48 => 115 | 49 => 116 | 50 => 117 | 57 => 118 | n => n, fun | 22 => 24 | 24 => 28 | 25 => 62 | 3 => 3 | 39 => 94 | 0 => 0 | 53 => 121 | 55 => 123 | 4 => 4 | 46 => 115 | 45 => 114 | 50 => 63 | 5 => 5 | 9 => 9 | 66 => 124 | 70 => 128 | 76 => 130 | 77 => 131 | n => n, fun | n => n⟩
theorem laySort : SlLaysF0.n6 Try.prog sortRen := {
  mixed := by kernel_rfl
  f6 := ⟨Try.f85.name, by decide, Try.func85.trans (congrArg some (by kernel_rfl))⟩
  f14 := ⟨Try.f98.name, by decide, Try.func98.trans (congrArg some (by kernel_rfl))⟩
  f15 := Try.func99.trans (congrArg some (by kernel_rfl))
  f20 := ⟨Try.f103.name, by decide, Try.func103.trans (congrArg some (by kernel_rfl))⟩
  f21 := ⟨Try.f104.name, by decide, Try.func104.trans (congrArg some (by kernel_rfl))⟩
  f22 := ⟨Try.f105.name, by decide, Try.func105.trans (congrArg some (by kernel_rfl))⟩
  f23 := ⟨Try.f106.name, by decide, Try.func106.trans (congrArg some (by kernel_rfl))⟩
  f24 := ⟨Try.f107.name, by decide, Try.func107.trans (congrArg some (by kernel_rfl))⟩
  f25 := ⟨Try.f108.name, by decide, Try.func108.trans (congrArg some (by kernel_rfl))⟩
  f26 := ⟨Try.f109.name, by decide, Try.func109.trans (congrArg some (by kernel_rfl))⟩
  f27 := ⟨Try.f110.name, by decide, Try.func110.trans (congrArg some (by kernel_rfl))⟩
  f28 := Try.func111.trans (congrArg some (by kernel_rfl))
  f29 := Try.func112.trans (congrArg some (by kernel_rfl))
  f46 := ⟨Try.f113.name, by decide, Try.func113.trans (congrArg some (by kernel_rfl))⟩
  f47 := Try.func114.trans (congrArg some (by kernel_rfl))
  f48 := Try.func115.trans (congrArg some (by kernel_rfl))
  f49 := ⟨Try.f116.name, by decide, Try.func116.trans (congrArg some (by kernel_rfl))⟩
  f50 := ⟨Try.f117.name, by decide, Try.func117.trans (congrArg some (by kernel_rfl))⟩
  f57 := ⟨Try.f118.name, by decide, Try.func118.trans (congrArg some (by kernel_rfl))⟩
  t0 := Try.underlying0, a0 := Try.isAgg0, z0 := Try.sizeOf0, v0 := Try.zeroValue0
  t3 := Try.underlying3, a3 := Try.isAgg3, z3 := Try.sizeOf3, v3 := Try.zeroValue3
  t4 := Try.underlying4, a4 := Try.isAgg4, z4 := Try.sizeOf4, v4 := Try.zeroValue4
  t5 := Try.underlying5, a5 := Try.isAgg5, z5 := Try.sizeOf5, v5 := Try.zeroValue5
  t9 := Try.underlying9, a9 := Try.isAgg9, z9 := Try.sizeOf9, v9 := Try.zeroValue9
  t22 := Try.underlying24, a22 := Try.isAgg24, z22 := Try.sizeOf24, v22 := Try.zeroValue24
  t25 := Try.underlying62, a25 := Try.isAgg62, z25 := Try.sizeOf62, v25 := Try.zeroValue62
  t39 := Try.underlying94, a39 := Try.isAgg94, z39 := Try.sizeOf94, v39 := Try.zeroValue94
  t45 := Try.underlying114, a45 := Try.isAgg114, z45 := Try.sizeOf114, v45 := Try.zeroValue114
  t46 := Try.underlying115, a46 := Try.isAgg115, z46 := Try.sizeOf115, v46 := Try.zeroValue115
  t50 := Try.underlying63, a50 := Try.isAgg63, z50 := Try.sizeOf63, v50 := Try.zeroValue63
  t53 := Try.underlying121, a53 := Try.isAgg121, z53 := Try.sizeOf121, v53 := Try.zeroValue121
  t55 := Try.underlying123, a55 := Try.isAgg123, z55 := Try.sizeOf123, v55 := Try.zeroValue123
  t66 := Try.underlying124, a66 := Try.isAgg124, z66 := Try.sizeOf124, v66 := Try.zeroValue124
  t70 := Try.underlying128, a70 := Try.isAgg128, z70 := Try.sizeOf128, v70 := Try.zeroValue128
  t76 := Try.underlying130, a76 := Try.isAgg130, z76 := Try.sizeOf130, v76 := Try.zeroValue130
  t77 := Try.underlying131, a77 := Try.isAgg131, z77 := Try.sizeOf131, v77 := Try.zeroValue131 }

/-- A dot's cells. -/
def encD (d : D) : List Value := [.int .i64 d.1, .int .i64 d.2]
/-- How two dots stand. -/
def cfD (x y : D) : Int := Dt.comp x.1 x.2 y.1 y.2
theorem ltD (x y : D) : ltOf cfD x y = decide (x.1 < y.1 ∨ (x.1 = y.1 ∧ x.2 < y.2)) := by
  unfold ltOf cfD
  rcases Dt.comp_cases x.1 x.2 y.1 y.2 with ⟨h, e⟩ | ⟨h1, h2, e⟩ | ⟨h, e⟩ <;> rw [e]
  · rw [decide_eq_true h]; rfl
  · symm; rw [show decide ((0 : Int) < 0) = false from rfl, decide_eq_false_iff_not]; omega
  · symm; rw [show decide ((1 : Int) < 0) = false from rfl, decide_eq_false_iff_not]; omega
theorem swoD : Go.Sort.SWO (ltOf cfD) where
  irrefl x := by rw [ltD]; simp
  trans x y z h1 h2 := by rw [ltD] at *; simp at *; omega
  ntrans x y z h1 h2 := by rw [ltD] at *; simp at *; omega
theorem eqD (x y : D) (h1 : ltOf cfD x y = false) (h2 : ltOf cfD y x = false) : x = y := by
  rw [ltD] at *
  simp at h1 h2
  obtain ⟨a, b⟩ := x
  obtain ⟨c, d⟩ := y
  simp at h1 h2
  have e1 : a = c := by omega
  subst e1
  have e2 : b = d := by omega
  rw [e2]
/-- Dots in their row. -/
def sorted (ds : List D) : List D := ds.mergeSort fun x y => !ltOf cfD y x

theorem grown3 (w : World) (a b c : Obj) : (((w.alloc a).alloc b).alloc c).drew = Go.Sort.grow (w.drewN 1) #[a, b, c] := by
  rw [Go.Sort.alloc_eq_grow, Go.Sort.alloc_eq_grow, Go.Sort.alloc_eq_grow, Go.Sort.grow_grow, Go.Sort.grow_grow]
  rfl
theorem cmpLaysD (g n : Nat) (w : World) : CmpLays Try.prog 47 #[] encD 2 cfD g 0 n w := by
  intro m os dk _ x y
  refine (comp_exact x.1 x.2 y.1 y.2 _).mono ?_
  rintro e w' ⟨rfl, a, b, c, rfl⟩
  exact ⟨rfl, 1, #[a, b, c], grown3 _ _ _ _⟩
theorem holds_own {w : World} {g : Nat} {ds : List D} (h : Own w g ds) : Go.Sort.HoldsK encD 2 w g 0 ds.toArray := by
  intro j hj
  rw [Go.Sort.size_flatK] at hj
  have hj' : j < ds.length * 2 := by simpa using hj
  rw [Go.Sort.get_flatK _ _ _ _ hj, Nat.zero_add]
  have hk : j / 2 < ds.length := by omega
  have e1 : ds.toArray[j / 2]! = ds[j / 2] := by simp [hk]
  rw [e1]
  obtain ⟨a, b, c, d⟩ := h.2 (j / 2) hk
  rcases Nat.mod_two_eq_zero_or_one j with e | e
  · rw [show j / 2 * 2 = j by omega] at a c
    rw [a, e]
    exact ⟨rfl, c⟩
  · rw [show j / 2 * 2 + 1 = j by omega] at b d
    rw [b, e]
    exact ⟨rfl, d⟩
theorem own_holds {w : World} {g : Nat} {ds : List D} (hg : g < w.heap.size) (h : Go.Sort.HoldsK encD 2 w g 0 ds.toArray) : Own w g ds := by
  refine ⟨hg, fun k hk => ?_⟩
  have h0 := h.cell (i := k) (c := 0) (by simpa using hk) (by omega)
  have h1 := h.cell (i := k) (c := 1) (by simpa using hk) (by omega)
  have e1 : ds.toArray[k]! = ds[k] := by simp [hk]
  rw [e1, Nat.zero_add] at h0 h1
  exact ⟨h0.1, h1.1, h0.2, h1.2⟩
theorem below_sort {B : Nat} (w : World) {g : Nat} (hB : B ≤ g) (hg : g < w.heap.size) (n : Nat) (d : Array D) (os : Array Obj) : Below B w (sortWorldK encD 2 w g 0 n d os) := by
  refine ⟨rfl, rfl, rfl, size_sortWorldK_c encD 2 w g 0 n d os, fun k hk => ?_⟩
  have hk' : k < w.heap.size := by omega
  unfold sortWorldK
  rw [Go.Sort.heap_grow_old _ _ (by rw [Go.Sort.size_putRowK]; exact hk')]
  unfold Go.Sort.putRowK Go.Sort.putRow Go.Sort.mapBlock
  show (w.heap.modify g _)[k]? = _
  rw [Array.getElem?_modify, if_neg (by omega)]
theorem eg47 : ∀ args w, (callFunc 47 args).run Try.prog w = .ok (.enter 47 args) w := enters_of Try.func47 (by kernel_rfl) rfl
theorem sorted_length (ds : List D) : (sorted ds).length = ds.length := by simp [sorted]

theorem sortFunc_any (g cap : Nat) (ds : List D) (B : Nat) (w : World) (hO : Own w g ds) (hn : ds.length ≤ 1000000) (hB : B ≤ g) :
    Calls Try.prog 85 #[.slice (some ⟨g, 0, none⟩) ds.length cap, .func (.func 47) #[] #[]] w fun e w' => e = .returned (.tuple #[]) ∧ Own w' g (sorted ds) ∧ Below B w w' := by
  have h := AnyQ.slices_SortFunc_total laySort 2 Try.isAgg28 Try.sizeOf28 encD (fun _ => rfl) (fun x v hv => by simp [encD] at hv; rcases hv with rfl | rfl <;> rfl) cfD swoD 47 #[] g 0 cap ds.toArray w eg47 (cmpLaysD g _ w) (holds_own hO) hO.1 (by simp; omega) eqD
  rw [List.size_toArray] at h
  change Calls Try.prog 85 _ _ _ at h
  refine h.mono ?_
  rintro e w' ⟨rfl, n, os, rfl⟩
  refine ⟨rfl, own_holds (Nat.lt_of_lt_of_le hO.1 (size_sortWorldK_c encD 2 w g 0 n _ os)) ?_, below_sort w hB hO.1 n _ os⟩
  exact holdsK_sortWorldK_c encD 2 w g 0 ds.toArray _ n os (holds_own hO) hO.1 (by simp)
theorem sortFunc_none (cap : Nat) (p : Option Addr) (w : World) : Calls Try.prog 85 #[.slice p 0 cap, .func (.func 47) #[] #[]] w fun e w' => e = .returned (.tuple #[]) ∧ w' = w :=
  AnyF.slices_SortFunc_none laySort p cap _ w
end Go.Proofs.Ytenfbjlmfdiniaa
