/- slices.SortFunc, which lies proved over any program, laid at this program; what it does to a row of values. -/
import Derived.Shelf.SlSortCmp.NoneTotal
import Derived.Test.YtjbbhfkbhpagbaaVCompact
import Derived.Test.YtjbbhfkbhpagbaaLaySAll
namespace Go.Proofs.Ytjbbhfkbhpagbaa.O
open Go.RowKit Go.Shelf

/-- Which number the library's functions and types have here. -/
def sortRen : Ren := ⟨fun | 6 => 26 | 15 => 44 | 14 => 43 | 28 => 71 | 29 => 72 | 20 => 63 | 21 => 64 | 22 => 65 | 23 => 66 | 24 => 67 | 25 => 68 | 26 => 69 | 27 => 70 | 46 => 85 | 47 => 86 | 48 => 87 | 49 => 88 | 50 => 89 | 57 => 94 | n => n, fun | 22 => 37 | 24 => 26 | 25 => 71 | 3 => 3 | 39 => 86 | 0 => 0 | 53 => 111 | 55 => 113 | 4 => 4 | 46 => 104 | 45 => 103 | 50 => 108 | 5 => 5 | 9 => 9 | 66 => 121 | 70 => 125 | 76 => 131 | 77 => 132 | n => n, fun | n => n⟩
theorem laySort : SlLaysF0.n6 Try.prog sortRen := {
  mixed := by kernel_rfl
  f6 := ⟨Try.f26.name, by decide, Try.func26.trans (congrArg some (by kernel_rfl))⟩
  f14 := ⟨Try.f43.name, by decide, Try.func43.trans (congrArg some (by kernel_rfl))⟩
  f15 := Try.func44.trans (congrArg some (by kernel_rfl))
  f20 := ⟨Try.f63.name, by decide, Try.func63.trans (congrArg some (by kernel_rfl))⟩
  f21 := ⟨Try.f64.name, by decide, Try.func64.trans (congrArg some (by kernel_rfl))⟩
  f22 := ⟨Try.f65.name, by decide, Try.func65.trans (congrArg some (by kernel_rfl))⟩
  f23 := ⟨Try.f66.name, by decide, Try.func66.trans (congrArg some (by kernel_rfl))⟩
  f24 := ⟨Try.f67.name, by decide, Try.func67.trans (congrArg some (by kernel_rfl))⟩
  f25 := ⟨Try.f68.name, by decide, Try.func68.trans (congrArg some (by kernel_rfl))⟩
  f26 := ⟨Try.f69.name, by decide, Try.func69.trans (congrArg some (by kernel_rfl))⟩
  f27 := ⟨Try.f70.name, by decide, Try.func70.trans (congrArg some (by kernel_rfl))⟩
  f28 := Try.func71.trans (congrArg some (by kernel_rfl))
  f29 := Try.func72.trans (congrArg some (by kernel_rfl))
  f46 := ⟨Try.f85.name, by decide, Try.func85.trans (congrArg some (by kernel_rfl))⟩
  f47 := Try.func86.trans (congrArg some (by kernel_rfl))
  f48 := Try.func87.trans (congrArg some (by kernel_rfl))
  f49 := ⟨Try.f88.name, by decide, Try.func88.trans (congrArg some (by kernel_rfl))⟩
  f50 := ⟨Try.f89.name, by decide, Try.func89.trans (congrArg some (by kernel_rfl))⟩
  f57 := ⟨Try.f94.name, by decide, Try.func94.trans (congrArg some (by kernel_rfl))⟩
  t0 := Try.underlying0, a0 := Try.isAgg0, z0 := Try.sizeOf0, v0 := Try.zeroValue0
  t3 := Try.underlying3, a3 := Try.isAgg3, z3 := Try.sizeOf3, v3 := Try.zeroValue3
  t4 := Try.underlying4, a4 := Try.isAgg4, z4 := Try.sizeOf4, v4 := Try.zeroValue4
  t5 := Try.underlying5, a5 := Try.isAgg5, z5 := Try.sizeOf5, v5 := Try.zeroValue5
  t9 := Try.underlying9, a9 := Try.isAgg9, z9 := Try.sizeOf9, v9 := Try.zeroValue9
  t22 := Try.underlying37, a22 := Try.isAgg37, z22 := Try.sizeOf37, v22 := Try.zeroValue37
  t25 := Try.underlying71, a25 := Try.isAgg71, z25 := Try.sizeOf71, v25 := Try.zeroValue71
  t39 := Try.underlying86, a39 := Try.isAgg86, z39 := Try.sizeOf86, v39 := Try.zeroValue86
  t45 := Try.underlying103, a45 := Try.isAgg103, z45 := Try.sizeOf103, v45 := Try.zeroValue103
  t46 := Try.underlying104, a46 := Try.isAgg104, z46 := Try.sizeOf104, v46 := Try.zeroValue104
  t50 := Try.underlying108, a50 := Try.isAgg108, z50 := Try.sizeOf108, v50 := Try.zeroValue108
  t53 := Try.underlying111, a53 := Try.isAgg111, z53 := Try.sizeOf111, v53 := Try.zeroValue111
  t55 := Try.underlying113, a55 := Try.isAgg113, z55 := Try.sizeOf113, v55 := Try.zeroValue113
  t66 := Try.underlying121, a66 := Try.isAgg121, z66 := Try.sizeOf121, v66 := Try.zeroValue121
  t70 := Try.underlying125, a70 := Try.isAgg125, z70 := Try.sizeOf125, v70 := Try.zeroValue125
  t76 := Try.underlying131, a76 := Try.isAgg131, z76 := Try.sizeOf131, v76 := Try.zeroValue131
  t77 := Try.underlying132, a77 := Try.isAgg132, z77 := Try.sizeOf132, v77 := Try.zeroValue132 }

/-- How two values stand. -/
def cfV (x y : Rg.Va) : Int := Rg.comp x y
theorem ltV (x y : Rg.Va) : ltOf cfV x y = decide (Rg.lt x y) := by
  unfold ltOf cfV
  refine decide_eq_decide.2 ?_
  rcases Rg.tri x y with ⟨h, e⟩ | ⟨h, e⟩ | ⟨h, e⟩
  · exact ⟨fun _ => h, fun _ => by omega⟩
  · exact ⟨fun k => by omega, fun k => absurd h (Rg.lt_ne k)⟩
  · exact ⟨fun k => by omega, fun k => absurd h (Rg.lt_not k)⟩
theorem swoV : Go.Sort.SWO (ltOf cfV) where
  irrefl x := by rw [ltV, decide_eq_false_iff_not]; exact Rg.lt_irrefl x
  trans x y z h1 h2 := by
    rw [ltV, decide_eq_true_eq] at *
    exact Rg.lt_trans h1 h2
  ntrans x y z h1 h2 := by
    rw [ltV, decide_eq_false_iff_not] at *
    intro k
    rcases Rg.tri x y with ⟨h, _⟩ | ⟨h, _⟩ | ⟨h, _⟩
    · exact h1 h
    · subst h; exact h2 k
    · exact h2 (Rg.lt_trans h k)
theorem eqV (x y : Rg.Va) (h1 : ltOf cfV x y = false) (h2 : ltOf cfV y x = false) : x = y := by
  rw [ltV, decide_eq_false_iff_not] at h1 h2
  rcases Rg.tri x y with ⟨h, _⟩ | ⟨h, _⟩ | ⟨h, _⟩
  · exact absurd h h1
  · exact h
  · exact absurd h h2
/-- Values in their row. -/
def sorted (ds : List Rg.Va) : List Rg.Va := ds.mergeSort fun x y => !ltOf cfV y x

theorem grown3 (w : World) (a b c : Obj) : (((w.alloc a).alloc b).alloc c).drew = Go.Sort.grow (w.drewN 1) #[a, b, c] := by
  rw [Go.Sort.alloc_eq_grow, Go.Sort.alloc_eq_grow, Go.Sort.alloc_eq_grow, Go.Sort.grow_grow, Go.Sort.grow_grow]
  rfl
theorem cmpLaysV (g n : Nat) (w : World) : CmpLays Try.prog 27 #[] vcell 3 cfV g 0 n w := by
  intro m os dk _ x y
  refine (V.comp_exact x.1 x.2.1 x.2.2 y.1 y.2.1 y.2.2 _).mono ?_
  rintro e w' ⟨rfl, a, b, c, rfl⟩
  exact ⟨rfl, 1, #[a, b, c], grown3 _ _ _ _⟩
theorem holds_own {w : World} {g : Nat} {ds : List Rg.Va} (h : OwnR w g vcell 3 ds) : Go.Sort.HoldsK vcell 3 w g 0 ds.toArray := by
  intro j hj
  rw [Go.Sort.size_flatK] at hj
  have hj' : j < ds.length * 3 := by simpa using hj
  rw [Go.Sort.get_flatK _ _ _ _ hj, Nat.zero_add]
  have hk : j / 3 < ds.length := by omega
  have hm : j % 3 < 3 := Nat.mod_lt _ (by omega)
  have e1 : ds.toArray[j / 3]! = ds[j / 3] := by simp [hk]
  rw [e1]
  obtain ⟨a, b⟩ := h.2 (j / 3) hk
  have hl : j % 3 < (vcell ds[j / 3]).length := hm
  have e2 : (vcell ds[j / 3])[j % 3]! = (vcell ds[j / 3])[j % 3] := getElem!_pos (vcell ds[j / 3]) (j % 3) hl
  have ea : j / 3 * 3 + j % 3 = j := by omega
  have c := a (j % 3) _ (List.getElem?_eq_getElem hl)
  have d := (b (j % 3) hm).2
  rw [ea] at c d
  exact ⟨by rw [c, e2]; rfl, d⟩
theorem own_holds {w : World} {g : Nat} {ds : List Rg.Va} (hg : g < w.heap.size) (h : Go.Sort.HoldsK vcell 3 w g 0 ds.toArray) : OwnR w g vcell 3 ds := by
  refine ⟨hg, fun k hk => ?_⟩
  have e1 : ds.toArray[k]! = ds[k] := by simp [hk]
  have key : ∀ c, c < 3 → w.cell? ⟨g, k * 3 + c, none⟩ = (vcell ds[k])[c]? ∧ w.frozen? ⟨g, k * 3 + c, none⟩ = false := fun c hc => by
    have h0 := h.cell (i := k) (c := c) (by simpa using hk) hc
    rw [e1, Nat.zero_add] at h0
    have hl : c < (vcell ds[k]).length := hc
    refine ⟨h0.1.trans ?_, h0.2⟩
    rw [getElem!_pos (vcell ds[k]) c hl, List.getElem?_eq_getElem hl]
  refine ⟨fun j v hv => ?_, fun j hj => ?_⟩
  · have hj : j < 3 := (List.getElem?_eq_some_iff.1 hv).1
    exact (key j hj).1.trans hv
  · obtain ⟨a, b⟩ := key j hj
    exact ⟨by rw [a, List.getElem?_eq_getElem (show j < (vcell ds[k]).length from hj)]; rfl, b⟩
theorem below_sort {B : Nat} (w : World) {g : Nat} (hB : B ≤ g) (hg : g < w.heap.size) (n : Nat) (d : Array Rg.Va) (os : Array Obj) : Below B w (sortWorldK vcell 3 w g 0 n d os) := by
  refine ⟨rfl, rfl, rfl, size_sortWorldK_c vcell 3 w g 0 n d os, fun k hk => ?_⟩
  have hk' : k < w.heap.size := by omega
  unfold sortWorldK
  rw [Go.Sort.heap_grow_old _ _ (by rw [Go.Sort.size_putRowK]; exact hk')]
  unfold Go.Sort.putRowK Go.Sort.putRow Go.Sort.mapBlock
  show (w.heap.modify g _)[k]? = _
  rw [Array.getElem?_modify, if_neg (by omega)]
theorem eg37 : ∀ args w, (callFunc 27 args).run Try.prog w = .ok (.enter 27 args) w := enters_of Try.func27 (by kernel_rfl) rfl
theorem sorted_length (ds : List Rg.Va) : (sorted ds).length = ds.length := by simp [sorted]
theorem sortFunc_any (g cap : Nat) (ds : List Rg.Va) (B : Nat) (w : World) (hO : OwnR w g vcell 3 ds) (hn : ds.length ≤ 1000000) (hB : B ≤ g) :
    Calls Try.prog 26 #[.slice (some ⟨g, 0, none⟩) ds.length cap, .func (.func 27) #[] #[]] w fun e w' => e = .returned (.tuple #[]) ∧ OwnR w' g vcell 3 (sorted ds) ∧ Below B w w' := by
  have h := AnyQ.slices_SortFunc_total laySort 3 Try.isAgg26 Try.sizeOf26 vcell vcell_len vcell_one cfV swoV 27 #[] g 0 cap ds.toArray w eg37 (cmpLaysV g _ w) (holds_own hO) hO.1 (by simp; omega) eqV
  rw [List.size_toArray] at h
  change Calls Try.prog 26 _ _ _ at h
  refine h.mono ?_
  rintro e w' ⟨rfl, n, os, rfl⟩
  refine ⟨rfl, own_holds (Nat.lt_of_lt_of_le hO.1 (size_sortWorldK_c vcell 3 w g 0 n _ os)) ?_, below_sort w hB hO.1 n _ os⟩
  exact holdsK_sortWorldK_c vcell 3 w g 0 ds.toArray _ n os (holds_own hO) hO.1 (by simp)
theorem sortFunc_none (cap : Nat) (p : Option Addr) (w : World) : Calls Try.prog 26 #[.slice p 0 cap, .func (.func 27) #[] #[]] w fun e w' => e = .returned (.tuple #[]) ∧ w' = w :=
  AnyF.slices_SortFunc_none laySort p cap _ w
theorem sorted_row (ds : List Rg.Va) : (sorted ds).Pairwise fun a b => Rg.comp a b ≤ 0 := by
  have h := List.pairwise_mergeSort (le := fun x y => !ltOf cfV y x) (fun a b c h1 h2 => by
    have e1 : ltOf cfV b a = false := by simpa using h1
    have e2 : ltOf cfV c b = false := by simpa using h2
    simpa using swoV.ntrans _ _ _ e2 e1) (fun a b => by
    cases h : ltOf cfV b a
    · simp
    · have : ltOf cfV a b = false := by
        cases h2 : ltOf cfV a b
        · rfl
        · have := swoV.trans _ _ _ h h2
          rw [swoV.irrefl] at this
          cases this
      simp [this]) ds
  refine h.imp fun {x y} e => ?_
  have e' : ltOf cfV y x = false := by simpa using e
  rw [ltV, decide_eq_false_iff_not] at e'
  rcases Rg.tri x y with ⟨k, q⟩ | ⟨k, q⟩ | ⟨k, q⟩
  · omega
  · omega
  · exact absurd k e'
theorem sorted_mem (ds : List Rg.Va) (d : Rg.Va) : d ∈ sorted ds ↔ d ∈ ds := (List.mergeSort_perm ds _).mem_iff
theorem thin_sorted (ds : List Rg.Va) : Rg.thin (sorted ds) = Rg.vals ds := Rg.vals_thin (sorted_row ds) (sorted_mem ds)
end Go.Proofs.Ytjbbhfkbhpagbaa.O
