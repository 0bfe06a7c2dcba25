/- slices.SortFunc, which lies proved over any program, laid at this program; what it does to a row of values · The walks of reg's puts, Values and Conflict. -/
import Derived.Shelf.SlSortCmp.NoneTotal
import Derived.Test.YtmnjeffpfmfbiaaVCompact
import Derived.Test.YtmnjeffpfmfbiaaLaySAll
import Derived.Test.YtmnjeffpfmfbiaaAtPAll
/- slices.SortFunc, which lies proved over any program, laid at this program; what it does to a row of values. -/
namespace Go.Proofs.Ytmnjeffpfmfbiaa.O
open Go.RowKit Go.Shelf

/-- Which number the library's functions and types have here. -/
def sortRen : Ren := ⟨fun | 6 => 36 | 15 => 60 | 14 => 59 | 28 => 83 | 29 => 84 | 20 => 75 | 21 => 76 | 22 => 77 | 23 => 78 | 24 => 79 | 25 => 80 | 26 => 81 | 27 => 82 | 46 => 92 | 47 => 93 | 48 => 94 | 49 => 95 | 50 => 96 | 57 => 99 | n => n, fun | 22 => 37 | 24 => 33 | 25 => 50 | 3 => 3 | 39 => 99 | 0 => 0 | 53 => 122 | 55 => 124 | 4 => 4 | 46 => 115 | 45 => 114 | 50 => 119 | 5 => 5 | 9 => 9 | 66 => 130 | 70 => 134 | 76 => 137 | 77 => 100 | n => n, fun | n => n⟩
theorem laySort : SlLaysF0.n6 Try.prog sortRen := {
  mixed := by kernel_rfl
  f6 := ⟨Try.f36.name, by decide, Try.func36.trans (congrArg some (by kernel_rfl))⟩
  f14 := ⟨Try.f59.name, by decide, Try.func59.trans (congrArg some (by kernel_rfl))⟩
  f15 := Try.func60.trans (congrArg some (by kernel_rfl))
  f20 := ⟨Try.f75.name, by decide, Try.func75.trans (congrArg some (by kernel_rfl))⟩
  f21 := ⟨Try.f76.name, by decide, Try.func76.trans (congrArg some (by kernel_rfl))⟩
  f22 := ⟨Try.f77.name, by decide, Try.func77.trans (congrArg some (by kernel_rfl))⟩
  f23 := ⟨Try.f78.name, by decide, Try.func78.trans (congrArg some (by kernel_rfl))⟩
  f24 := ⟨Try.f79.name, by decide, Try.func79.trans (congrArg some (by kernel_rfl))⟩
  f25 := ⟨Try.f80.name, by decide, Try.func80.trans (congrArg some (by kernel_rfl))⟩
  f26 := ⟨Try.f81.name, by decide, Try.func81.trans (congrArg some (by kernel_rfl))⟩
  f27 := ⟨Try.f82.name, by decide, Try.func82.trans (congrArg some (by kernel_rfl))⟩
  f28 := Try.func83.trans (congrArg some (by kernel_rfl))
  f29 := Try.func84.trans (congrArg some (by kernel_rfl))
  f46 := ⟨Try.f92.name, by decide, Try.func92.trans (congrArg some (by kernel_rfl))⟩
  f47 := Try.func93.trans (congrArg some (by kernel_rfl))
  f48 := Try.func94.trans (congrArg some (by kernel_rfl))
  f49 := ⟨Try.f95.name, by decide, Try.func95.trans (congrArg some (by kernel_rfl))⟩
  f50 := ⟨Try.f96.name, by decide, Try.func96.trans (congrArg some (by kernel_rfl))⟩
  f57 := ⟨Try.f99.name, by decide, Try.func99.trans (congrArg some (by kernel_rfl))⟩
  t0 := Try.underlying0, a0 := Try.isAgg0, z0 := Try.sizeOf0, v0 := Try.zeroValue0
  t3 := Try.underlying3, a3 := Try.isAgg3, z3 := Try.sizeOf3, v3 := Try.zeroValue3
  t4 := Try.underlying4, a4 := Try.isAgg4, z4 := Try.sizeOf4, v4 := Try.zeroValue4
  t5 := Try.underlying5, a5 := Try.isAgg5, z5 := Try.sizeOf5, v5 := Try.zeroValue5
  t9 := Try.underlying9, a9 := Try.isAgg9, z9 := Try.sizeOf9, v9 := Try.zeroValue9
  t22 := Try.underlying37, a22 := Try.isAgg37, z22 := Try.sizeOf37, v22 := Try.zeroValue37
  t25 := Try.underlying50, a25 := Try.isAgg50, z25 := Try.sizeOf50, v25 := Try.zeroValue50
  t39 := Try.underlying99, a39 := Try.isAgg99, z39 := Try.sizeOf99, v39 := Try.zeroValue99
  t45 := Try.underlying114, a45 := Try.isAgg114, z45 := Try.sizeOf114, v45 := Try.zeroValue114
  t46 := Try.underlying115, a46 := Try.isAgg115, z46 := Try.sizeOf115, v46 := Try.zeroValue115
  t50 := Try.underlying119, a50 := Try.isAgg119, z50 := Try.sizeOf119, v50 := Try.zeroValue119
  t53 := Try.underlying122, a53 := Try.isAgg122, z53 := Try.sizeOf122, v53 := Try.zeroValue122
  t55 := Try.underlying124, a55 := Try.isAgg124, z55 := Try.sizeOf124, v55 := Try.zeroValue124
  t66 := Try.underlying130, a66 := Try.isAgg130, z66 := Try.sizeOf130, v66 := Try.zeroValue130
  t70 := Try.underlying134, a70 := Try.isAgg134, z70 := Try.sizeOf134, v70 := Try.zeroValue134
  t76 := Try.underlying137, a76 := Try.isAgg137, z76 := Try.sizeOf137, v76 := Try.zeroValue137
  t77 := Try.underlying100, a77 := Try.isAgg100, z77 := Try.sizeOf100, v77 := Try.zeroValue100 }

/-- How two values stand. -/
def cfV (x y : Rg.Va) : Int := Rg.comp x y
theorem ltV (x y : Rg.Va) : ltOf cfV x y = decide (Rg.lt x y) := by
  unfold ltOf cfV
  refine decide_eq_decide.2 ?_
  rcases Rg.tri x y with ⟨h, e⟩ | ⟨h, e⟩ | ⟨h, e⟩
  · exact ⟨fun _ => h, fun _ => by omega⟩
  · exact ⟨fun k => by omega, fun k => absurd h (Rg.lt_ne k)⟩
  · exact ⟨fun k => by omega, fun k => absurd h (Rg.lt_not k)⟩
theorem swoV : Go.Sort.SWO (ltOf cfV) where
  irrefl x := by rw [ltV, decide_eq_false_iff_not]; exact Rg.lt_irrefl x
  trans x y z h1 h2 := by
    rw [ltV, decide_eq_true_eq] at *
    exact Rg.lt_trans h1 h2
  ntrans x y z h1 h2 := by
    rw [ltV, decide_eq_false_iff_not] at *
    intro k
    rcases Rg.tri x y with ⟨h, _⟩ | ⟨h, _⟩ | ⟨h, _⟩
    · exact h1 h
    · subst h; exact h2 k
    · exact h2 (Rg.lt_trans h k)
theorem eqV (x y : Rg.Va) (h1 : ltOf cfV x y = false) (h2 : ltOf cfV y x = false) : x = y := by
  rw [ltV, decide_eq_false_iff_not] at h1 h2
  rcases Rg.tri x y with ⟨h, _⟩ | ⟨h, _⟩ | ⟨h, _⟩
  · exact absurd h h1
  · exact h
  · exact absurd h h2
/-- Values in their row. -/
def sorted (ds : List Rg.Va) : List Rg.Va := ds.mergeSort fun x y => !ltOf cfV y x

theorem grown3 (w : World) (a b c : Obj) : (((w.alloc a).alloc b).alloc c).drew = Go.Sort.grow (w.drewN 1) #[a, b, c] := by
  rw [Go.Sort.alloc_eq_grow, Go.Sort.alloc_eq_grow, Go.Sort.alloc_eq_grow, Go.Sort.grow_grow, Go.Sort.grow_grow]
  rfl
theorem cmpLaysV (g n : Nat) (w : World) : CmpLays Try.prog 37 #[] vcell 3 cfV g 0 n w := by
  intro m os dk _ x y
  refine (V.comp_exact x.1 x.2.1 x.2.2 y.1 y.2.1 y.2.2 _).mono ?_
  rintro e w' ⟨rfl, a, b, c, rfl⟩
  exact ⟨rfl, 1, #[a, b, c], grown3 _ _ _ _⟩
theorem holds_own {w : World} {g : Nat} {ds : List Rg.Va} (h : OwnR w g vcell 3 ds) : Go.Sort.HoldsK vcell 3 w g 0 ds.toArray := by
  intro j hj
  rw [Go.Sort.size_flatK] at hj
  have hj' : j < ds.length * 3 := by simpa using hj
  rw [Go.Sort.get_flatK _ _ _ _ hj, Nat.zero_add]
  have hk : j / 3 < ds.length := by omega
  have hm : j % 3 < 3 := Nat.mod_lt _ (by omega)
  have e1 : ds.toArray[j / 3]! = ds[j / 3] := by simp [hk]
  rw [e1]
  obtain ⟨a, b⟩ := h.2 (j / 3) hk
  have hl : j % 3 < (vcell ds[j / 3]).length := hm
  have e2 : (vcell ds[j / 3])[j % 3]! = (vcell ds[j / 3])[j % 3] := getElem!_pos (vcell ds[j / 3]) (j % 3) hl
  have ea : j / 3 * 3 + j % 3 = j := by omega
  have c := a (j % 3) _ (List.getElem?_eq_getElem hl)
  have d := (b (j % 3) hm).2
  rw [ea] at c d
  exact ⟨by rw [c, e2]; rfl, d⟩
theorem own_holds {w : World} {g : Nat} {ds : List Rg.Va} (hg : g < w.heap.size) (h : Go.Sort.HoldsK vcell 3 w g 0 ds.toArray) : OwnR w g vcell 3 ds := by
  refine ⟨hg, fun k hk => ?_⟩
  have e1 : ds.toArray[k]! = ds[k] := by simp [hk]
  have key : ∀ c, c < 3 → w.cell? ⟨g, k * 3 + c, none⟩ = (vcell ds[k])[c]? ∧ w.frozen? ⟨g, k * 3 + c, none⟩ = false := fun c hc => by
    have h0 := h.cell (i := k) (c := c) (by simpa using hk) hc
    rw [e1, Nat.zero_add] at h0
    have hl : c < (vcell ds[k]).length := hc
    refine ⟨h0.1.trans ?_, h0.2⟩
    rw [getElem!_pos (vcell ds[k]) c hl, List.getElem?_eq_getElem hl]
  refine ⟨fun j v hv => ?_, fun j hj => ?_⟩
  · have hj : j < 3 := (List.getElem?_eq_some_iff.1 hv).1
    exact (key j hj).1.trans hv
  · obtain ⟨a, b⟩ := key j hj
    exact ⟨by rw [a, List.getElem?_eq_getElem (show j < (vcell ds[k]).length from hj)]; rfl, b⟩
theorem below_sort {B : Nat} (w : World) {g : Nat} (hB : B ≤ g) (hg : g < w.heap.size) (n : Nat) (d : Array Rg.Va) (os : Array Obj) : Below B w (sortWorldK vcell 3 w g 0 n d os) := by
  refine ⟨rfl, rfl, rfl, size_sortWorldK_c vcell 3 w g 0 n d os, fun k hk => ?_⟩
  have hk' : k < w.heap.size := by omega
  unfold sortWorldK
  rw [Go.Sort.heap_grow_old _ _ (by rw [Go.Sort.size_putRowK]; exact hk')]
  unfold Go.Sort.putRowK Go.Sort.putRow Go.Sort.mapBlock
  show (w.heap.modify g _)[k]? = _
  rw [Array.getElem?_modify, if_neg (by omega)]
theorem eg37 : ∀ args w, (callFunc 37 args).run Try.prog w = .ok (.enter 37 args) w := enters_of Try.func37 (by kernel_rfl) rfl
theorem sorted_length (ds : List Rg.Va) : (sorted ds).length = ds.length := by simp [sorted]
theorem sortFunc_any (g cap : Nat) (ds : List Rg.Va) (B : Nat) (w : World) (hO : OwnR w g vcell 3 ds) (hn : ds.length ≤ 1000000) (hB : B ≤ g) :
    Calls Try.prog 36 #[.slice (some ⟨g, 0, none⟩) ds.length cap, .func (.func 37) #[] #[]] w fun e w' => e = .returned (.tuple #[]) ∧ OwnR w' g vcell 3 (sorted ds) ∧ Below B w w' := by
  have h := AnyQ.slices_SortFunc_total laySort 3 Try.isAgg33 Try.sizeOf33 vcell vcell_len vcell_one cfV swoV 37 #[] g 0 cap ds.toArray w eg37 (cmpLaysV g _ w) (holds_own hO) hO.1 (by simp; omega) eqV
  rw [List.size_toArray] at h
  change Calls Try.prog 36 _ _ _ at h
  refine h.mono ?_
  rintro e w' ⟨rfl, n, os, rfl⟩
  refine ⟨rfl, own_holds (Nat.lt_of_lt_of_le hO.1 (size_sortWorldK_c vcell 3 w g 0 n _ os)) ?_, below_sort w hB hO.1 n _ os⟩
  exact holdsK_sortWorldK_c vcell 3 w g 0 ds.toArray _ n os (holds_own hO) hO.1 (by simp)
theorem sortFunc_none (cap : Nat) (p : Option Addr) (w : World) : Calls Try.prog 36 #[.slice p 0 cap, .func (.func 37) #[] #[]] w fun e w' => e = .returned (.tuple #[]) ∧ w' = w :=
  AnyF.slices_SortFunc_none laySort p cap _ w
theorem sorted_row (ds : List Rg.Va) : (sorted ds).Pairwise fun a b => Rg.comp a b ≤ 0 := by
  have h := List.pairwise_mergeSort (le := fun x y => !ltOf cfV y x) (fun a b c h1 h2 => by
    have e1 : ltOf cfV b a = false := by simpa using h1
    have e2 : ltOf cfV c b = false := by simpa using h2
    simpa using swoV.ntrans _ _ _ e2 e1) (fun a b => by
    cases h : ltOf cfV b a
    · simp
    · have : ltOf cfV a b = false := by
        cases h2 : ltOf cfV a b
        · rfl
        · have := swoV.trans _ _ _ h h2
          rw [swoV.irrefl] at this
          cases this
      simp [this]) ds
  refine h.imp fun {x y} e => ?_
  have e' : ltOf cfV y x = false := by simpa using e
  rw [ltV, decide_eq_false_iff_not] at e'
  rcases Rg.tri x y with ⟨k, q⟩ | ⟨k, q⟩ | ⟨k, q⟩
  · omega
  · omega
  · exact absurd k e'
theorem sorted_mem (ds : List Rg.Va) (d : Rg.Va) : d ∈ sorted ds ↔ d ∈ ds := (List.mergeSort_perm ds _).mem_iff
theorem thin_sorted (ds : List Rg.Va) : Rg.thin (sorted ds) = Rg.vals ds := Rg.vals_thin (sorted_row ds) (sorted_mem ds)
end Go.Proofs.Ytmnjeffpfmfbiaa.O
/- The walks of reg's puts, Values and Conflict. -/
namespace Go.Proofs.Ytmnjeffpfmfbiaa.O
open Go.RowKit

theorem puts_any (v vp : Value) (xs : List IE) (p : List (List UInt8)) (w : World) (hv : itsE w v xs) (hp : U.strsAt w vp p) (hn : xs.length ≤ 1000000) (hs : ShortI xs) :
    Calls Try.prog 27 #[v, vp] w fun e w' => ∃ r, e = .returned r ∧ itsE w' r (xs.filter fun x => isAt p 1 x.1) ∧ Below w.heap.size w w' := by
  have HC := at_any v vp xs p 1 w hv hp hn hs
  clear hv hp hs
  go_enter Try.func27, Try.ntmps27
  go_wp2_with (go_at_call 52; refine HC.mono ?_; rintro e w1 ⟨r, rfl, hr, hb1⟩)
  go_ret
  exact ⟨_, rfl, hr, hb1⟩
theorem vx_step {xs : List IE} {k : Nat} (hk : k < xs.length) : (xs.take (k + 1)).map (fun x => Rg.valOf x.1) = (xs.take k).map (fun x => Rg.valOf x.1) ++ [Rg.valOf xs[k].1] := by
  rw [List.take_succ_eq_append_getElem hk, List.map_append]
  rfl
/-- The values of a list of items. -/
abbrev vof (xs : List IE) : List Rg.Va := xs.map fun x => Rg.valOf x.1

set_option maxRecDepth 20000 in
set_option maxHeartbeats 2000000 in
theorem values_any (v vp : Value) (xs : List IE) (p : List (List UInt8)) (w : World) (hv : itsE w v xs) (hp : U.strsAt w vp p) (hn : xs.length ≤ 1000000) (hs : ShortI xs) :
    Calls Try.prog 14 #[v, vp] w fun e w' => ∃ r, e = .returned r ∧ valsIn w' r (Rg.vals (vof (xs.filter fun x => isAt p 1 x.1))) ∧ Below w.heap.size w w' := by
  have HC := puts_any v vp xs p w hv hp hn hs
  have hn1 : (xs.filter fun x => isAt p 1 x.1).length ≤ 1000000 := Nat.le_trans (List.length_filter_le _ _) hn
  clear hv hp hs hn
  generalize (xs.filter fun x => isAt p 1 x.1) = ys at *
  go_enter Try.func14, Try.ntmps14
  go_wp2_with (go_at_call 27; refine HC.mono ?_; rintro e w1 ⟨r, rfl, hr, hb1⟩; obtain ⟨ao, cap, rfl⟩ := hr.slice; have HV : Hid (itsE w1 (.slice ao ys.length cap) ys) := hr; obtain ⟨n, hn0⟩ : ∃ n, n = ys.length := ⟨_, rfl⟩; have HN : Hid (n = ys.length) := hn0; rw [← hn0] at HV hn1 ⊢; clear hr hn0)
  go_loopw [5, 7, 12] (fun out _ i wr => ∃ (k : Nat) (acc : List Rg.Va), k ≤ n ∧ i = .int .i64 k ∧ Hid (acc = vof (ys.take k)) ∧ wr.ownsRow w1.heap.size 33 3 out acc.length (acc.flatMap vcell) ∧ Below w1.heap.size w1 wr) (fun _ _ i _ => n - (intOf i).toNat)
  case atStart => exact ⟨0, [], by omega, rfl, rfl, World.ownsRow_nil _ _ _ _, Below.refl _ _⟩
  case round =>
    obtain ⟨k, acc, hk, rfl, HA, hown, hbw⟩ := hrel
    by_cases hkn : k < n
    · have hkx : k < ys.length := by rw [← HN.out]; exact hkn
      obtain ⟨ad, rfl, -, hX, hXi⟩ := (HV.out.on hbw).get hkx
      have HS : Hid (acc ++ [Rg.valOf ys[k].1] = vof (ys.take (k + 1))) := by
        have h : acc ++ [Rg.valOf ys[k].1] = vof (ys.take (k + 1)) := by rw [vof, vx_step hkx, HA.out]
        exact h
      have hroom : acc.length + 1 ≤ 1000001 := by
        have h2 := congrArg List.length HA.out
        rw [List.length_map, List.length_take] at h2
        omega
      generalize ys[k] = x at *
      obtain ⟨it, pv, sv⟩ := x
      obtain ⟨pa, pn, pc, rfl⟩ := strs_slice hXi.1
      obtain ⟨sa, sn, sc, rfl⟩ := refs_slice hXi.2
      obtain ⟨c0, c1, c2, c3, c4, c5, c6, c7, c8, c9, c10⟩ := hX
      have bA := below_new2 wr (.cells (icell (it, .slice pa pn pc, .slice sa sn sc)).toArray 68) (vO (Rg.valOf it))
      have e1 : (wr.alloc (.cells (icell (it, .slice pa pn pc, .slice sa sn sc)).toArray 68)).heap.size = wr.heap.size + 1 := by simp
      have hnew := new_val (wr.alloc (.cells (icell (it, .slice pa pn pc, .slice sa sn sc)).toArray 68)) (Rg.valOf it)
      rw [e1] at hnew
      have hown1 := own_on hown bA
      have hbw1 := bchain hbw bA
      clear HA hXi
      go_wp2_with (first
        | (at_builtin; refine append_val rfl _ _ rfl w1.heap.size hbw1.size _ acc rfl hown1 _ (Rg.valOf it) rfl hnew hroom ?_; intro v2 w3 hown2 hg2)
        | go_in)
      go_roundw
      case rel => exact ⟨k + 1, acc ++ [Rg.valOf it], by omega, by go_num, HS, hown2, hbw1.grown hg2 hbw1.size (fun g e => (hown1.lt g e).1)⟩
      case measure => simp [intOf]; omega
    · have HE : Hid (acc = vof ys) := by
        have h := HA.out
        rw [List.take_of_length_le (by rw [← HN.out]; omega)] at h
        exact h
      have hlen : acc.length ≤ 1000000 := by
        have h2 := congrArg List.length HE.out
        rw [vof, List.length_map] at h2
        have := HN.out
        omega
      rcases valsOwn hown with ⟨rfl, rfl⟩ | ⟨g, c, rfl, hO, h1, h2, h3⟩
      · go_wp2_with (first
          | (go_at_call 38; refine (compact_none _).mono ?_; rintro e w3 ⟨rfl, hw3⟩; have hw3 := hw3.symm; subst hw3)
          | (go_at_call 36; refine (sortFunc_none 0 none _).mono ?_; rintro e w2 ⟨rfl, hw2⟩; have hw2 := hw2.symm; subst hw2))
        go_ret
        exact ⟨_, rfl, by rw [← HE.out]; exact valsIn_nil _, bchain hb1 hbw⟩
      · have HSo := sortFunc_any g c acc w1.heap.size wr hO hlen h3
        have HCo : ∀ W, Below w1.heap.size w1 W → OwnR W g vcell 3 (sorted acc) → Calls Try.prog 38 #[.slice (some ⟨g, 0, none⟩) acc.length c] W fun e w' => e = .returned (.slice (some ⟨g, 0, none⟩) (Rg.thin (sorted acc)).length c) ∧ OwnR w' g vcell 3 (Rg.thin (sorted acc)) ∧ Below w1.heap.size w1 w' := fun W hW hO2 => by
          have h := compact_any g c (sorted acc) w1.heap.size w1 W hW h3 hO2 (by rw [sorted_length]; exact hlen) (by rw [sorted_length]; exact h1) h2
          rw [sorted_length] at h
          exact h
        have HL : Hid ((Rg.thin (sorted acc)).length ≤ c) := by
          have h := Nat.le_trans (Nat.le_trans (Rg.thin_len (sorted acc)) (Nat.le_of_eq (sorted_length acc))) h1
          exact h
        clear hO hown
        generalize acc.length = m at *
        go_wp2_with (first
          | (go_at_call 38; refine (HCo _ (hbw.trans hb2) hO2).mono ?_; rintro e w3 ⟨rfl, hO3, hb3⟩)
          | (go_at_call 36; refine HSo.mono ?_; rintro e w2 ⟨rfl, hO2, hb2⟩))
        go_ret
        refine ⟨_, rfl, ?_, hb1.trans (hb3.mono hb1.size)⟩
        rw [← HE.out, ← thin_sorted]
        exact hO3.rows vcell_len HL.out

set_option maxRecDepth 20000 in
theorem conflict_any (v vp : Value) (xs : List IE) (p : List (List UInt8)) (w : World) (hv : itsE w v xs) (hp : U.strsAt w vp p) (hn : xs.length ≤ 1000000) (hs : ShortI xs) :
    Calls Try.prog 15 #[v, vp] w fun e w' => e = .returned (.bool (decide (1 < (Rg.vals (vof (xs.filter fun x => isAt p 1 x.1))).length))) ∧ Below w.heap.size w w' := by
  have HC := values_any v vp xs p w hv hp hn hs
  clear hv hp hs
  generalize Rg.vals (vof (xs.filter fun x => isAt p 1 x.1)) = vs at *
  go_enter Try.func15, Try.ntmps15
  go_wp2_with (go_at_call 14; refine HC.mono ?_; rintro e w1 ⟨r, rfl, hr, hb1⟩; obtain ⟨ao, cap, rfl⟩ := hr.slice)
  go_ret
  refine ⟨ret_bool ?_, hb1⟩
  congr 1
  exact propext ⟨fun h => by omega, fun h => by omega⟩
end Go.Proofs.Ytmnjeffpfmfbiaa.O
