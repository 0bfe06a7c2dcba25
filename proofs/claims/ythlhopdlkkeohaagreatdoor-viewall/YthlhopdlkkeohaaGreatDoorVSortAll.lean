/- slices.SortFunc, which lies proved over any program, laid at this program; what it does to a row of values · The walks of reg's puts, Values and Conflict · A value in its place, as the document's walk goes · The walk of the document's Insert · The walk of the document's Values · What reg tells, both sides, by the items alone · One reference appended to a row; the walk of the document's SameRefs at equal lists · The walks of bag's adds, Adds and Has · The walk of the document's Adds. -/
import Derived.Shelf.SlSortCmp.NoneTotal
import Derived.Test.YthlhopdlkkeohaaGreatDoorVCompactAll
import Derived.Test.YthlhopdlkkeohaaGreatDoorAtP2All
import Derived.Test.YthlhopdlkkeohaaGreatDoorThinsAll
import Derived.Test.YthlhopdlkkeohaaGreatDoorRegs
import Derived.Test.YthlhopdlkkeohaaGreatDoorViewsAll
/- slices.SortFunc, which lies proved over any program, laid at this program; what it does to a row of values. -/
namespace Go.Proofs.YthlhopdlkkeohaaGreatDoor.O
open Go.RowKit Go.Shelf

/-- Which number the library's functions and types have here. -/
def sortRenV : Ren := ⟨fun | 6 => 81 | 15 => 70 | 14 => 121 | 28 => 115 | 29 => 116 | 20 => 154 | 21 => 155 | 22 => 156 | 23 => 157 | 24 => 158 | 25 => 159 | 26 => 160 | 27 => 161 | 46 => 180 | 47 => 139 | 48 => 140 | 49 => 181 | 50 => 182 | 57 => 193 | n => n, fun | 22 => 36 | 24 => 61 | 25 => 133 | 3 => 3 | 39 => 124 | 0 => 0 | 53 => 163 | 55 => 165 | 4 => 4 | 46 => 157 | 45 => 156 | 50 => 144 | 5 => 5 | 9 => 9 | 66 => 181 | 70 => 185 | 76 => 209 | 77 => 135 | n => n, fun | n => n⟩
theorem laySortV : SlLaysF0.n6 Tryz.prog sortRenV := {
  mixed := by kernel_rfl
  f6 := ⟨Tryz.f81.name, by decide, Tryz.func81.trans (congrArg some (by kernel_rfl))⟩
  f14 := ⟨Tryz.f121.name, by decide, Tryz.func121.trans (congrArg some (by kernel_rfl))⟩
  f15 := Tryz.func70.trans (congrArg some (by kernel_rfl))
  f20 := ⟨Tryz.f154.name, by decide, Tryz.func154.trans (congrArg some (by kernel_rfl))⟩
  f21 := ⟨Tryz.f155.name, by decide, Tryz.func155.trans (congrArg some (by kernel_rfl))⟩
  f22 := ⟨Tryz.f156.name, by decide, Tryz.func156.trans (congrArg some (by kernel_rfl))⟩
  f23 := ⟨Tryz.f157.name, by decide, Tryz.func157.trans (congrArg some (by kernel_rfl))⟩
  f24 := ⟨Tryz.f158.name, by decide, Tryz.func158.trans (congrArg some (by kernel_rfl))⟩
  f25 := ⟨Tryz.f159.name, by decide, Tryz.func159.trans (congrArg some (by kernel_rfl))⟩
  f26 := ⟨Tryz.f160.name, by decide, Tryz.func160.trans (congrArg some (by kernel_rfl))⟩
  f27 := ⟨Tryz.f161.name, by decide, Tryz.func161.trans (congrArg some (by kernel_rfl))⟩
  f28 := Tryz.func115.trans (congrArg some (by kernel_rfl))
  f29 := Tryz.func116.trans (congrArg some (by kernel_rfl))
  f46 := ⟨Tryz.f180.name, by decide, Tryz.func180.trans (congrArg some (by kernel_rfl))⟩
  f47 := Tryz.func139.trans (congrArg some (by kernel_rfl))
  f48 := Tryz.func140.trans (congrArg some (by kernel_rfl))
  f49 := ⟨Tryz.f181.name, by decide, Tryz.func181.trans (congrArg some (by kernel_rfl))⟩
  f50 := ⟨Tryz.f182.name, by decide, Tryz.func182.trans (congrArg some (by kernel_rfl))⟩
  f57 := ⟨Tryz.f193.name, by decide, Tryz.func193.trans (congrArg some (by kernel_rfl))⟩
  t0 := Tryz.underlying0, a0 := Tryz.isAgg0, z0 := Tryz.sizeOf0, v0 := Tryz.zeroValue0
  t3 := Tryz.underlying3, a3 := Tryz.isAgg3, z3 := Tryz.sizeOf3, v3 := Tryz.zeroValue3
  t4 := Tryz.underlying4, a4 := Tryz.isAgg4, z4 := Tryz.sizeOf4, v4 := Tryz.zeroValue4
  t5 := Tryz.underlying5, a5 := Tryz.isAgg5, z5 := Tryz.sizeOf5, v5 := Tryz.zeroValue5
  t9 := Tryz.underlying9, a9 := Tryz.isAgg9, z9 := Tryz.sizeOf9, v9 := Tryz.zeroValue9
  t22 := Tryz.underlying36, a22 := Tryz.isAgg36, z22 := Tryz.sizeOf36, v22 := Tryz.zeroValue36
  t25 := Tryz.underlying133, a25 := Tryz.isAgg133, z25 := Tryz.sizeOf133, v25 := Tryz.zeroValue133
  t39 := Tryz.underlying124, a39 := Tryz.isAgg124, z39 := Tryz.sizeOf124, v39 := Tryz.zeroValue124
  t45 := Tryz.underlying156, a45 := Tryz.isAgg156, z45 := Tryz.sizeOf156, v45 := Tryz.zeroValue156
  t46 := Tryz.underlying157, a46 := Tryz.isAgg157, z46 := Tryz.sizeOf157, v46 := Tryz.zeroValue157
  t50 := Tryz.underlying144, a50 := Tryz.isAgg144, z50 := Tryz.sizeOf144, v50 := Tryz.zeroValue144
  t53 := Tryz.underlying163, a53 := Tryz.isAgg163, z53 := Tryz.sizeOf163, v53 := Tryz.zeroValue163
  t55 := Tryz.underlying165, a55 := Tryz.isAgg165, z55 := Tryz.sizeOf165, v55 := Tryz.zeroValue165
  t66 := Tryz.underlying181, a66 := Tryz.isAgg181, z66 := Tryz.sizeOf181, v66 := Tryz.zeroValue181
  t70 := Tryz.underlying185, a70 := Tryz.isAgg185, z70 := Tryz.sizeOf185, v70 := Tryz.zeroValue185
  t76 := Tryz.underlying209, a76 := Tryz.isAgg209, z76 := Tryz.sizeOf209, v76 := Tryz.zeroValue209
  t77 := Tryz.underlying135, a77 := Tryz.isAgg135, z77 := Tryz.sizeOf135, v77 := Tryz.zeroValue135 }

/-- How two values stand. -/
def cfV (x y : Rg.Va) : Int := Rg.comp x y
theorem ltV (x y : Rg.Va) : ltOf cfV x y = decide (Rg.lt x y) := by
  unfold ltOf cfV
  refine decide_eq_decide.2 ?_
  rcases Rg.tri x y with ⟨h, e⟩ | ⟨h, e⟩ | ⟨h, e⟩
  · exact ⟨fun _ => h, fun _ => by omega⟩
  · exact ⟨fun k => by omega, fun k => absurd h (Rg.lt_ne k)⟩
  · exact ⟨fun k => by omega, fun k => absurd h (Rg.lt_not k)⟩
theorem swoV : Go.Sort.SWO (ltOf cfV) where
  irrefl x := by rw [ltV, decide_eq_false_iff_not]; exact Rg.lt_irrefl x
  trans x y z h1 h2 := by
    rw [ltV, decide_eq_true_eq] at *
    exact Rg.lt_trans h1 h2
  ntrans x y z h1 h2 := by
    rw [ltV, decide_eq_false_iff_not] at *
    intro k
    rcases Rg.tri x y with ⟨h, _⟩ | ⟨h, _⟩ | ⟨h, _⟩
    · exact h1 h
    · subst h; exact h2 k
    · exact h2 (Rg.lt_trans h k)
theorem eqV (x y : Rg.Va) (h1 : ltOf cfV x y = false) (h2 : ltOf cfV y x = false) : x = y := by
  rw [ltV, decide_eq_false_iff_not] at h1 h2
  rcases Rg.tri x y with ⟨h, _⟩ | ⟨h, _⟩ | ⟨h, _⟩
  · exact absurd h h1
  · exact h
  · exact absurd h h2
/-- Values in their row. -/
def sorted (ds : List Rg.Va) : List Rg.Va := ds.mergeSort fun x y => !ltOf cfV y x

theorem grown3 (w : World) (a b c : Obj) : (((w.alloc a).alloc b).alloc c).drew = Go.Sort.grow (w.drewN 1) #[a, b, c] := by
  rw [Go.Sort.alloc_eq_grow, Go.Sort.alloc_eq_grow, Go.Sort.alloc_eq_grow, Go.Sort.grow_grow, Go.Sort.grow_grow]
  rfl
theorem cmpLaysV (g n : Nat) (w : World) : CmpLays Tryz.prog 82 #[] vcell 3 cfV g 0 n w := by
  intro m os dk _ x y
  refine (V.comp_exact x.1 x.2.1 x.2.2 y.1 y.2.1 y.2.2 _).mono ?_
  rintro e w' ⟨rfl, a, b, c, rfl⟩
  exact ⟨rfl, 1, #[a, b, c], grown3 _ _ _ _⟩
theorem holds_own {w : World} {g : Nat} {ds : List Rg.Va} (h : OwnR w g vcell 3 ds) : Go.Sort.HoldsK vcell 3 w g 0 ds.toArray := by
  intro j hj
  rw [Go.Sort.size_flatK] at hj
  have hj' : j < ds.length * 3 := by simpa using hj
  rw [Go.Sort.get_flatK _ _ _ _ hj, Nat.zero_add]
  have hk : j / 3 < ds.length := by omega
  have hm : j % 3 < 3 := Nat.mod_lt _ (by omega)
  have e1 : ds.toArray[j / 3]! = ds[j / 3] := by simp [hk]
  rw [e1]
  obtain ⟨a, b⟩ := h.2 (j / 3) hk
  have hl : j % 3 < (vcell ds[j / 3]).length := hm
  have e2 : (vcell ds[j / 3])[j % 3]! = (vcell ds[j / 3])[j % 3] := getElem!_pos (vcell ds[j / 3]) (j % 3) hl
  have ea : j / 3 * 3 + j % 3 = j := by omega
  have c := a (j % 3) _ (List.getElem?_eq_getElem hl)
  have d := (b (j % 3) hm).2
  rw [ea] at c d
  exact ⟨by rw [c, e2]; rfl, d⟩
theorem own_holds {w : World} {g : Nat} {ds : List Rg.Va} (hg : g < w.heap.size) (h : Go.Sort.HoldsK vcell 3 w g 0 ds.toArray) : OwnR w g vcell 3 ds := by
  refine ⟨hg, fun k hk => ?_⟩
  have e1 : ds.toArray[k]! = ds[k] := by simp [hk]
  have key : ∀ c, c < 3 → w.cell? ⟨g, k * 3 + c, none⟩ = (vcell ds[k])[c]? ∧ w.frozen? ⟨g, k * 3 + c, none⟩ = false := fun c hc => by
    have h0 := h.cell (i := k) (c := c) (by simpa using hk) hc
    rw [e1, Nat.zero_add] at h0
    have hl : c < (vcell ds[k]).length := hc
    refine ⟨h0.1.trans ?_, h0.2⟩
    rw [getElem!_pos (vcell ds[k]) c hl, List.getElem?_eq_getElem hl]
  refine ⟨fun j v hv => ?_, fun j hj => ?_⟩
  · have hj : j < 3 := (List.getElem?_eq_some_iff.1 hv).1
    exact (key j hj).1.trans hv
  · obtain ⟨a, b⟩ := key j hj
    exact ⟨by rw [a, List.getElem?_eq_getElem (show j < (vcell ds[k]).length from hj)]; rfl, b⟩
theorem below_sort {B : Nat} (w : World) {g : Nat} (hB : B ≤ g) (hg : g < w.heap.size) (n : Nat) (d : Array Rg.Va) (os : Array Obj) : Below B w (sortWorldK vcell 3 w g 0 n d os) := by
  refine ⟨rfl, rfl, rfl, size_sortWorldK_c vcell 3 w g 0 n d os, fun k hk => ?_⟩
  have hk' : k < w.heap.size := by omega
  unfold sortWorldK
  rw [Go.Sort.heap_grow_old _ _ (by rw [Go.Sort.size_putRowK]; exact hk')]
  unfold Go.Sort.putRowK Go.Sort.putRow Go.Sort.mapBlock
  show (w.heap.modify g _)[k]? = _
  rw [Array.getElem?_modify, if_neg (by omega)]
theorem eg37 : ∀ args w, (callFunc 82 args).run Tryz.prog w = .ok (.enter 82 args) w := enters_of Tryz.func82 (by kernel_rfl) rfl
theorem sorted_length (ds : List Rg.Va) : (sorted ds).length = ds.length := by simp [sorted]
theorem sortFunc_any (g cap : Nat) (ds : List Rg.Va) (B : Nat) (w : World) (hO : OwnR w g vcell 3 ds) (hn : ds.length ≤ 1000000) (hB : B ≤ g) :
    Calls Tryz.prog 81 #[.slice (some ⟨g, 0, none⟩) ds.length cap, .func (.func 82) #[] #[]] w fun e w' => e = .returned (.tuple #[]) ∧ OwnR w' g vcell 3 (sorted ds) ∧ Below B w w' := by
  have h := AnyQ.slices_SortFunc_total laySortV 3 Tryz.isAgg61 Tryz.sizeOf61 vcell vcell_len vcell_one cfV swoV 82 #[] g 0 cap ds.toArray w eg37 (cmpLaysV g _ w) (holds_own hO) hO.1 (by simp; omega) eqV
  rw [List.size_toArray] at h
  change Calls Tryz.prog 81 _ _ _ at h
  refine h.mono ?_
  rintro e w' ⟨rfl, n, os, rfl⟩
  refine ⟨rfl, own_holds (Nat.lt_of_lt_of_le hO.1 (size_sortWorldK_c vcell 3 w g 0 n _ os)) ?_, below_sort w hB hO.1 n _ os⟩
  exact holdsK_sortWorldK_c vcell 3 w g 0 ds.toArray _ n os (holds_own hO) hO.1 (by simp)
theorem sortFunc_none (cap : Nat) (p : Option Addr) (w : World) : Calls Tryz.prog 81 #[.slice p 0 cap, .func (.func 82) #[] #[]] w fun e w' => e = .returned (.tuple #[]) ∧ w' = w :=
  AnyF.slices_SortFunc_none laySortV p cap _ w
theorem sorted_row (ds : List Rg.Va) : (sorted ds).Pairwise fun a b => Rg.comp a b ≤ 0 := by
  have h := List.pairwise_mergeSort (le := fun x y => !ltOf cfV y x) (fun a b c h1 h2 => by
    have e1 : ltOf cfV b a = false := by simpa using h1
    have e2 : ltOf cfV c b = false := by simpa using h2
    simpa using swoV.ntrans _ _ _ e2 e1) (fun a b => by
    cases h : ltOf cfV b a
    · simp
    · have : ltOf cfV a b = false := by
        cases h2 : ltOf cfV a b
        · rfl
        · have := swoV.trans _ _ _ h h2
          rw [swoV.irrefl] at this
          cases this
      simp [this]) ds
  refine h.imp fun {x y} e => ?_
  have e' : ltOf cfV y x = false := by simpa using e
  rw [ltV, decide_eq_false_iff_not] at e'
  rcases Rg.tri x y with ⟨k, q⟩ | ⟨k, q⟩ | ⟨k, q⟩
  · omega
  · omega
  · exact absurd k e'
theorem sorted_mem (ds : List Rg.Va) (d : Rg.Va) : d ∈ sorted ds ↔ d ∈ ds := (List.mergeSort_perm ds _).mem_iff
theorem thin_sorted (ds : List Rg.Va) : Rg.thin (sorted ds) = Rg.vals ds := Rg.vals_thin (sorted_row ds) (sorted_mem ds)
end Go.Proofs.YthlhopdlkkeohaaGreatDoor.O
/- The walks of reg's puts, Values and Conflict. -/
namespace Go.Proofs.YthlhopdlkkeohaaGreatDoor.O.R
open Go.RowKit

theorem puts_any (v vp : Value) (xs : List IE) (p : List (List UInt8)) (w : World) (hv : itsE w v xs) (hp : U.strsAt w vp p) (hn : xs.length ≤ 1000000) (hs : ShortI xs) :
    Calls Tryz.prog 80 #[v, vp] w fun e w' => ∃ r, e = .returned r ∧ itsE w' r (xs.filter fun x => isAt p 1 x.1) ∧ Below w.heap.size w w' := by
  have HC := at_any v vp xs p 1 w hv hp hn hs
  clear hv hp hs
  go_enter Tryz.func80, Tryz.ntmps80
  go_wp2_with (go_at_call 120; refine HC.mono ?_; rintro e w1 ⟨r, rfl, hr, hb1⟩)
  go_ret
  exact ⟨_, rfl, hr, hb1⟩
theorem vx_step {xs : List IE} {k : Nat} (hk : k < xs.length) : (xs.take (k + 1)).map (fun x => Rg.valOf x.1) = (xs.take k).map (fun x => Rg.valOf x.1) ++ [Rg.valOf xs[k].1] := by
  rw [List.take_succ_eq_append_getElem hk, List.map_append]
  rfl
/-- The values of a list of items. -/
abbrev vof (xs : List IE) : List Rg.Va := xs.map fun x => Rg.valOf x.1

set_option maxRecDepth 20000 in
set_option maxHeartbeats 2000000 in
theorem values_any (v vp : Value) (xs : List IE) (p : List (List UInt8)) (w : World) (hv : itsE w v xs) (hp : U.strsAt w vp p) (hn : xs.length ≤ 1000000) (hs : ShortI xs) :
    Calls Tryz.prog 39 #[v, vp] w fun e w' => ∃ r, e = .returned r ∧ rowR vcell 3 w' w.heap.size r (Rg.vals (vof (xs.filter fun x => isAt p 1 x.1))) ∧ Below w.heap.size w w' := by
  have HC := puts_any v vp xs p w hv hp hn hs
  have hn1 : (xs.filter fun x => isAt p 1 x.1).length ≤ 1000000 := Nat.le_trans (List.length_filter_le _ _) hn
  clear hv hp hs hn
  generalize (xs.filter fun x => isAt p 1 x.1) = ys at *
  go_enter Tryz.func39, Tryz.ntmps39
  go_wp2_with (go_at_call 80; refine HC.mono ?_; rintro e w1 ⟨r, rfl, hr, hb1⟩; obtain ⟨ao, cap, rfl⟩ := hr.slice; have HV : Hid (itsE w1 (.slice ao ys.length cap) ys) := hr; obtain ⟨n, hn0⟩ : ∃ n, n = ys.length := ⟨_, rfl⟩; have HN : Hid (n = ys.length) := hn0; rw [← hn0] at HV hn1 ⊢; clear hr hn0)
  go_loopw [5, 7, 12] (fun out _ i wr => ∃ (k : Nat) (acc : List Rg.Va), k ≤ n ∧ i = .int .i64 k ∧ Hid (acc = vof (ys.take k)) ∧ wr.ownsRow w1.heap.size 61 3 out acc.length (acc.flatMap vcell) ∧ Below w1.heap.size w1 wr) (fun _ _ i _ => n - (intOf i).toNat)
  case atStart => exact ⟨0, [], by omega, rfl, rfl, World.ownsRow_nil _ _ _ _, Below.refl _ _⟩
  case round =>
    obtain ⟨k, acc, hk, rfl, HA, hown, hbw⟩ := hrel
    by_cases hkn : k < n
    · have hkx : k < ys.length := by rw [← HN.out]; exact hkn
      obtain ⟨ad, rfl, -, hX, hXi⟩ := (HV.out.on hbw).get hkx
      have HS : Hid (acc ++ [Rg.valOf ys[k].1] = vof (ys.take (k + 1))) := by
        have h : acc ++ [Rg.valOf ys[k].1] = vof (ys.take (k + 1)) := by rw [vof, vx_step hkx, HA.out]
        exact h
      have hroom : acc.length + 1 ≤ 1000001 := by
        have h2 := congrArg List.length HA.out
        rw [List.length_map, List.length_take] at h2
        omega
      generalize ys[k] = x at *
      obtain ⟨it, pv, sv⟩ := x
      obtain ⟨pa, pn, pc, rfl⟩ := strs_slice hXi.1
      obtain ⟨sa, sn, sc, rfl⟩ := refs_slice hXi.2
      obtain ⟨c0, c1, c2, c3, c4, c5, c6, c7, c8, c9, c10⟩ := hX
      have bA := below_new2 wr (.cells (icell (it, .slice pa pn pc, .slice sa sn sc)).toArray 76) (vO (Rg.valOf it))
      have e1 : (wr.alloc (.cells (icell (it, .slice pa pn pc, .slice sa sn sc)).toArray 76)).heap.size = wr.heap.size + 1 := by simp
      have hnew := new_val (wr.alloc (.cells (icell (it, .slice pa pn pc, .slice sa sn sc)).toArray 76)) (Rg.valOf it)
      rw [e1] at hnew
      have hown1 := own_on hown bA
      have hbw1 := bchain hbw bA
      clear HA hXi
      go_wp2_with (first
        | (at_builtin; refine append_val rfl _ _ rfl w1.heap.size hbw1.size _ acc rfl hown1 _ (Rg.valOf it) rfl hnew hroom ?_; intro v2 w3 hown2 hg2)
        | go_in)
      go_roundw
      case rel => exact ⟨k + 1, acc ++ [Rg.valOf it], by omega, by go_num, HS, hown2, hbw1.grown hg2 hbw1.size (fun g e => (hown1.lt g e).1)⟩
      case measure => simp [intOf]; omega
    · have HE : Hid (acc = vof ys) := by
        have h := HA.out
        rw [List.take_of_length_le (by rw [← HN.out]; omega)] at h
        exact h
      have hlen : acc.length ≤ 1000000 := by
        have h2 := congrArg List.length HE.out
        rw [vof, List.length_map] at h2
        have := HN.out
        omega
      rcases valsOwn hown with ⟨rfl, rfl⟩ | ⟨g, c, rfl, hO, h1, h2, h3⟩
      · go_wp2_with (first
          | (go_at_call 83; refine (compact_none _).mono ?_; rintro e w3 ⟨rfl, hw3⟩; have hw3 := hw3.symm; subst hw3)
          | (go_at_call 81; refine (sortFunc_none 0 none _).mono ?_; rintro e w2 ⟨rfl, hw2⟩; have hw2 := hw2.symm; subst hw2))
        go_ret
        exact ⟨_, rfl, by rw [← HE.out]; exact .inl ⟨rfl, rfl⟩, bchain hb1 hbw⟩
      · have HSo := sortFunc_any g c acc w1.heap.size wr hO hlen h3
        have HCo : ∀ W, Below w1.heap.size w1 W → OwnR W g vcell 3 (sorted acc) → Calls Tryz.prog 83 #[.slice (some ⟨g, 0, none⟩) acc.length c] W fun e w' => e = .returned (.slice (some ⟨g, 0, none⟩) (Rg.thin (sorted acc)).length c) ∧ OwnR w' g vcell 3 (Rg.thin (sorted acc)) ∧ Below w1.heap.size w1 w' := fun W hW hO2 => by
          have h := compact_any g c (sorted acc) w1.heap.size w1 W hW h3 hO2 (by rw [sorted_length]; exact hlen) (by rw [sorted_length]; exact h1) h2
          rw [sorted_length] at h
          exact h
        have HL : Hid ((Rg.thin (sorted acc)).length ≤ c) := by
          have h := Nat.le_trans (Nat.le_trans (Rg.thin_len (sorted acc)) (Nat.le_of_eq (sorted_length acc))) h1
          exact h
        clear hO hown
        generalize acc.length = m at *
        go_wp2_with (first
          | (go_at_call 83; refine (HCo _ (hbw.trans hb2) hO2).mono ?_; rintro e w3 ⟨rfl, hO3, hb3⟩)
          | (go_at_call 81; refine HSo.mono ?_; rintro e w2 ⟨rfl, hO2, hb2⟩))
        go_ret
        refine ⟨_, rfl, ?_, hb1.trans (hb3.mono hb1.size)⟩
        rw [← HE.out, ← thin_sorted]
        exact .inr ⟨g, c, rfl, HL.out, h2, Nat.le_trans hb1.size h3, hO3⟩

end Go.Proofs.YthlhopdlkkeohaaGreatDoor.O.R
/- A value in its place, as the document's walk goes. -/
namespace Go.Proofs.YthlhopdlkkeohaaGreatDoor
namespace Rg

/-- Where the walk stands: of the first i all are laid, and, once laid, v ahead of the first that stands behind it. -/
def InsS (v : Va) (l : List Va) (i : Nat) (laid : Bool) (out : List Va) : Prop :=
  (laid = false ∧ out = l.take i ∧ ∀ j (h : j < l.length), j < i → lt l[j] v) ∨
  (laid = true ∧ ∃ k, k < i ∧ (∀ j (h : j < l.length), j < k → lt l[j] v) ∧ (∃ h : k < l.length, lt v l[k]) ∧ out = l.take k ++ v :: (l.take i).drop k)
theorem InsS.start (v : Va) (l : List Va) : InsS v l 0 false [] := .inl ⟨rfl, by simp, fun _ _ h => absurd h (Nat.not_lt_zero _)⟩
theorem InsS.len {v : Va} {l : List Va} {i : Nat} {b : Bool} {out : List Va} (h : InsS v l i b out) : out.length ≤ i + 1 := by
  rcases h with ⟨_, rfl, _⟩ | ⟨_, k, hk, _, _, rfl⟩
  · rw [List.length_take]; omega
  · simp only [List.length_append, List.length_take, List.length_cons, List.length_drop]; omega
theorem InsS.before {v : Va} {l : List Va} {i : Nat} {out : List Va} (h : InsS v l i false out) (hi : i < l.length) (hv : lt v l[i]) : InsS v l (i + 1) true (out ++ [v] ++ [l[i]]) := by
  rcases h with ⟨_, rfl, h1⟩ | ⟨e, _⟩
  · refine .inr ⟨rfl, i, by omega, h1, ⟨hi, hv⟩, ?_⟩
    rw [List.take_succ_eq_append_getElem hi, List.drop_append_of_le_length (by rw [List.length_take]; omega)]
    rw [List.drop_eq_nil_of_le (by rw [List.length_take]; omega)]
    simp
  · cases e
theorem InsS.after {v : Va} {l : List Va} {i : Nat} {out : List Va} (h : InsS v l i true out) (hi : i < l.length) : InsS v l (i + 1) true (out ++ [l[i]]) := by
  rcases h with ⟨e, _⟩ | ⟨_, k, hk, h1, ⟨h2, h3⟩, rfl⟩
  · cases e
  · refine .inr ⟨rfl, k, by omega, h1, ⟨h2, h3⟩, ?_⟩
    rw [List.take_succ_eq_append_getElem hi, List.drop_append_of_le_length (by rw [List.length_take]; omega)]
    simp
theorem InsS.behind {v : Va} {l : List Va} {i : Nat} {out : List Va} (h : InsS v l i false out) (hi : i < l.length) (hv : lt l[i] v) : InsS v l (i + 1) false (out ++ [l[i]]) := by
  rcases h with ⟨_, rfl, h1⟩ | ⟨e, _⟩
  · refine .inl ⟨rfl, by rw [List.take_succ_eq_append_getElem hi], fun j hj hji => ?_⟩
    by_cases e : j = i
    · subst e; exact hv
    · exact h1 j hj (by omega)
  · cases e
theorem rise_lt {l : List Va} (hr : Rise l) {a b : Nat} (hab : a < b) (hb : b < l.length) : lt (l[a]'(by omega)) l[b] := List.pairwise_iff_getElem.1 hr a b (by omega) hb hab
theorem InsS.same {v : Va} {l : List Va} {i : Nat} (hr : Rise l) (hi : i < l.length) (hv : v = l[i]) : ins v l = l := ins_there hr (by rw [hv]; exact List.getElem_mem hi)
theorem InsS.last {v : Va} {l : List Va} {i : Nat} {out : List Va} (h : InsS v l i false out) (hi : ¬ i < l.length) : ins v l = out ++ [v] := by
  rcases h with ⟨_, rfl, h1⟩ | ⟨e, _⟩
  · rw [ins_split (k := l.length) (Nat.le_refl _) (fun j hj _ => h1 j hj (by omega)) (fun h => absurd h (Nat.lt_irrefl _)), List.take_length, List.drop_length, List.take_of_length_le (by omega)]
  · cases e
theorem InsS.done {v : Va} {l : List Va} {i : Nat} {out : List Va} (h : InsS v l i true out) (hi : ¬ i < l.length) : ins v l = out := by
  rcases h with ⟨e, _⟩ | ⟨_, k, hk, h1, ⟨h2, h3⟩, rfl⟩
  · cases e
  · rw [ins_split (k := k) (by omega) h1 (fun _ => h3), show l.take i = l from List.take_of_length_le (by omega)]
end Rg
end Go.Proofs.YthlhopdlkkeohaaGreatDoor
/- The walk of the document's Insert. -/
namespace Go.Proofs.YthlhopdlkkeohaaGreatDoor.O
open Go.RowKit

end Go.Proofs.YthlhopdlkkeohaaGreatDoor.O
/- The walk of the document's Values. -/
namespace Go.Proofs.YthlhopdlkkeohaaGreatDoor.O.R
open Go.RowKit

theorem short_text {o : Os.Op} (h : Os.short o = true) : o.vs.length ≤ 2000000 := by
  simp only [Os.short, Bool.and_eq_true, decide_eq_true_eq] at h
  omega

end Go.Proofs.YthlhopdlkkeohaaGreatDoor.O.R
/- What reg tells, both sides, by the items alone. -/
namespace Go.Proofs.YthlhopdlkkeohaaGreatDoor.O.R
open Go.RowKit

theorem filt_map (P : Lv.Item → Bool) : ∀ l : List IE, (l.filter fun x => P x.1).map (·.1) = (l.map (·.1)).filter P := fun l => by
  rw [List.filter_map]
  rfl
/-- A register's values. -/
def regV (its : List Lv.Item) (p : List (List UInt8)) : List Rg.Va := Rg.vals ((Lv.atLeaf its p 1).map Rg.valOf)
def regB (its : List Lv.Item) (p : List (List UInt8)) : Bool := !(Lv.atLeaf its p 1).isEmpty
theorem at_its {xs : List IE} {its : List Lv.Item} (h : xs.map (·.1) = its) (p : List (List UInt8)) : (xs.filter fun x => isAt p 1 x.1).map (·.1) = Lv.atLeaf its p 1 := by
  rw [filt_map, h]
  rfl
theorem vof_its {xs : List IE} {its : List Lv.Item} (h : xs.map (·.1) = its) (p : List (List UInt8)) : Rg.vals (vof (xs.filter fun x => isAt p 1 x.1)) = regV its p := by
  unfold regV
  rw [← at_its h p, List.map_map]
  rfl
theorem emp_its {xs : List IE} {its : List Lv.Item} (h : xs.map (·.1) = its) (p : List (List UInt8)) : (!(xs.filter fun x => isAt p 1 x.1).isEmpty) = regB its p := by
  unfold regB
  rw [← at_its h p]
  cases xs.filter fun x => isAt p 1 x.1 <;> rfl
section
variable {v vp : Value} {xs : List IE} {its : List Lv.Item} {p : List (List UInt8)} {w : World}
theorem values_its (hv : itsE w v xs) (he : xs.map (·.1) = its) (hp : U.strsAt w vp p) (hn : xs.length ≤ 1000000) (hs : ShortI xs) : Calls Tryz.prog 39 #[v, vp] w fun e w' => ∃ r, e = .returned r ∧ rowR vcell 3 w' w.heap.size r (regV its p) ∧ Below w.heap.size w w' := by
  rw [← vof_its he p]; exact values_any v vp xs p w hv hp hn hs
end
theorem regV_len (its : List Lv.Item) (p : List (List UInt8)) : (regV its p).length ≤ its.length := by
  unfold regV
  refine Nat.le_trans (Rg.vals_len _) ?_
  rw [List.length_map]
  exact List.length_filter_le _ _
end Go.Proofs.YthlhopdlkkeohaaGreatDoor.O.R
/- One reference appended to a row; the walk of the document's SameRefs at equal lists. -/
namespace Go.Proofs.YthlhopdlkkeohaaGreatDoor.O.B
open Go.RowKit

theorem neq_cnt_same (x : U) (w : World) : (binOp .neq 70 (uV x) (uV x)).run Tryz.prog w = .ok (.bool false) w := by rw [neq_cnt]; simp
end Go.Proofs.YthlhopdlkkeohaaGreatDoor.O.B
/- The walks of bag's adds, Adds and Has. -/
namespace Go.Proofs.YthlhopdlkkeohaaGreatDoor.O.B
open Go.RowKit

theorem adds_any (v vp : Value) (xs : List IE) (p : List (List UInt8)) (w : World) (hv : itsE w v xs) (hp : U.strsAt w vp p) (hn : xs.length ≤ 1000000) (hs : ShortI xs) :
    Calls Tryz.prog 84 #[v, vp] w fun e w' => ∃ r, e = .returned r ∧ itsE w' r (xs.filter fun x => isAt p 2 x.1) ∧ Below w.heap.size w w' := by
  have HC := at_any v vp xs p 2 w hv hp hn hs
  clear hv hp hs
  go_enter Tryz.func84, Tryz.ntmps84
  go_wp2_with (go_at_call 120; refine HC.mono ?_; rintro e w1 ⟨r, rfl, hr, hb1⟩)
  go_ret
  exact ⟨_, rfl, hr, hb1⟩

/-- Which items of a list add a value. -/
def addE (x : Rg.Va) (ys : List IE) : List U := (ys.filter fun y => decide (Rg.valOf y.1 = x)).map fun y => y.1.x
theorem addE_len (x : Rg.Va) (ys : List IE) : (addE x ys).length ≤ ys.length := by
  unfold addE
  rw [List.length_map]
  exact List.length_filter_le _ _
theorem addE_take (x : Rg.Va) (ys : List IE) (k : Nat) : (addE x (ys.take k)).length ≤ ys.length := Nat.le_trans (addE_len x _) (by rw [List.length_take]; omega)

end Go.Proofs.YthlhopdlkkeohaaGreatDoor.O.B
/- The walk of the document's Adds. -/
namespace Go.Proofs.YthlhopdlkkeohaaGreatDoor.O.B
open Go.RowKit

end Go.Proofs.YthlhopdlkkeohaaGreatDoor.O.B
