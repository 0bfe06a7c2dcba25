/- What bag's Adds and Has tell, both sides, by the items alone · The walks of bag's adds and Values · The walk of the document's Values · What bag's Values tells, both sides, by the items alone · The walks of total's incs, Parts, Sum and Count · The walk of the document's Parts · What Parts, Sum and Count tell, both sides, by the items alone. -/
import Derived.Test.YthlhopdlkkeohaaGreatDoorVSortAll
import Derived.Test.YthlhopdlkkeohaaGreatDoorThinsAll
import Derived.Test.YthlhopdlkkeohaaGreatDoorViewsAll
import Derived.Test.YthlhopdlkkeohaaGreatDoorAtP2All
import Derived.Test.YthlhopdlkkeohaaGreatDoorLinesAll
import Derived.OwnWalk
/- What bag's Adds and Has tell, both sides, by the items alone. -/
namespace Go.Proofs.YthlhopdlkkeohaaGreatDoor.O.B
open Go.RowKit

theorem filt_map (P : Lv.Item → Bool) : ∀ l : List IE, (l.filter fun x => P x.1).map (·.1) = (l.map (·.1)).filter P := fun l => by
  rw [List.filter_map]
  rfl
theorem at_its {xs : List IE} {its : List Lv.Item} (h : xs.map (·.1) = its) (p : List (List UInt8)) : (xs.filter fun x => isAt p 2 x.1).map (·.1) = Lv.atLeaf its p 2 := by
  rw [filt_map, h]
  rfl
/-- Which operations of a bag add a value. -/
def bagA (its : List Lv.Item) (p : List (List UInt8)) (x : Rg.Va) : List U := ((Lv.atLeaf its p 2).filter fun i => decide (Rg.valOf i = x)).map fun i => i.x
theorem add_its {xs : List IE} {its : List Lv.Item} (h : xs.map (·.1) = its) (p : List (List UInt8)) (x : Rg.Va) : addE x (xs.filter fun y => isAt p 2 y.1) = bagA its p x := by
  unfold bagA addE
  rw [← at_its h p, ← filt_map, List.map_map]
  rfl
theorem bagA_len (its : List Lv.Item) (p : List (List UInt8)) (x : Rg.Va) : (bagA its p x).length ≤ its.length := by
  unfold bagA
  rw [List.length_map]
  exact Nat.le_trans (List.length_filter_le _ _) (List.length_filter_le _ _)
section
variable {v vp : Value} {xs : List IE} {its : List Lv.Item} {p : List (List UInt8)} {w : World}
end
end Go.Proofs.YthlhopdlkkeohaaGreatDoor.O.B
/- The walks of bag's adds and Values. -/
namespace Go.Proofs.YthlhopdlkkeohaaGreatDoor.O.B
open Go.RowKit

theorem vx_step {xs : List IE} {k : Nat} (hk : k < xs.length) : (xs.take (k + 1)).map (fun x => Rg.valOf x.1) = (xs.take k).map (fun x => Rg.valOf x.1) ++ [Rg.valOf xs[k].1] := by
  rw [List.take_succ_eq_append_getElem hk, List.map_append]
  rfl
/-- The values of a list of items. -/
abbrev vof (xs : List IE) : List Rg.Va := xs.map fun x => Rg.valOf x.1

set_option maxRecDepth 20000 in
set_option maxHeartbeats 2000000 in
theorem values_any (v vp : Value) (xs : List IE) (p : List (List UInt8)) (w : World) (hv : itsE w v xs) (hp : U.strsAt w vp p) (hn : xs.length ≤ 1000000) (hs : ShortI xs) :
    Calls Tryz.prog 40 #[v, vp] w fun e w' => ∃ r, e = .returned r ∧ rowR vcell 3 w' w.heap.size r (Rg.vals (vof (xs.filter fun x => isAt p 2 x.1))) ∧ Below w.heap.size w w' := by
  have HC := adds_any v vp xs p w hv hp hn hs
  have hn1 : (xs.filter fun x => isAt p 2 x.1).length ≤ 1000000 := Nat.le_trans (List.length_filter_le _ _) hn
  clear hv hp hs hn
  generalize (xs.filter fun x => isAt p 2 x.1) = ys at *
  go_enter Tryz.func40, Tryz.ntmps40
  go_wp2_with (go_at_call 84; refine HC.mono ?_; rintro e w1 ⟨r, rfl, hr, hb1⟩; obtain ⟨ao, cap, rfl⟩ := hr.slice; have HV : Hid (itsE w1 (.slice ao ys.length cap) ys) := hr; obtain ⟨n, hn0⟩ : ∃ n, n = ys.length := ⟨_, rfl⟩; have HN : Hid (n = ys.length) := hn0; rw [← hn0] at HV hn1 ⊢; clear hr hn0)
  go_loopw [5, 7, 12] (fun out _ i wr => ∃ (k : Nat) (acc : List Rg.Va), k ≤ n ∧ i = .int .i64 k ∧ Hid (acc = vof (ys.take k)) ∧ wr.ownsRow w1.heap.size 61 3 out acc.length (acc.flatMap vcell) ∧ Below w1.heap.size w1 wr) (fun _ _ i _ => n - (intOf i).toNat)
  case atStart => exact ⟨0, [], by omega, rfl, rfl, World.ownsRow_nil _ _ _ _, Below.refl _ _⟩
  case round =>
    obtain ⟨k, acc, hk, rfl, HA, hown, hbw⟩ := hrel
    by_cases hkn : k < n
    · have hkx : k < ys.length := by rw [← HN.out]; exact hkn
      obtain ⟨ad, rfl, -, hX, hXi⟩ := (HV.out.on hbw).get hkx
      have HS : Hid (acc ++ [Rg.valOf ys[k].1] = vof (ys.take (k + 1))) := by
        have h : acc ++ [Rg.valOf ys[k].1] = vof (ys.take (k + 1)) := by rw [vof, vx_step hkx, HA.out]
        exact h
      have hroom : acc.length + 1 ≤ 1000001 := by
        have h2 := congrArg List.length HA.out
        rw [List.length_map, List.length_take] at h2
        omega
      generalize ys[k] = x at *
      obtain ⟨it, pv, sv⟩ := x
      obtain ⟨pa, pn, pc, rfl⟩ := strs_slice hXi.1
      obtain ⟨sa, sn, sc, rfl⟩ := refs_slice hXi.2
      obtain ⟨c0, c1, c2, c3, c4, c5, c6, c7, c8, c9, c10⟩ := hX
      have bA := below_new2 wr (.cells (icell (it, .slice pa pn pc, .slice sa sn sc)).toArray 76) (vO (Rg.valOf it))
      have e1 : (wr.alloc (.cells (icell (it, .slice pa pn pc, .slice sa sn sc)).toArray 76)).heap.size = wr.heap.size + 1 := by simp
      have hnew := new_val (wr.alloc (.cells (icell (it, .slice pa pn pc, .slice sa sn sc)).toArray 76)) (Rg.valOf it)
      rw [e1] at hnew
      have hown1 := own_on hown bA
      have hbw1 := bchain hbw bA
      clear HA hXi
      go_wp2_with (first
        | (at_builtin; refine append_val rfl _ _ rfl w1.heap.size hbw1.size _ acc rfl hown1 _ (Rg.valOf it) rfl hnew hroom ?_; intro v2 w3 hown2 hg2)
        | go_in)
      go_roundw
      case rel => exact ⟨k + 1, acc ++ [Rg.valOf it], by omega, by go_num, HS, hown2, hbw1.grown hg2 hbw1.size (fun g e => (hown1.lt g e).1)⟩
      case measure => simp [intOf]; omega
    · have HE : Hid (acc = vof ys) := by
        have h := HA.out
        rw [List.take_of_length_le (by rw [← HN.out]; omega)] at h
        exact h
      have hlen : acc.length ≤ 1000000 := by
        have h2 := congrArg List.length HE.out
        rw [vof, List.length_map] at h2
        have := HN.out
        omega
      rcases valsOwn hown with ⟨rfl, rfl⟩ | ⟨g, c, rfl, hO, h1, h2, h3⟩
      · go_wp2_with (first
          | (go_at_call 83; refine (compact_none _).mono ?_; rintro e w3 ⟨rfl, hw3⟩; have hw3 := hw3.symm; subst hw3)
          | (go_at_call 81; refine (sortFunc_none 0 none _).mono ?_; rintro e w2 ⟨rfl, hw2⟩; have hw2 := hw2.symm; subst hw2))
        go_ret
        exact ⟨_, rfl, by rw [← HE.out]; exact .inl ⟨rfl, rfl⟩, bchain hb1 hbw⟩
      · have HSo := sortFunc_any g c acc w1.heap.size wr hO hlen h3
        have HCo : ∀ W, Below w1.heap.size w1 W → OwnR W g vcell 3 (sorted acc) → Calls Tryz.prog 83 #[.slice (some ⟨g, 0, none⟩) acc.length c] W fun e w' => e = .returned (.slice (some ⟨g, 0, none⟩) (Rg.thin (sorted acc)).length c) ∧ OwnR w' g vcell 3 (Rg.thin (sorted acc)) ∧ Below w1.heap.size w1 w' := fun W hW hO2 => by
          have h := compact_any g c (sorted acc) w1.heap.size w1 W hW h3 hO2 (by rw [sorted_length]; exact hlen) (by rw [sorted_length]; exact h1) h2
          rw [sorted_length] at h
          exact h
        have HL : Hid ((Rg.thin (sorted acc)).length ≤ c) := by
          have h := Nat.le_trans (Nat.le_trans (Rg.thin_len (sorted acc)) (Nat.le_of_eq (sorted_length acc))) h1
          exact h
        clear hO hown
        generalize acc.length = m at *
        go_wp2_with (first
          | (go_at_call 83; refine (HCo _ (hbw.trans hb2) hO2).mono ?_; rintro e w3 ⟨rfl, hO3, hb3⟩)
          | (go_at_call 81; refine HSo.mono ?_; rintro e w2 ⟨rfl, hO2, hb2⟩))
        go_ret
        refine ⟨_, rfl, ?_, hb1.trans (hb3.mono hb1.size)⟩
        rw [← HE.out, ← thin_sorted]
        exact .inr ⟨g, c, rfl, HL.out, h2, Nat.le_trans hb1.size h3, hO3⟩

end Go.Proofs.YthlhopdlkkeohaaGreatDoor.O.B
/- The walk of the document's Values. -/
namespace Go.Proofs.YthlhopdlkkeohaaGreatDoor.O.B
open Go.RowKit

theorem short_text {o : Os.Op} (h : Os.short o = true) : o.vs.length ≤ 2000000 := by
  simp only [Os.short, Bool.and_eq_true, decide_eq_true_eq] at h
  omega

end Go.Proofs.YthlhopdlkkeohaaGreatDoor.O.B
/- What bag's Values tells, both sides, by the items alone. -/
namespace Go.Proofs.YthlhopdlkkeohaaGreatDoor.O.B
open Go.RowKit

/-- A bag's values. -/
def bagV (its : List Lv.Item) (p : List (List UInt8)) : List Rg.Va := Rg.vals ((Lv.atLeaf its p 2).map Rg.valOf)
theorem vof_its {xs : List IE} {its : List Lv.Item} (h : xs.map (·.1) = its) (p : List (List UInt8)) : Rg.vals (vof (xs.filter fun x => isAt p 2 x.1)) = bagV its p := by
  unfold bagV
  rw [← at_its h p, List.map_map]
  rfl
theorem bagV_len (its : List Lv.Item) (p : List (List UInt8)) : (bagV its p).length ≤ its.length := by
  unfold bagV
  refine Nat.le_trans (Rg.vals_len _) ?_
  rw [List.length_map]
  exact List.length_filter_le _ _
section
variable {v vp : Value} {xs : List IE} {its : List Lv.Item} {p : List (List UInt8)} {w : World}
theorem values_its (hv : itsE w v xs) (he : xs.map (·.1) = its) (hp : U.strsAt w vp p) (hn : xs.length ≤ 1000000) (hs : ShortI xs) : Calls Tryz.prog 40 #[v, vp] w fun e w' => ∃ r, e = .returned r ∧ rowR vcell 3 w' w.heap.size r (bagV its p) ∧ Below w.heap.size w w' := by
  rw [← vof_its he p]; exact values_any v vp xs p w hv hp hn hs
end
end Go.Proofs.YthlhopdlkkeohaaGreatDoor.O.B
/- The walks of total's incs, Parts, Sum and Count. -/
namespace Go.Proofs.YthlhopdlkkeohaaGreatDoor.O.C
open Go.RowKit

theorem incs_any (v vp : Value) (xs : List IE) (p : List (List UInt8)) (w : World) (hv : itsE w v xs) (hp : U.strsAt w vp p) (hn : xs.length ≤ 1000000) (hs : ShortI xs) :
    Calls Tryz.prog 125 #[v, vp] w fun e w' => ∃ r, e = .returned r ∧ itsE w' r (xs.filter fun x => isAt p 3 x.1) ∧ Below w.heap.size w w' := by
  have HC := at_any v vp xs p 3 w hv hp hn hs
  clear hv hp hs
  go_enter Tryz.func125, Tryz.ntmps125
  go_wp2_with (go_at_call 120; refine HC.mono ?_; rintro e w1 ⟨r, rfl, hr, hb1⟩)
  go_ret
  exact ⟨_, rfl, hr, hb1⟩

/-- Items whose amounts may be. -/
def SmallN (xs : List IE) : Prop := ∀ x ∈ xs, -2147483647 ≤ x.1.o.n ∧ x.1.o.n ≤ 2147483647
/-- What items count up, and down. -/
def upE (ys : List IE) : Int := Li.ups (ys.map fun y => y.1.o.n)
def dnE (ys : List IE) : Int := Li.downs (ys.map fun y => y.1.o.n)
theorem upE_step {ys : List IE} {k : Nat} (hk : k < ys.length) : upE (ys.take (k + 1)) = upE (ys.take k) + if 0 < ys[k].1.o.n then ys[k].1.o.n else 0 := by
  unfold upE
  rw [List.map_take, Li.ups_step _ (by simpa using hk), List.map_take]
  simp only [List.getElem_map]
theorem dnE_step {ys : List IE} {k : Nat} (hk : k < ys.length) : dnE (ys.take (k + 1)) = dnE (ys.take k) + if ys[k].1.o.n < 0 then -ys[k].1.o.n else 0 := by
  unfold dnE
  rw [List.map_take, Li.downs_step _ (by simpa using hk), List.map_take]
  simp only [List.getElem_map]
theorem e_range {ys : List IE} (h : SmallN ys) (hn : ys.length ≤ 1000000) : 0 ≤ upE ys ∧ upE ys ≤ 2147483647000000 ∧ 0 ≤ dnE ys ∧ dnE ys ≤ 2147483647000000 := by
  have h1 := Li.ups_range 2147483647 (by decide) (ys.map fun y => y.1.o.n) fun n hm => by
    obtain ⟨y, hy, rfl⟩ := List.mem_map.1 hm
    exact h y hy
  rw [List.length_map] at h1
  have h2 : (ys.length : Int) * 2147483647 ≤ 1000000 * 2147483647 := Int.mul_le_mul_of_nonneg_right (by omega) (by decide)
  generalize (ys.length : Int) * 2147483647 = q at *
  unfold upE dnE
  omega
theorem SmallN.take {ys : List IE} (h : SmallN ys) (k : Nat) : SmallN (ys.take k) := fun x hx => h x (List.mem_of_mem_take hx)
theorem SmallN.filter {ys : List IE} (h : SmallN ys) (f : IE → Bool) : SmallN (ys.filter f) := fun x hx => h x (List.mem_filter.1 hx).1
theorem take_len {ys : List IE} (hn : ys.length ≤ 1000000) (k : Nat) : (ys.take k).length ≤ 1000000 := by rw [List.length_take]; omega

theorem ret_ab {a b a' b' : Int} (h1 : a = a') (h2 : b = b') : Ending.returned (.tuple #[.int .i64 a, .int .i64 b]) = .returned (.tuple #[.int .i64 a', .int .i64 b']) := by rw [h1, h2]

set_option maxRecDepth 20000 in
set_option maxHeartbeats 2000000 in
theorem parts_any (v vp : Value) (xs : List IE) (p : List (List UInt8)) (w : World) (hv : itsE w v xs) (hp : U.strsAt w vp p) (hn : xs.length ≤ 1000000) (hs : ShortI xs) (hz : SmallN xs) :
    Calls Tryz.prog 85 #[v, vp] w fun e w' => e = .returned (.tuple #[.int .i64 (upE (xs.filter fun y => isAt p 3 y.1)), .int .i64 (dnE (xs.filter fun y => isAt p 3 y.1))]) ∧ Below w.heap.size w w' := by
  have HC := incs_any v vp xs p w hv hp hn hs
  have hn1 : (xs.filter fun y => isAt p 3 y.1).length ≤ 1000000 := Nat.le_trans (List.length_filter_le _ _) hn
  have hz1 : Hid (SmallN (xs.filter fun y => isAt p 3 y.1)) := hz.filter _
  clear hv hp hs hn hz
  generalize (xs.filter fun y => isAt p 3 y.1) = ys at *
  go_enter Tryz.func85, Tryz.ntmps85
  go_wp2_with (go_at_call 125; refine HC.mono ?_; rintro e w1 ⟨r, rfl, hr, hb1⟩; obtain ⟨ao, cap, rfl⟩ := hr.slice; have HV : Hid (itsE w1 (.slice ao ys.length cap) ys) := hr; obtain ⟨n, hn0⟩ : ∃ n, n = ys.length := ⟨_, rfl⟩; have HN : Hid (n = ys.length) := hn0; have HL : Hid (ys.length ≤ 1000000) := hn1; rw [← hn0] at HV hn1 ⊢; clear hr hn0)
  clear HC
  go_loopw [6, 7, 9, 14] (fun up dn _ i wr => ∃ (k : Nat) (a b : Int), k ≤ n ∧ i = .int .i64 k ∧ up = .int .i64 a ∧ dn = .int .i64 b ∧ Hid (a = upE (ys.take k)) ∧ Hid (b = dnE (ys.take k)) ∧ Below w1.heap.size w1 wr) (fun _ _ _ i _ => n - (intOf i).toNat)
  case atStart => exact ⟨0, 0, 0, by omega, rfl, rfl, rfl, rfl, rfl, Below.refl _ _⟩
  case round =>
    obtain ⟨k, a, b, hk, rfl, rfl, rfl, HA, HB, hbw⟩ := hrel
    by_cases hkn : k < n
    · have hkx : k < ys.length := by rw [← HN.out]; exact hkn
      obtain ⟨ad, rfl, -, hX, hXi⟩ := (HV.out.on hbw).get hkx
      have hr := e_range (hz1.out.take k) (take_len HL.out k)
      rw [← HA.out, ← HB.out] at hr
      have hr1 := hz1.out _ (List.getElem_mem hkx)
      have HU := upE_step hkx
      have HD := dnE_step hkx
      rw [← HA.out] at HU
      rw [← HB.out] at HD
      by_cases he : 0 < ys[k].1.o.n
      · rw [if_pos he] at HU
        rw [if_neg (by omega)] at HD
        have HU1 : Hid (a + ys[k].1.o.n = upE (ys.take (k + 1))) := HU.symm
        have HD1 : Hid (b = dnE (ys.take (k + 1))) := by rw [HD]; show b = b + 0; omega
        have hw1 : IntKind.i64.wrap (a + ys[k].1.o.n) = a + ys[k].1.o.n := U.wrap_i64 (by omega) (by omega)
        clear HU HD hr hr1
        generalize ys[k] = y at *
        obtain ⟨it, pv, sv⟩ := y
        obtain ⟨pa, pn, pc, rfl⟩ := strs_slice hXi.1
        obtain ⟨sa, sn, sc, rfl⟩ := refs_slice hXi.2
        obtain ⟨c0, c1, c2, c3, c4, c5, c6, c7, c8, c9, c10⟩ := hX
        have bA := below_new wr (.cells (icell (it, .slice pa pn pc, .slice sa sn sc)).toArray 76)
        clear HA HB hXi
        go_wp2
        go_roundw
        case rel => exact ⟨k + 1, a + it.o.n, b, by omega, by go_num, rfl, rfl, HU1, HD1, bchain hbw bA⟩
        case measure => simp [intOf]; omega
      · rw [if_neg he] at HU
        have HU1 : Hid (a = upE (ys.take (k + 1))) := by rw [HU]; show a = a + 0; omega
        have HD1 : Hid (b - ys[k].1.o.n = dnE (ys.take (k + 1))) := by
          have h : b - ys[k].1.o.n = dnE (ys.take (k + 1)) := by rw [HD]; split <;> omega
          exact h
        have hw1 : IntKind.i64.wrap (b - ys[k].1.o.n) = b - ys[k].1.o.n := U.wrap_i64 (by omega) (by omega)
        clear HU HD hr hr1
        generalize ys[k] = y at *
        obtain ⟨it, pv, sv⟩ := y
        obtain ⟨pa, pn, pc, rfl⟩ := strs_slice hXi.1
        obtain ⟨sa, sn, sc, rfl⟩ := refs_slice hXi.2
        obtain ⟨c0, c1, c2, c3, c4, c5, c6, c7, c8, c9, c10⟩ := hX
        have bA := below_new wr (.cells (icell (it, .slice pa pn pc, .slice sa sn sc)).toArray 76)
        clear HA HB hXi
        go_wp2
        go_roundw
        case rel => exact ⟨k + 1, a, b - it.o.n, by omega, by go_num, rfl, rfl, HU1, HD1, bchain hbw bA⟩
        case measure => simp [intOf]; omega
    · have e : ys.take k = ys := List.take_of_length_le (by rw [← HN.out]; omega)
      rw [e] at HA HB
      go_wp2
      go_ret2
      exact ⟨ret_ab HA.out HB.out, bchain hb1 hbw⟩

set_option maxRecDepth 20000 in
set_option maxHeartbeats 2000000 in
theorem sum_any (v vp : Value) (xs : List IE) (p : List (List UInt8)) (w : World) (hv : itsE w v xs) (hp : U.strsAt w vp p) (hn : xs.length ≤ 1000000) (hs : ShortI xs) (hz : SmallN xs) :
    Calls Tryz.prog 41 #[v, vp] w fun e w' => e = .returned (.int .i64 (upE (xs.filter fun y => isAt p 3 y.1) - dnE (xs.filter fun y => isAt p 3 y.1))) ∧ Below w.heap.size w w' := by
  have HC := parts_any v vp xs p w hv hp hn hs hz
  have hr := e_range (hz.filter fun y => isAt p 3 y.1) (Nat.le_trans (List.length_filter_le _ _) hn)
  clear hv hp hs hn hz
  generalize upE (xs.filter fun y => isAt p 3 y.1) = a at *
  generalize dnE (xs.filter fun y => isAt p 3 y.1) = b at *
  have hw1 : IntKind.i64.wrap (a - b) = a - b := U.wrap_i64 (by omega) (by omega)
  clear hr
  go_enter Tryz.func41, Tryz.ntmps41
  go_wp2_with (go_at_call 85; refine HC.mono ?_; rintro e w1 ⟨rfl, hb1⟩)
  go_ret
  exact ⟨rfl, hb1⟩

end Go.Proofs.YthlhopdlkkeohaaGreatDoor.O.C
/- The walk of the document's Parts. -/
namespace Go.Proofs.YthlhopdlkkeohaaGreatDoor.O.C
open Go.RowKit

theorem ret_three {a b c a' b' c' : Int} (h1 : a = a') (h2 : b = b') (h3 : c = c') : Ending.returned (.tuple #[.int .i64 a, .int .i64 b, .int .i64 c]) = .returned (.tuple #[.int .i64 a', .int .i64 b', .int .i64 c']) := by rw [h1, h2, h3]
end Go.Proofs.YthlhopdlkkeohaaGreatDoor.O.C
/- What Parts, Sum and Count tell, both sides, by the items alone. -/
namespace Go.Proofs.YthlhopdlkkeohaaGreatDoor.O.C
open Go.RowKit

theorem filt_map (P : Lv.Item → Bool) : ∀ l : List IE, (l.filter fun x => P x.1).map (·.1) = (l.map (·.1)).filter P := fun l => by
  rw [List.filter_map]
  rfl
theorem ns_its {xs : List IE} {its : List Lv.Item} (h : xs.map (·.1) = its) (p : List (List UInt8)) : (xs.filter fun y => isAt p 3 y.1).map (fun y => y.1.o.n) = Tr.nums its p := by
  have h1 := congrArg (List.map fun i : Lv.Item => i.o.n) (filt_map (isAt p 3) xs)
  rw [h, List.map_map] at h1
  exact h1
theorem len_its {xs : List IE} {its : List Lv.Item} (h : xs.map (·.1) = its) (p : List (List UInt8)) : (xs.filter fun y => isAt p 3 y.1).length = (Tr.nums its p).length := by rw [← ns_its h p, List.length_map]
/-- What is counted up, and down, at a path. -/
def upI (its : List Lv.Item) (p : List (List UInt8)) : Int := Li.ups (Tr.nums its p)
def dnI (its : List Lv.Item) (p : List (List UInt8)) : Int := Li.downs (Tr.nums its p)
def cnI (its : List Lv.Item) (p : List (List UInt8)) : Int := ((Tr.nums its p).length : Int)
section
variable {v vp : Value} {xs : List IE} {its : List Lv.Item} {p : List (List UInt8)} {w : World}
theorem up_its (he : xs.map (·.1) = its) : upE (xs.filter fun y => isAt p 3 y.1) = upI its p := by unfold upE upI; rw [ns_its he]
theorem dn_its (he : xs.map (·.1) = its) : dnE (xs.filter fun y => isAt p 3 y.1) = dnI its p := by unfold dnE dnI; rw [ns_its he]
theorem cn_its (he : xs.map (·.1) = its) : ((xs.filter fun y => isAt p 3 y.1).length : Int) = cnI its p := by unfold cnI; rw [len_its he]
theorem sum_its (hv : itsE w v xs) (he : xs.map (·.1) = its) (hp : U.strsAt w vp p) (hn : xs.length ≤ 1000000) (hs : ShortI xs) (hz : SmallN xs) : Calls Tryz.prog 41 #[v, vp] w fun e w' => e = .returned (.int .i64 (upI its p - dnI its p)) ∧ Below w.heap.size w w' := by
  rw [← up_its he, ← dn_its he]; exact sum_any v vp xs p w hv hp hn hs hz
end
end Go.Proofs.YthlhopdlkkeohaaGreatDoor.O.C
