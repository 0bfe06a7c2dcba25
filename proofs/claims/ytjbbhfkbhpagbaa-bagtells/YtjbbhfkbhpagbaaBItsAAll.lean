/- What bag's Adds and Has tell, both sides, by the items alone · What bag's Values tells, both sides, by the items alone. -/
import Derived.Test.YtjbbhfkbhpagbaaBRefsAll
import Derived.Test.YtjbbhfkbhpagbaaVInsAll
/- What bag's Adds and Has tell, both sides, by the items alone. -/
namespace Go.Proofs.Ytjbbhfkbhpagbaa.O
open Go.RowKit

theorem filt_map (P : Lv.Item → Bool) : ∀ l : List IE, (l.filter fun x => P x.1).map (·.1) = (l.map (·.1)).filter P := fun l => by
  rw [List.filter_map]
  rfl
theorem at_its {xs : List IE} {its : List Lv.Item} (h : xs.map (·.1) = its) (p : List (List UInt8)) : (xs.filter fun x => isAt p 2 x.1).map (·.1) = Lv.atLeaf its p 2 := by
  rw [filt_map, h]
  rfl
/-- Which operations of a bag add a value. -/
def bagA (its : List Lv.Item) (p : List (List UInt8)) (x : Rg.Va) : List U := ((Lv.atLeaf its p 2).filter fun i => decide (Rg.valOf i = x)).map fun i => i.x
theorem add_its {xs : List IE} {its : List Lv.Item} (h : xs.map (·.1) = its) (p : List (List UInt8)) (x : Rg.Va) : addE x (xs.filter fun y => isAt p 2 y.1) = bagA its p x := by
  unfold bagA addE
  rw [← at_its h p, ← filt_map, List.map_map]
  rfl
theorem bagA_len (its : List Lv.Item) (p : List (List UInt8)) (x : Rg.Va) : (bagA its p x).length ≤ its.length := by
  unfold bagA
  rw [List.length_map]
  exact Nat.le_trans (List.length_filter_le _ _) (List.length_filter_le _ _)
section
variable {v vp : Value} {xs : List IE} {its : List Lv.Item} {p : List (List UInt8)} {w : World}
theorem adds_its (hv : itsE w v xs) (he : xs.map (·.1) = its) (hp : U.strsAt w vp p) (hn : xs.length ≤ 1000000) (hs : ShortI xs) (x : Rg.Va) : Calls Try.prog 14 #[v, vp, vV x] w fun e w' => ∃ r, e = .returned r ∧ refsIn w' r (bagA its p x) ∧ Below w.heap.size w w' := by
  rw [← add_its he p x]; exact bagAdds_any v vp xs p x w hv hp hn hs
theorem has_its (hv : itsE w v xs) (he : xs.map (·.1) = its) (hp : U.strsAt w vp p) (hn : xs.length ≤ 1000000) (hs : ShortI xs) (x : Rg.Va) : Calls Try.prog 15 #[v, vp, vV x] w fun e w' => e = .returned (.bool (decide (0 < (bagA its p x).length))) ∧ Below w.heap.size w w' := by
  rw [← add_its he p x]; exact bagHas_any v vp xs p x w hv hp hn hs
theorem refAdds_its (hv : itsE w v xs) (he : xs.map (·.1) = its) (hp : U.strsAt w vp p) (hn : xs.length ≤ 1000000) (hpn : p.length ≤ 2000000) (hs : ShortI xs) (x : Rg.Va) : Calls Try.prog 9 #[v, vp, vV x] w fun e w' => ∃ r, e = .returned r ∧ refsIn w' r (bagA its p x) ∧ Below w.heap.size w w' := by
  rw [← add_its he p x]; exact refAdds_any v vp xs p x w hv hp hn hpn hs
end
end Go.Proofs.Ytjbbhfkbhpagbaa.O
/- What bag's Values tells, both sides, by the items alone. -/
namespace Go.Proofs.Ytjbbhfkbhpagbaa.O
open Go.RowKit

/-- A bag's values. -/
def bagV (its : List Lv.Item) (p : List (List UInt8)) : List Rg.Va := Rg.vals ((Lv.atLeaf its p 2).map Rg.valOf)
theorem vof_its {xs : List IE} {its : List Lv.Item} (h : xs.map (·.1) = its) (p : List (List UInt8)) : Rg.vals (vof (xs.filter fun x => isAt p 2 x.1)) = bagV its p := by
  unfold bagV
  rw [← at_its h p, List.map_map]
  rfl
theorem bagV_len (its : List Lv.Item) (p : List (List UInt8)) : (bagV its p).length ≤ its.length := by
  unfold bagV
  refine Nat.le_trans (Rg.vals_len _) ?_
  rw [List.length_map]
  exact List.length_filter_le _ _
section
variable {v vp : Value} {xs : List IE} {its : List Lv.Item} {p : List (List UInt8)} {w : World}
theorem values_its (hv : itsE w v xs) (he : xs.map (·.1) = its) (hp : U.strsAt w vp p) (hn : xs.length ≤ 1000000) (hs : ShortI xs) : Calls Try.prog 11 #[v, vp] w fun e w' => ∃ r, e = .returned r ∧ valsIn w' r (bagV its p) ∧ Below w.heap.size w w' := by
  rw [← vof_its he p]; exact values_any v vp xs p w hv hp hn hs
theorem refValues_its (hv : itsE w v xs) (he : xs.map (·.1) = its) (hp : U.strsAt w vp p) (hn : xs.length ≤ 1000000) (hpn : p.length ≤ 2000000) (hs : ShortI xs) : Calls Try.prog 12 #[v, vp] w fun e w' => ∃ r, e = .returned r ∧ valsIn w' r (bagV its p) ∧ Below w.heap.size w w' := by
  rw [← vof_its he p]; exact refValues_any v vp xs p w hv hp hn hpn hs
end
end Go.Proofs.Ytjbbhfkbhpagbaa.O
