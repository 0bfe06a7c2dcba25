/- The walk of the statements' example: 'awake'. -/
import Derived.Test.YthmdabpinpplgaaCount
namespace Go.Proofs.Ythmdabpinpplgaa
open Go.RowKit

/-- The example's vectors: three numbers, and thirteen noughts. -/
def three (a b c : Int) : List Int := [a, b, c, 0, 0, 0, 0, 0, 0, 0, 0, 0, 0, 0, 0, 0]
theorem join_example : Vc.join (three 1 0 5) (three 2 3 4) = three 2 3 5 := by decide
theorem has_example : Vc.has (three 1 0 0) 0 1 = true := by decide
theorem has_not_example : Vc.has (three 1 0 0) 0 2 = false := by decide

set_option maxRecDepth 20000 in
theorem awake_any (w : World) : Calls Try.prog 21 #[] w fun e w' => e = .returned (.bool true) ∧ Below w.heap.size w w' := by
  have HJ : ∀ w, Calls Try.prog 11 #[vecV (three 1 0 5), vecV (three 2 3 4)] w fun e w' => e = .returned (vecV (three 2 3 5)) ∧ Below w.heap.size w w' := fun w => by
    have := join_vec (three 1 0 5) (three 2 3 4) rfl rfl w
    rw [join_example] at this
    exact this
  have HT : ∀ w, Calls Try.prog 9 #[vecV (three 1 0 0), dotV 0 1] w fun e w' => e = .returned (.bool true) ∧ Below w.heap.size w w' := fun w => by
    have := has_vec (three 1 0 0) rfl 0 1 w
    rw [has_example] at this
    exact this
  have HN : ∀ w, Calls Try.prog 9 #[vecV (three 1 0 0), dotV 0 2] w fun e w' => e = .returned (.bool false) ∧ Below w.heap.size w w' := fun w => by
    have := has_vec (three 1 0 0) rfl 0 2 w
    rw [has_not_example] at this
    exact this
  go_enter Try.func21, Try.ntmps21
  iterate 11 go_step
  refine list_take (v := vecV (three 1 0 5)) (by kernel_rfl) (by kernel_rfl) ?_
  refine list_take (v := vecV (three 2 3 4)) (by kernel_rfl) (by kernel_rfl) ?_
  refine list_call (F := 11) (vs := #[vecV (three 1 0 5), vecV (three 2 3 4)]) (v := vecV (three 2 3 5)) (by kernel_rfl) (fun _ => by kernel_rfl) (HJ) (fun w1 hb0 => ?_)
  refine list_take (v := vecV (three 2 3 5)) (by kernel_rfl) (by kernel_rfl) ?_
  refine list_take (v := .bool true) (by kernel_rfl) (exec_bin rfl (by kernel_rfl) (by kernel_rfl) (fun _ => by kernel_rfl) (eqv (x := three 2 3 5) (y := three 2 3 5) rfl rfl (decide_eq_true rfl)) _) ?_
  refine list_take (v := .bool true) (by kernel_rfl) (by kernel_rfl) ?_
  refine list_take (v := vecV (three 1 0 0)) (by kernel_rfl) (by kernel_rfl) ?_
  refine list_take (v := dotV 0 1) (by kernel_rfl) (by kernel_rfl) ?_
  refine list_call (F := 9) (vs := #[vecV (three 1 0 0), dotV 0 1]) (v := .bool true) (by kernel_rfl) (fun _ => by kernel_rfl) (HT) (fun w2 hb1 => ?_)
  refine list_take (v := .bool true) (by kernel_rfl) (by kernel_rfl) ?_
  refine list_take (v := .bool true) (by kernel_rfl) (by kernel_rfl) ?_
  refine list_take (v := vecV (three 1 0 0)) (by kernel_rfl) (by kernel_rfl) ?_
  refine list_take (v := dotV 0 2) (by kernel_rfl) (by kernel_rfl) ?_
  refine list_call (F := 9) (vs := #[vecV (three 1 0 0), dotV 0 2]) (v := .bool false) (by kernel_rfl) (fun _ => by kernel_rfl) (HN) (fun w3 hb2 => ?_)
  refine list_take (v := .bool true) (by kernel_rfl) (exec_un rfl (by kernel_rfl) (not_of false) _) ?_
  refine list_take (v := .bool true) (by kernel_rfl) (by kernel_rfl) ?_
  refine list_take (v := .bool true) (by kernel_rfl) (by kernel_rfl) ?_
  refine wpList_nil ?_
  simp only [Act.put, List.setIfInBounds_toArray, List.set_cons_zero, List.set_cons_succ]
  go_wp2
  go_ret
  exact ⟨rfl, bchain (bchain hb0 hb1) hb2⟩
end Go.Proofs.Ythmdabpinpplgaa
