/- The walk of the statements' example: 'awake'. -/
import Derived.Test.YtmifkfeobdnocaaRefBehind
import Derived.Test.YtmifkfeobdnocaaLearn
namespace Go.Proofs.Ytmifkfeobdnocaa
open Go.RowKit

/-- The example's vectors: two numbers, and fourteen noughts. -/
def two (a b : Int) : List Int := [a, b, 0, 0, 0, 0, 0, 0, 0, 0, 0, 0, 0, 0, 0, 0]
def exampleM : List Int := Mx.learn (Mx.learn zeros 0 (two 2 1)) 1 (two 1 3)
theorem example_front : Mx.frontier exampleM 2 = two 1 1 := by decide +kernel
theorem example_stable : Vc.has (Mx.frontier exampleM 2) 1 1 = true := by decide +kernel
theorem example_not : Vc.has (Mx.frontier exampleM 3) 1 1 = false := by decide +kernel

section
variable {ops : Array Oper} {rest : List Oper} {o : Oper} {a : Act} {w : World} {Q : Exit → Act → World → Prop}
theorem take_mat0 (hgd : o.guard = none) (ho : o.op = .build 27 #[]) (hk : wpList Try.prog ops Q rest (a.put o.dst (vecV zeros)) w) : wpList Try.prog ops Q (o :: rest) a w :=
  wpList_plain hgd fun _ hK => by
    have hb : ∀ w, (Instr.build 27 #[]).run Try.prog w = .ok (vecV zeros) w := fun w => by kernel_rfl
    unfold Oper.wp execOp
    simp only [ho, List.map_toArray, List.map_nil, Sem.run_bind, hb, Result.andThen_ok, Sem.run_pure]
    exact hK _ _ hk
theorem take_two (hgd : o.guard = none) (x y : Int) (ho : o.op = .build 23 #[(0, .const (.int .i64 x)), (1, .const (.int .i64 y))]) (hk : wpList Try.prog ops Q rest (a.put o.dst (vecV (two x y))) w) : wpList Try.prog ops Q (o :: rest) a w :=
  wpList_plain hgd fun _ hK => by
    have he : ∀ w, (execOp a.eval o).run Try.prog w = .ok (.value (vecV (two x y))) w := fun w => by
      unfold execOp
      simp only [ho]
      kernel_rfl
    unfold Oper.wp
    rw [he]
    exact hK _ _ hk
theorem take_alloc27 (hgd : o.guard = none) (ho : o.op = .alloc 27) (hk : wpList Try.prog ops Q rest (a.put o.dst (.pointer (some ⟨w.heap.size, 0, none⟩))) (w.alloc (.cells (ints zeros).toArray 27))) : wpList Try.prog ops Q (o :: rest) a w :=
  wpList_plain hgd fun _ hK => by
    have he : (execOp a.eval o).run Try.prog w = .ok (.value (.pointer (some ⟨w.heap.size, 0, none⟩))) (w.alloc (.cells (ints zeros).toArray 27)) := by
      have hz := zero27
      unfold execOp
      simp only [ho]
      go_simp
    unfold Oper.wp
    rw [he]
    exact hK _ _ hk
/-- A matrix is read whole, under a guard that holds. -/
theorem load_matG {T T' : TypeId} {b : Nat} {m : List Int} (hT : IsMat T) (x : Operand) (ho : o.op = .load T x) (hm : m.length = 256) (hx : a.eval x = .pointer (some ⟨b, 0, none⟩)) (h : MatAt T' w b m) (hw : Region.wanted o (yielded ops a.tmps) = true)
    (hk : wpList Try.prog ops Q rest (a.put o.dst (vecV m)) w) : wpList Try.prog ops Q (o :: rest) a w :=
  list_take hw (exec_mat hT ho hm hx h) hk
end

set_option maxRecDepth 20000 in
set_option maxHeartbeats 2000000 in
theorem awake_any (w : World) : Calls Try.prog 17 #[] w fun e w' => e = .returned (.bool true) ∧ Below w.heap.size w w' := by
  have hM1 : (Mx.learn zeros 0 (two 2 1)).length = 256 := Mx.learn_length zeros_length
  have H1 := learn_any zeros (two 2 1) zeros_length rfl 0
  have H2 := learn_any (Mx.learn zeros 0 (two 2 1)) (two 1 3) hM1 rfl 1
  have hM : exampleM.length = 256 := Mx.learn_length hM1
  have H3 := frontier_any exampleM hM 2
  have H4 := stable_any exampleM hM 2 1 1
  have H5 := stable_any exampleM hM 3 1 1
  rw [example_front] at H3
  rw [example_stable] at H4
  rw [example_not] at H5
  change ∀ w, Calls Try.prog 7 #[vecV (Mx.learn zeros 0 (two 2 1)), .int .i64 1, vecV (two 1 3)] w fun e w' => e = .returned (vecV exampleM) ∧ Below w.heap.size w w' at H2
  generalize exampleM = M at *
  generalize Mx.learn zeros 0 (two 2 1) = M1 at *
  go_enter Try.func17, Try.ntmps17
  iterate 11 go_step
  refine take_mat0 rfl rfl ?_
  refine take_two rfl 2 1 rfl ?_
  refine list_call (F := 7) (vs := #[vecV zeros, .int .i64 0, vecV (two 2 1)]) (v := vecV M1) (by kernel_rfl) (fun _ => by kernel_rfl) H1 (fun w1 hb1 => ?_)
  refine take_two rfl 1 3 rfl ?_
  refine list_call (F := 7) (vs := #[vecV M1, .int .i64 1, vecV (two 1 3)]) (v := vecV M) (by kernel_rfl) (fun _ => by kernel_rfl) H2 (fun w2 hb2 => ?_)
  refine take_alloc27 rfl rfl ?_
  refine store_mat m27 rfl _ _ rfl w2.heap.size M zeros hM zeros_length (by kernel_rfl) (by kernel_rfl) (MatAt.new 27 w2 zeros) ?_
  have h0 := (MatAt.new 27 w2 zeros).row M
  have hB := below_setRow (bchain (bchain hb1 hb2) (below_new _ (.cells (ints zeros).toArray 27))) (b := w2.heap.size) (bchain hb1 hb2).size (ints M).toArray
  generalize (w2.alloc (.cells (ints zeros).toArray 27)).setRow w2.heap.size (ints M).toArray = W at *
  refine wpList_nil ?_
  simp only [Act.put, List.setIfInBounds_toArray, List.set_cons_zero, List.set_cons_succ]
  iterate 4 go_step
  refine list_take (v := vecV M) (by kernel_rfl) (exec_mat m27 rfl hM (by kernel_rfl) h0) ?_
  refine list_call (F := 10) (vs := #[vecV M, .int .i64 2]) (v := vecV (two 1 1)) (by kernel_rfl) (fun _ => by kernel_rfl) H3 (fun w3 hb3 => ?_)
  have h3 := h0.on hb3
  refine list_take (v := vecV (two 1 1)) (by kernel_rfl) (by kernel_rfl) ?_
  refine list_take (v := .bool true) (by kernel_rfl) (exec_bin rfl (by kernel_rfl) (by kernel_rfl) (fun _ => by kernel_rfl) (eqv (x := two 1 1) (y := two 1 1) rfl rfl (decide_eq_true rfl)) _) ?_
  refine list_take (v := .bool true) (by kernel_rfl) (by kernel_rfl) ?_
  refine list_take (v := vecV M) (by kernel_rfl) (exec_mat m27 rfl hM (by kernel_rfl) h3) ?_
  refine list_take (v := dotV 1 1) (by kernel_rfl) (by kernel_rfl) ?_
  simp only [Act.put, List.setIfInBounds_toArray, List.set_cons_zero, List.set_cons_succ]
  refine list_call (F := 12) (vs := #[vecV M, .int .i64 2, dotV 1 1]) (v := .bool true) (by kernel_rfl) (fun _ => by kernel_rfl) H4 (fun w4 hb4 => ?_)
  have h4 := h3.on hb4
  refine list_take (v := .bool true) (by kernel_rfl) (by kernel_rfl) ?_
  refine list_take (v := .bool true) (by kernel_rfl) (by kernel_rfl) ?_
  refine list_take (v := vecV M) (by kernel_rfl) (exec_mat m27 rfl hM (by kernel_rfl) h4) ?_
  refine list_take (v := dotV 1 1) (by kernel_rfl) (by kernel_rfl) ?_
  simp only [Act.put, List.setIfInBounds_toArray, List.set_cons_zero, List.set_cons_succ]
  refine list_call (F := 12) (vs := #[vecV M, .int .i64 3, dotV 1 1]) (v := .bool false) (by kernel_rfl) (fun _ => by kernel_rfl) H5 (fun w5 hb5 => ?_)
  refine list_take (v := .bool true) (by kernel_rfl) (exec_un rfl (by kernel_rfl) (not_of false) _) ?_
  refine list_take (v := .bool true) (by kernel_rfl) (by kernel_rfl) ?_
  refine list_take (v := .bool true) (by kernel_rfl) (by kernel_rfl) ?_
  simp only [Act.put, List.setIfInBounds_toArray, List.set_cons_zero, List.set_cons_succ]
  refine wpList_nil ?_
  go_wp2
  go_ret
  exact ⟨rfl, bchain (bchain (bchain hB hb3) hb4) hb5⟩
end Go.Proofs.Ytmifkfeobdnocaa
