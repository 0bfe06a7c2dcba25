/- The walk of the statement MatrixRises, where the dot is stable. -/
import Derived.Test.YtmifkfeobdnocaaHeldR
namespace Go.Proofs.Ytmifkfeobdnocaa
open Go.RowKit
set_option linter.unusedVariables false

set_option maxRecDepth 20000 in
set_option maxHeartbeats 8000000 in
theorem rises_true (m : List Int) (i : Int) (v : List Int) (n r d : Int) (hm : m.length = 256) (hv : v.length = 16) (hX0 : Vc.has (Mx.frontier m n) r d = true) (w : World) : Calls Try.prog 4 #[vecV m, .int .i64 i, vecV v, .int .i64 n, dotV r d] w fun e w' => e = .returned (.bool true) ∧ Below w.heap.size w w' := by
  have hl := Mx.learn_length (v := v) (i := i) hm
  have H7 := learn_any m v hm hv i
  have e0 : MatAt 24 (((w.alloc (.cells (ints m).toArray 24)).alloc (.cells (ints v).toArray 23)).alloc (.cells #[.int .i64 r, .int .i64 d] 26)) w.heap.size m := ((MatAt.new 24 w m).alloc _).alloc _
  have e1 : VecAt (((w.alloc (.cells (ints m).toArray 24)).alloc (.cells (ints v).toArray 23)).alloc (.cells #[.int .i64 r, .int .i64 d] 26)) (w.heap.size + 1) v := (VecAt.new' (by simp) v).alloc _
  have e2 : Dots w (w.heap.size + 1 + 1) r d (((w.alloc (.cells (ints m).toArray 24)).alloc (.cells (ints v).toArray 23)).alloc (.cells #[.int .i64 r, .int .i64 d] 26)) := dots_new (by simp) (below_new2 _ _ _) r d
  have e3 : MatAt 27 ((((w.alloc (.cells (ints m).toArray 24)).alloc (.cells (ints v).toArray 23)).alloc (.cells #[.int .i64 r, .int .i64 d] 26)).alloc (.cells (ints zeros).toArray 27)) (w.heap.size + 1 + 1 + 1) zeros := MatAt.new' (by simp) 27 zeros
  have f1 : VecAt (((((w.alloc (.cells (ints m).toArray 24)).alloc (.cells (ints v).toArray 23)).alloc (.cells #[.int .i64 r, .int .i64 d] 26)).alloc (.cells (ints zeros).toArray 27)).setRow (w.heap.size + 1 + 1 + 1) (ints m).toArray) (w.heap.size + 1) v := (e1.alloc _).other_row (by omega) _
  have f2 : Dots w (w.heap.size + 1 + 1) r d (((((w.alloc (.cells (ints m).toArray 24)).alloc (.cells (ints v).toArray 23)).alloc (.cells #[.int .i64 r, .int .i64 d] 26)).alloc (.cells (ints zeros).toArray 27)).setRow (w.heap.size + 1 + 1 + 1) (ints m).toArray) := dots_row (e2.on (below_new _ _)) (by omega) (by omega) _
  have f3 : MatAt 27 (((((w.alloc (.cells (ints m).toArray 24)).alloc (.cells (ints v).toArray 23)).alloc (.cells #[.int .i64 r, .int .i64 d] 26)).alloc (.cells (ints zeros).toArray 27)).setRow (w.heap.size + 1 + 1 + 1) (ints m).toArray) (w.heap.size + 1 + 1 + 1) m := e3.row m
  have hz := zero27
  obtain ⟨M, hM⟩ : ∃ M, M = Mx.learn m i v := ⟨_, rfl⟩
  rw [← hM] at H7 hl
  have HM : Hid (M = Mx.learn m i v) := hM
  clear hM
  have HX : Hid (Vc.has (Mx.frontier m n) r d = true) := hX0
  clear hX0
  go_enter Try.func4, Try.ntmps4
  go_wp2_with (first
    | (with_reducible refine load_mat m24 rfl _ rfl w.heap.size m hm (by kernel_rfl) e0 ?_)
    | (with_reducible refine store_mat m27 rfl _ _ rfl (w.heap.size + 1 + 1 + 1) m zeros hm zeros_length (by kernel_rfl) (by kernel_rfl) e3 ?_)
    | (with_reducible refine load_mat m27 rfl _ rfl (w.heap.size + 1 + 1 + 1) m hm (by kernel_rfl) f3 ?_)
    | (with_reducible refine load_vec rfl _ rfl (w.heap.size + 1) v hv (by kernel_rfl) f1 ?_)
    | (go_at_call 7; refine (H7 _).mono ?_; rintro e w1 ⟨rfl, hb⟩)
    | (with_reducible refine store_mat m27 rfl _ _ rfl w1.heap.size M zeros hl zeros_length (by kernel_rfl) (by kernel_rfl) (MatAt.new 27 w1 zeros) ?_))
  have hne : w.heap.size + 1 + 1 + 1 < w1.heap.size := (f3.on hb).lt
  have hS : HeldR w m M w1.heap.size r d ((w1.alloc (.cells (ints zeros).toArray 27)).setRow w1.heap.size (ints M).toArray) :=
    ⟨((f3.on hb).alloc _).other_row (by omega) _, (MatAt.new 27 w1 zeros).row M, dots_row ((f2.on hb).on (below_new _ _)) (by omega) (by omega) _⟩
  clear hz e0 e1 e2 e3 f1 f2 f3 hb H7
  generalize w1.heap.size = c at *
  generalize (w1.alloc (.cells (ints zeros).toArray 27)).setRow c (ints M).toArray = W at *
  have hM := HM.out
  have H1 := frontier_any m hm n
  have H2 := frontier_any M hl n
  have H3 := refWithin_vec _ _ (Mx.frontier_length (n := n) hm) (Mx.frontier_length (n := n) hl)
  rw [hM, Mx.frontier_rises hm, ← hM] at H3
  have H4 := stable_any m hm n r d
  have H5 := stable_any M hl n r d
  have H6 := stable_any m hm (n + 1) r d
  have HS : Vc.has (Mx.frontier m n) r d = true → Vc.has (Mx.frontier M n) r d = true := fun h => by rw [hM]; exact Mx.stable_stays hm h
  have HT : 1 ≤ n → n ≤ 15 → Vc.has (Mx.frontier m (n + 1)) r d = true → Vc.has (Mx.frontier m n) r d = true := fun h1 h2 h => Mx.stable_fewer hm r d h1 h2 h
  have hX := HX.out
  clear hM HM HX
  generalize Vc.has (Mx.frontier m n) r d = X at *
  generalize Vc.has (Mx.frontier M n) r d = Y at *
  generalize Vc.has (Mx.frontier m (n + 1)) r d = Z at *
  generalize Mx.frontier m n = F1 at *
  generalize Mx.frontier M n = F2 at *
  subst hX
  obtain rfl := HS rfl
  refine wp_region_held_drew (S := HeldR w m M c r d) (by kernel_rfl) (hS.drew) (fun hH0 => ?_)
  refine held_take (i := 0) (o := { dst := some 18, op := Op.load 27 (Operand.tmp 11), type := 27, pos := "law.go:44", after := #[], guard := none }) (v := vecV m) (by kernel_rfl) (by kernel_rfl) (by kernel_rfl) (by kernel_rfl) (fun _ _ _ h => h) (by kernel_rfl) (fun _ h => exec_mat m27 rfl hm (by kernel_rfl) h.1) hH0 ?_
  refine held_take (i := 1) (o := { dst := some 19, op := Op.move (Operand.tmp 3), type := 3, pos := "law.go:44", after := #[], guard := none }) (v := .int .i64 n) (by kernel_rfl) (by kernel_rfl) (by kernel_rfl) (by kernel_rfl) (fun _ _ _ h => h) (by kernel_rfl) (fun _ _ => by kernel_rfl) hH0 ?_
  refine held_take (i := 3) (o := { dst := some 21, op := Op.load 27 (Operand.tmp 12), type := 27, pos := "law.go:44", after := #[], guard := none }) (v := vecV M) (by kernel_rfl) (by kernel_rfl) (by kernel_rfl) (by kernel_rfl) (fun _ _ _ h => h) (by kernel_rfl) (fun _ h => exec_mat m27 rfl hl (by kernel_rfl) h.2.1) hH0 ?_
  refine held_take (i := 4) (o := { dst := some 22, op := Op.move (Operand.tmp 3), type := 3, pos := "law.go:44", after := #[], guard := none }) (v := .int .i64 n) (by kernel_rfl) (by kernel_rfl) (by kernel_rfl) (by kernel_rfl) (fun _ _ _ h => h) (by kernel_rfl) (fun _ _ => by kernel_rfl) hH0 ?_
  refine held_call (i := 2) (o := { dst := some 20, op := Op.call { callee := Callee.value (Operand.func 10), args := #[Operand.tmp 18, Operand.tmp 19], argTypes := #[27, 3] }, type := 23, pos := "law.go:44", after := #[{ on := 0, ground := Ground.data }, { on := 1, ground := Ground.data }], guard := none }) (F := 10) (vs := #[vecV m, .int .i64 n]) (v := vecV F1) (by kernel_rfl) (by kernel_rfl) (by kernel_rfl) (fun _ => by kernel_rfl) (H1) (fun _ hb => hH0.on hb) (fun w1 hH1 => ?_)
  clear hH0
  refine held_call (i := 5) (o := { dst := some 23, op := Op.call { callee := Callee.value (Operand.func 10), args := #[Operand.tmp 21, Operand.tmp 22], argTypes := #[27, 3] }, type := 23, pos := "law.go:44", after := #[{ on := 3, ground := Ground.data }, { on := 4, ground := Ground.data }, { on := 2, ground := Ground.chain }], guard := none }) (F := 10) (vs := #[vecV M, .int .i64 n]) (v := vecV F2) (by kernel_rfl) (by kernel_rfl) (by kernel_rfl) (fun _ => by kernel_rfl) (H2) (fun _ hb => hH1.on hb) (fun w2 hH2 => ?_)
  clear hH1
  refine held_call (i := 6) (o := { dst := some 24, op := Op.call { callee := Callee.value (Operand.func 18), args := #[Operand.tmp 20, Operand.tmp 23], argTypes := #[23, 23] }, type := 4, pos := "law.go:44", after := #[{ on := 2, ground := Ground.data }, { on := 5, ground := Ground.data }, { on := 5, ground := Ground.chain }], guard := none }) (F := 18) (vs := #[vecV F1, vecV F2]) (v := .bool true) (by kernel_rfl) (by kernel_rfl) (by kernel_rfl) (fun _ => by kernel_rfl) (H3) (fun _ hb => hH2.on hb) (fun w3 hH3 => ?_)
  clear hH2
  refine held_take (i := 7) (o := { dst := some 25, op := Op.unOp UnOp.not 4 (Operand.tmp 24), type := 4, pos := "law.go:44", after := #[{ on := 6, ground := Ground.data }], guard := none }) (v := .bool false) (by kernel_rfl) (by kernel_rfl) (by kernel_rfl) (by kernel_rfl) (fun _ _ _ h => h) (by kernel_rfl) (fun W _ => exec_un rfl (by kernel_rfl) (not_of true) W) hH3 ?_
  refine held_take (i := 8) (o := { dst := some 26, op := Op.move (Operand.tmp 25), type := 4, pos := "law.go:44", after := #[{ on := 7, ground := Ground.data }, { on := 6, ground := Ground.chain }], guard := none }) (v := .bool false) (by kernel_rfl) (by kernel_rfl) (by kernel_rfl) (by kernel_rfl) (fun _ _ _ h => h) (by kernel_rfl) (fun _ _ => by kernel_rfl) hH3 ?_
  refine held_take (i := 9) (o := { dst := some 27, op := Op.load 27 (Operand.tmp 11), type := 27, pos := "law.go:44", after := #[{ on := 8, ground := Ground.guard }], guard := some (8, false) }) (v := vecV m) (by kernel_rfl) (by kernel_rfl) (by kernel_rfl) (by kernel_rfl) (fun _ _ _ h => h) (by kernel_rfl) (fun _ h => exec_mat m27 rfl hm (by kernel_rfl) h.1) hH3 ?_
  refine held_take (i := 10) (o := { dst := some 28, op := Op.move (Operand.tmp 3), type := 3, pos := "law.go:44", after := #[{ on := 8, ground := Ground.guard }], guard := some (8, false) }) (v := .int .i64 n) (by kernel_rfl) (by kernel_rfl) (by kernel_rfl) (by kernel_rfl) (fun _ _ _ h => h) (by kernel_rfl) (fun _ _ => by kernel_rfl) hH3 ?_
  refine held_take (i := 11) (o := { dst := some 29, op := Op.load 26 (Operand.tmp 9), type := 26, pos := "law.go:44", after := #[{ on := 8, ground := Ground.guard }], guard := some (8, false) }) (v := dotV r d) (by kernel_rfl) (by kernel_rfl) (by kernel_rfl) (by kernel_rfl) (fun _ _ _ h => h) (by kernel_rfl) (fun _ h => exec_dot rfl (by kernel_rfl) h.2.2.1 h.2.2.2.1) hH3 ?_
  refine held_call (i := 12) (o := { dst := some 30, op := Op.call { callee := Callee.value (Operand.func 12), args := #[Operand.tmp 27, Operand.tmp 28, Operand.tmp 29], argTypes := #[27, 3, 26] }, type := 4, pos := "law.go:44", after := #[{ on := 9, ground := Ground.data }, { on := 10, ground := Ground.data }, { on := 11, ground := Ground.data }, { on := 8, ground := Ground.chain }, { on := 8, ground := Ground.guard }], guard := some (8, false) }) (F := 12) (vs := #[vecV m, .int .i64 n, dotV r d]) (v := .bool true) (by kernel_rfl) (by kernel_rfl) (by kernel_rfl) (fun _ => by kernel_rfl) (H4) (fun _ hb => hH3.on hb) (fun w4 hH4 => ?_)
  clear hH3
  refine held_take (i := 13) (o := { dst := some 31, op := Op.move (Operand.tmp 30), type := 4, pos := "law.go:44", after := #[{ on := 12, ground := Ground.data }, { on := 12, ground := Ground.chain }, { on := 8, ground := Ground.guard }], guard := some (8, false) }) (v := .bool true) (by kernel_rfl) (by kernel_rfl) (by kernel_rfl) (by kernel_rfl) (fun _ _ _ h => h) (by kernel_rfl) (fun _ _ => by kernel_rfl) hH4 ?_
  refine held_take (i := 14) (o := { dst := some 32, op := Op.load 27 (Operand.tmp 12), type := 27, pos := "law.go:44", after := #[{ on := 13, ground := Ground.guard }], guard := some (13, true) }) (v := vecV M) (by kernel_rfl) (by kernel_rfl) (by kernel_rfl) (by kernel_rfl) (fun _ _ _ h => h) (by kernel_rfl) (fun _ h => exec_mat m27 rfl hl (by kernel_rfl) h.2.1) hH4 ?_
  refine held_take (i := 15) (o := { dst := some 33, op := Op.move (Operand.tmp 3), type := 3, pos := "law.go:44", after := #[{ on := 13, ground := Ground.guard }], guard := some (13, true) }) (v := .int .i64 n) (by kernel_rfl) (by kernel_rfl) (by kernel_rfl) (by kernel_rfl) (fun _ _ _ h => h) (by kernel_rfl) (fun _ _ => by kernel_rfl) hH4 ?_
  refine held_take (i := 16) (o := { dst := some 34, op := Op.load 26 (Operand.tmp 9), type := 26, pos := "law.go:44", after := #[{ on := 13, ground := Ground.guard }], guard := some (13, true) }) (v := dotV r d) (by kernel_rfl) (by kernel_rfl) (by kernel_rfl) (by kernel_rfl) (fun _ _ _ h => h) (by kernel_rfl) (fun _ h => exec_dot rfl (by kernel_rfl) h.2.2.1 h.2.2.2.1) hH4 ?_
  refine held_call (i := 17) (o := { dst := some 35, op := Op.call { callee := Callee.value (Operand.func 12), args := #[Operand.tmp 32, Operand.tmp 33, Operand.tmp 34], argTypes := #[27, 3, 26] }, type := 4, pos := "law.go:44", after := #[{ on := 14, ground := Ground.data }, { on := 15, ground := Ground.data }, { on := 16, ground := Ground.data }, { on := 13, ground := Ground.chain }, { on := 13, ground := Ground.guard }], guard := some (13, true) }) (F := 12) (vs := #[vecV M, .int .i64 n, dotV r d]) (v := .bool true) (by kernel_rfl) (by kernel_rfl) (by kernel_rfl) (fun _ => by kernel_rfl) (H5) (fun _ hb => hH4.on hb) (fun w5 hH5 => ?_)
  clear hH4
  refine held_take (i := 18) (o := { dst := some 36, op := Op.unOp UnOp.not 4 (Operand.tmp 35), type := 4, pos := "law.go:44", after := #[{ on := 17, ground := Ground.data }, { on := 13, ground := Ground.guard }], guard := some (13, true) }) (v := .bool false) (by kernel_rfl) (by kernel_rfl) (by kernel_rfl) (by kernel_rfl) (fun _ _ _ h => h) (by kernel_rfl) (fun W _ => exec_un rfl (by kernel_rfl) (not_of true) W) hH5 ?_
  refine held_take (i := 19) (o := { dst := some 37, op := Op.pick (Operand.tmp 31) (Operand.tmp 36) (Operand.const (Value.bool false)), type := 4, pos := "law.go:44", after := #[{ on := 13, ground := Ground.data }, { on := 18, ground := Ground.data }, { on := 8, ground := Ground.guard }], guard := some (8, false) }) (v := .bool false) (by kernel_rfl) (by kernel_rfl) (by kernel_rfl) (by kernel_rfl) (fun _ _ _ h => h) (by kernel_rfl) (fun _ _ => by kernel_rfl) hH5 ?_
  refine held_take (i := 20) (o := { dst := some 38, op := Op.pick (Operand.tmp 26) (Operand.const (Value.bool true)) (Operand.tmp 37), type := 4, pos := "law.go:44", after := #[{ on := 8, ground := Ground.data }, { on := 19, ground := Ground.data }], guard := none }) (v := .bool false) (by kernel_rfl) (by kernel_rfl) (by kernel_rfl) (by kernel_rfl) (fun _ _ _ h => h) (by kernel_rfl) (fun _ _ => by kernel_rfl) hH5 ?_
  refine wpAnyH_done (by kernel_rfl) ?_ _
  simp only [Act.put, List.setIfInBounds_toArray, List.set_cons_zero, List.set_cons_succ]
  have hQ := hH5
  clear H1 H2 H3 H5 hS
  iterate 8 go_step
  by_cases hlo : n < 1
  · refine list_take (v := .int .i64 n) (by kernel_rfl) (by kernel_rfl) ?_
    simp only [Act.put, List.setIfInBounds_toArray, List.set_cons_zero, List.set_cons_succ]
    refine list_take (v := .bool true) (by kernel_rfl) (exec_bin rfl (by kernel_rfl) (by kernel_rfl) (fun _ => by kernel_rfl) (lssb (a := n) (b := 1) hlo) _) ?_
    simp only [Act.put, List.setIfInBounds_toArray, List.set_cons_zero, List.set_cons_succ]
    refine list_take (v := .bool true) (by kernel_rfl) (by kernel_rfl) ?_
    simp only [Act.put, List.setIfInBounds_toArray, List.set_cons_zero, List.set_cons_succ]
    refine wpList_skip (by kernel_rfl) ?_
    simp only [Act.put, List.setIfInBounds_toArray, List.set_cons_zero, List.set_cons_succ]
    refine wpList_skip (by kernel_rfl) ?_
    simp only [Act.put, List.setIfInBounds_toArray, List.set_cons_zero, List.set_cons_succ]
    refine list_take (v := .bool true) (by kernel_rfl) (by kernel_rfl) ?_
    simp only [Act.put, List.setIfInBounds_toArray, List.set_cons_zero, List.set_cons_succ]
    refine list_take (v := .bool true) (by kernel_rfl) (by kernel_rfl) ?_
    simp only [Act.put, List.setIfInBounds_toArray, List.set_cons_zero, List.set_cons_succ]
    refine wpList_skip (by kernel_rfl) ?_
    simp only [Act.put, List.setIfInBounds_toArray, List.set_cons_zero, List.set_cons_succ]
    refine wpList_skip (by kernel_rfl) ?_
    simp only [Act.put, List.setIfInBounds_toArray, List.set_cons_zero, List.set_cons_succ]
    refine wpList_skip (by kernel_rfl) ?_
    simp only [Act.put, List.setIfInBounds_toArray, List.set_cons_zero, List.set_cons_succ]
    refine wpList_skip (by kernel_rfl) ?_
    simp only [Act.put, List.setIfInBounds_toArray, List.set_cons_zero, List.set_cons_succ]
    refine wpList_skip (by kernel_rfl) ?_
    simp only [Act.put, List.setIfInBounds_toArray, List.set_cons_zero, List.set_cons_succ]
    refine wpList_skip (by kernel_rfl) ?_
    simp only [Act.put, List.setIfInBounds_toArray, List.set_cons_zero, List.set_cons_succ]
    refine list_take (v := .bool true) (by kernel_rfl) (by kernel_rfl) ?_
    simp only [Act.put, List.setIfInBounds_toArray, List.set_cons_zero, List.set_cons_succ]
    refine list_take (v := .bool true) (by kernel_rfl) (by kernel_rfl) ?_
    simp only [Act.put, List.setIfInBounds_toArray, List.set_cons_zero, List.set_cons_succ]
    refine wpList_skip (by kernel_rfl) ?_
    simp only [Act.put, List.setIfInBounds_toArray, List.set_cons_zero, List.set_cons_succ]
    refine wpList_skip (by kernel_rfl) ?_
    simp only [Act.put, List.setIfInBounds_toArray, List.set_cons_zero, List.set_cons_succ]
    refine wpList_skip (by kernel_rfl) ?_
    simp only [Act.put, List.setIfInBounds_toArray, List.set_cons_zero, List.set_cons_succ]
    refine wpList_skip (by kernel_rfl) ?_
    simp only [Act.put, List.setIfInBounds_toArray, List.set_cons_zero, List.set_cons_succ]
    refine list_take (v := .bool true) (by kernel_rfl) (by kernel_rfl) ?_
    simp only [Act.put, List.setIfInBounds_toArray, List.set_cons_zero, List.set_cons_succ]
    refine list_take (v := .bool true) (by kernel_rfl) (by kernel_rfl) ?_
    simp only [Act.put, List.setIfInBounds_toArray, List.set_cons_zero, List.set_cons_succ]
    refine list_call (F := 17) (vs := #[]) (v := .bool true) (by kernel_rfl) (fun _ => by kernel_rfl) (awake_any) (fun v1 hb1 => ?_)
    have hP1 := hQ.on hb1
    simp only [Act.put, List.setIfInBounds_toArray, List.set_cons_zero, List.set_cons_succ]
    refine list_take (v := .bool true) (by kernel_rfl) (by kernel_rfl) ?_
    simp only [Act.put, List.setIfInBounds_toArray, List.set_cons_zero, List.set_cons_succ]
    refine list_take (v := .bool true) (by kernel_rfl) (by kernel_rfl) ?_
    simp only [Act.put, List.setIfInBounds_toArray, List.set_cons_zero, List.set_cons_succ]
    refine wpList_nil ?_
    go_wp2
    go_ret
    exact ⟨rfl, hP1.2.2.2.2⟩
  · by_cases hhi : 15 < n
    · refine list_take (v := .int .i64 n) (by kernel_rfl) (by kernel_rfl) ?_
      simp only [Act.put, List.setIfInBounds_toArray, List.set_cons_zero, List.set_cons_succ]
      refine list_take (v := .bool false) (by kernel_rfl) (exec_bin rfl (by kernel_rfl) (by kernel_rfl) (fun _ => by kernel_rfl) (lssb_not (a := n) (b := 1) (by omega)) _) ?_
      simp only [Act.put, List.setIfInBounds_toArray, List.set_cons_zero, List.set_cons_succ]
      refine list_take (v := .bool false) (by kernel_rfl) (by kernel_rfl) ?_
      simp only [Act.put, List.setIfInBounds_toArray, List.set_cons_zero, List.set_cons_succ]
      refine list_take (v := .int .i64 n) (by kernel_rfl) (by kernel_rfl) ?_
      simp only [Act.put, List.setIfInBounds_toArray, List.set_cons_zero, List.set_cons_succ]
      refine list_take (v := .bool true) (by kernel_rfl) (exec_bin rfl (by kernel_rfl) (by kernel_rfl) (fun _ => by kernel_rfl) (gtrb (a := n) (b := 15) hhi) _) ?_
      simp only [Act.put, List.setIfInBounds_toArray, List.set_cons_zero, List.set_cons_succ]
      refine list_take (v := .bool true) (by kernel_rfl) (by kernel_rfl) ?_
      simp only [Act.put, List.setIfInBounds_toArray, List.set_cons_zero, List.set_cons_succ]
      refine list_take (v := .bool true) (by kernel_rfl) (by kernel_rfl) ?_
      simp only [Act.put, List.setIfInBounds_toArray, List.set_cons_zero, List.set_cons_succ]
      refine wpList_skip (by kernel_rfl) ?_
      simp only [Act.put, List.setIfInBounds_toArray, List.set_cons_zero, List.set_cons_succ]
      refine wpList_skip (by kernel_rfl) ?_
      simp only [Act.put, List.setIfInBounds_toArray, List.set_cons_zero, List.set_cons_succ]
      refine wpList_skip (by kernel_rfl) ?_
      simp only [Act.put, List.setIfInBounds_toArray, List.set_cons_zero, List.set_cons_succ]
      refine wpList_skip (by kernel_rfl) ?_
      simp only [Act.put, List.setIfInBounds_toArray, List.set_cons_zero, List.set_cons_succ]
      refine wpList_skip (by kernel_rfl) ?_
      simp only [Act.put, List.setIfInBounds_toArray, List.set_cons_zero, List.set_cons_succ]
      refine wpList_skip (by kernel_rfl) ?_
      simp only [Act.put, List.setIfInBounds_toArray, List.set_cons_zero, List.set_cons_succ]
      refine list_take (v := .bool true) (by kernel_rfl) (by kernel_rfl) ?_
      simp only [Act.put, List.setIfInBounds_toArray, List.set_cons_zero, List.set_cons_succ]
      refine list_take (v := .bool true) (by kernel_rfl) (by kernel_rfl) ?_
      simp only [Act.put, List.setIfInBounds_toArray, List.set_cons_zero, List.set_cons_succ]
      refine wpList_skip (by kernel_rfl) ?_
      simp only [Act.put, List.setIfInBounds_toArray, List.set_cons_zero, List.set_cons_succ]
      refine wpList_skip (by kernel_rfl) ?_
      simp only [Act.put, List.setIfInBounds_toArray, List.set_cons_zero, List.set_cons_succ]
      refine wpList_skip (by kernel_rfl) ?_
      simp only [Act.put, List.setIfInBounds_toArray, List.set_cons_zero, List.set_cons_succ]
      refine wpList_skip (by kernel_rfl) ?_
      simp only [Act.put, List.setIfInBounds_toArray, List.set_cons_zero, List.set_cons_succ]
      refine list_take (v := .bool true) (by kernel_rfl) (by kernel_rfl) ?_
      simp only [Act.put, List.setIfInBounds_toArray, List.set_cons_zero, List.set_cons_succ]
      refine list_take (v := .bool true) (by kernel_rfl) (by kernel_rfl) ?_
      simp only [Act.put, List.setIfInBounds_toArray, List.set_cons_zero, List.set_cons_succ]
      refine list_call (F := 17) (vs := #[]) (v := .bool true) (by kernel_rfl) (fun _ => by kernel_rfl) (awake_any) (fun v1 hb1 => ?_)
      have hP1 := hQ.on hb1
      simp only [Act.put, List.setIfInBounds_toArray, List.set_cons_zero, List.set_cons_succ]
      refine list_take (v := .bool true) (by kernel_rfl) (by kernel_rfl) ?_
      simp only [Act.put, List.setIfInBounds_toArray, List.set_cons_zero, List.set_cons_succ]
      refine list_take (v := .bool true) (by kernel_rfl) (by kernel_rfl) ?_
      simp only [Act.put, List.setIfInBounds_toArray, List.set_cons_zero, List.set_cons_succ]
      refine wpList_nil ?_
      go_wp2
      go_ret
      exact ⟨rfl, hP1.2.2.2.2⟩
    · cases Z
      · refine list_take (v := .int .i64 n) (by kernel_rfl) (by kernel_rfl) ?_
        simp only [Act.put, List.setIfInBounds_toArray, List.set_cons_zero, List.set_cons_succ]
        refine list_take (v := .bool false) (by kernel_rfl) (exec_bin rfl (by kernel_rfl) (by kernel_rfl) (fun _ => by kernel_rfl) (lssb_not (a := n) (b := 1) (by omega)) _) ?_
        simp only [Act.put, List.setIfInBounds_toArray, List.set_cons_zero, List.set_cons_succ]
        refine list_take (v := .bool false) (by kernel_rfl) (by kernel_rfl) ?_
        simp only [Act.put, List.setIfInBounds_toArray, List.set_cons_zero, List.set_cons_succ]
        refine list_take (v := .int .i64 n) (by kernel_rfl) (by kernel_rfl) ?_
        simp only [Act.put, List.setIfInBounds_toArray, List.set_cons_zero, List.set_cons_succ]
        refine list_take (v := .bool false) (by kernel_rfl) (exec_bin rfl (by kernel_rfl) (by kernel_rfl) (fun _ => by kernel_rfl) (gtrb_not (a := n) (b := 15) (by omega)) _) ?_
        simp only [Act.put, List.setIfInBounds_toArray, List.set_cons_zero, List.set_cons_succ]
        refine list_take (v := .bool false) (by kernel_rfl) (by kernel_rfl) ?_
        simp only [Act.put, List.setIfInBounds_toArray, List.set_cons_zero, List.set_cons_succ]
        refine list_take (v := .bool false) (by kernel_rfl) (by kernel_rfl) ?_
        simp only [Act.put, List.setIfInBounds_toArray, List.set_cons_zero, List.set_cons_succ]
        refine list_take (v := vecV m) (by kernel_rfl) (exec_mat m27 rfl hm (by kernel_rfl) hQ.1) ?_
        simp only [Act.put, List.setIfInBounds_toArray, List.set_cons_zero, List.set_cons_succ]
        refine list_take (v := .int .i64 n) (by kernel_rfl) (by kernel_rfl) ?_
        simp only [Act.put, List.setIfInBounds_toArray, List.set_cons_zero, List.set_cons_succ]
        refine list_take (v := .int .i64 (n + 1)) (by kernel_rfl) (exec_bin rfl (by kernel_rfl) (by kernel_rfl) (fun _ => by kernel_rfl) (add_small (a := n) (b := 1) (by omega) (by omega)) _) ?_
        simp only [Act.put, List.setIfInBounds_toArray, List.set_cons_zero, List.set_cons_succ]
        refine list_take (v := dotV r d) (by kernel_rfl) (exec_dot rfl (by kernel_rfl) hQ.2.2.1 hQ.2.2.2.1) ?_
        simp only [Act.put, List.setIfInBounds_toArray, List.set_cons_zero, List.set_cons_succ]
        refine list_call (F := 12) (vs := #[vecV m, .int .i64 (n + 1), dotV r d]) (v := .bool false) (by kernel_rfl) (fun _ => by kernel_rfl) (H6) (fun v1 hb1 => ?_)
        have hP1 := hQ.on hb1
        simp only [Act.put, List.setIfInBounds_toArray, List.set_cons_zero, List.set_cons_succ]
        refine list_take (v := .bool true) (by kernel_rfl) (exec_un rfl (by kernel_rfl) (not_of false) _) ?_
        simp only [Act.put, List.setIfInBounds_toArray, List.set_cons_zero, List.set_cons_succ]
        refine list_take (v := .bool true) (by kernel_rfl) (by kernel_rfl) ?_
        simp only [Act.put, List.setIfInBounds_toArray, List.set_cons_zero, List.set_cons_succ]
        refine list_take (v := .bool true) (by kernel_rfl) (by kernel_rfl) ?_
        simp only [Act.put, List.setIfInBounds_toArray, List.set_cons_zero, List.set_cons_succ]
        refine wpList_skip (by kernel_rfl) ?_
        simp only [Act.put, List.setIfInBounds_toArray, List.set_cons_zero, List.set_cons_succ]
        refine wpList_skip (by kernel_rfl) ?_
        simp only [Act.put, List.setIfInBounds_toArray, List.set_cons_zero, List.set_cons_succ]
        refine wpList_skip (by kernel_rfl) ?_
        simp only [Act.put, List.setIfInBounds_toArray, List.set_cons_zero, List.set_cons_succ]
        refine wpList_skip (by kernel_rfl) ?_
        simp only [Act.put, List.setIfInBounds_toArray, List.set_cons_zero, List.set_cons_succ]
        refine list_take (v := .bool true) (by kernel_rfl) (by kernel_rfl) ?_
        simp only [Act.put, List.setIfInBounds_toArray, List.set_cons_zero, List.set_cons_succ]
        refine list_take (v := .bool true) (by kernel_rfl) (by kernel_rfl) ?_
        simp only [Act.put, List.setIfInBounds_toArray, List.set_cons_zero, List.set_cons_succ]
        refine list_call (F := 17) (vs := #[]) (v := .bool true) (by kernel_rfl) (fun _ => by kernel_rfl) (awake_any) (fun v2 hb2 => ?_)
        have hP2 := hP1.on hb2
        simp only [Act.put, List.setIfInBounds_toArray, List.set_cons_zero, List.set_cons_succ]
        refine list_take (v := .bool true) (by kernel_rfl) (by kernel_rfl) ?_
        simp only [Act.put, List.setIfInBounds_toArray, List.set_cons_zero, List.set_cons_succ]
        refine list_take (v := .bool true) (by kernel_rfl) (by kernel_rfl) ?_
        simp only [Act.put, List.setIfInBounds_toArray, List.set_cons_zero, List.set_cons_succ]
        refine wpList_nil ?_
        go_wp2
        go_ret
        exact ⟨rfl, hP2.2.2.2.2⟩
      · refine list_take (v := .int .i64 n) (by kernel_rfl) (by kernel_rfl) ?_
        simp only [Act.put, List.setIfInBounds_toArray, List.set_cons_zero, List.set_cons_succ]
        refine list_take (v := .bool false) (by kernel_rfl) (exec_bin rfl (by kernel_rfl) (by kernel_rfl) (fun _ => by kernel_rfl) (lssb_not (a := n) (b := 1) (by omega)) _) ?_
        simp only [Act.put, List.setIfInBounds_toArray, List.set_cons_zero, List.set_cons_succ]
        refine list_take (v := .bool false) (by kernel_rfl) (by kernel_rfl) ?_
        simp only [Act.put, List.setIfInBounds_toArray, List.set_cons_zero, List.set_cons_succ]
        refine list_take (v := .int .i64 n) (by kernel_rfl) (by kernel_rfl) ?_
        simp only [Act.put, List.setIfInBounds_toArray, List.set_cons_zero, List.set_cons_succ]
        refine list_take (v := .bool false) (by kernel_rfl) (exec_bin rfl (by kernel_rfl) (by kernel_rfl) (fun _ => by kernel_rfl) (gtrb_not (a := n) (b := 15) (by omega)) _) ?_
        simp only [Act.put, List.setIfInBounds_toArray, List.set_cons_zero, List.set_cons_succ]
        refine list_take (v := .bool false) (by kernel_rfl) (by kernel_rfl) ?_
        simp only [Act.put, List.setIfInBounds_toArray, List.set_cons_zero, List.set_cons_succ]
        refine list_take (v := .bool false) (by kernel_rfl) (by kernel_rfl) ?_
        simp only [Act.put, List.setIfInBounds_toArray, List.set_cons_zero, List.set_cons_succ]
        refine list_take (v := vecV m) (by kernel_rfl) (exec_mat m27 rfl hm (by kernel_rfl) hQ.1) ?_
        simp only [Act.put, List.setIfInBounds_toArray, List.set_cons_zero, List.set_cons_succ]
        refine list_take (v := .int .i64 n) (by kernel_rfl) (by kernel_rfl) ?_
        simp only [Act.put, List.setIfInBounds_toArray, List.set_cons_zero, List.set_cons_succ]
        refine list_take (v := .int .i64 (n + 1)) (by kernel_rfl) (exec_bin rfl (by kernel_rfl) (by kernel_rfl) (fun _ => by kernel_rfl) (add_small (a := n) (b := 1) (by omega) (by omega)) _) ?_
        simp only [Act.put, List.setIfInBounds_toArray, List.set_cons_zero, List.set_cons_succ]
        refine list_take (v := dotV r d) (by kernel_rfl) (exec_dot rfl (by kernel_rfl) hQ.2.2.1 hQ.2.2.2.1) ?_
        simp only [Act.put, List.setIfInBounds_toArray, List.set_cons_zero, List.set_cons_succ]
        refine list_call (F := 12) (vs := #[vecV m, .int .i64 (n + 1), dotV r d]) (v := .bool true) (by kernel_rfl) (fun _ => by kernel_rfl) (H6) (fun v1 hb1 => ?_)
        have hP1 := hQ.on hb1
        simp only [Act.put, List.setIfInBounds_toArray, List.set_cons_zero, List.set_cons_succ]
        refine list_take (v := .bool false) (by kernel_rfl) (exec_un rfl (by kernel_rfl) (not_of true) _) ?_
        simp only [Act.put, List.setIfInBounds_toArray, List.set_cons_zero, List.set_cons_succ]
        refine list_take (v := .bool false) (by kernel_rfl) (by kernel_rfl) ?_
        simp only [Act.put, List.setIfInBounds_toArray, List.set_cons_zero, List.set_cons_succ]
        refine list_take (v := .bool false) (by kernel_rfl) (by kernel_rfl) ?_
        simp only [Act.put, List.setIfInBounds_toArray, List.set_cons_zero, List.set_cons_succ]
        refine list_take (v := vecV m) (by kernel_rfl) (exec_mat m27 rfl hm (by kernel_rfl) hP1.1) ?_
        simp only [Act.put, List.setIfInBounds_toArray, List.set_cons_zero, List.set_cons_succ]
        refine list_take (v := .int .i64 n) (by kernel_rfl) (by kernel_rfl) ?_
        simp only [Act.put, List.setIfInBounds_toArray, List.set_cons_zero, List.set_cons_succ]
        refine list_take (v := dotV r d) (by kernel_rfl) (exec_dot rfl (by kernel_rfl) hP1.2.2.1 hP1.2.2.2.1) ?_
        simp only [Act.put, List.setIfInBounds_toArray, List.set_cons_zero, List.set_cons_succ]
        refine list_call (F := 12) (vs := #[vecV m, .int .i64 n, dotV r d]) (v := .bool true) (by kernel_rfl) (fun _ => by kernel_rfl) (H4) (fun v2 hb2 => ?_)
        have hP2 := hP1.on hb2
        simp only [Act.put, List.setIfInBounds_toArray, List.set_cons_zero, List.set_cons_succ]
        refine list_take (v := .bool true) (by kernel_rfl) (by kernel_rfl) ?_
        simp only [Act.put, List.setIfInBounds_toArray, List.set_cons_zero, List.set_cons_succ]
        refine list_take (v := .bool true) (by kernel_rfl) (by kernel_rfl) ?_
        simp only [Act.put, List.setIfInBounds_toArray, List.set_cons_zero, List.set_cons_succ]
        refine list_call (F := 17) (vs := #[]) (v := .bool true) (by kernel_rfl) (fun _ => by kernel_rfl) (awake_any) (fun v3 hb3 => ?_)
        have hP3 := hP2.on hb3
        simp only [Act.put, List.setIfInBounds_toArray, List.set_cons_zero, List.set_cons_succ]
        refine list_take (v := .bool true) (by kernel_rfl) (by kernel_rfl) ?_
        simp only [Act.put, List.setIfInBounds_toArray, List.set_cons_zero, List.set_cons_succ]
        refine list_take (v := .bool true) (by kernel_rfl) (by kernel_rfl) ?_
        simp only [Act.put, List.setIfInBounds_toArray, List.set_cons_zero, List.set_cons_succ]
        refine wpList_nil ?_
        go_wp2
        go_ret
        exact ⟨rfl, hP3.2.2.2.2⟩
end Go.Proofs.Ytmifkfeobdnocaa
