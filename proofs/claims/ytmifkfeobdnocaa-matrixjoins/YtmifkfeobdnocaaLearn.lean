/- The walks of 'Learn', the program's and the document's. -/
import Derived.Test.YtmifkfeobdnocaaPair
namespace Go.Proofs.Ytmifkfeobdnocaa
open Go.RowKit
set_option linter.unusedVariables false

set_option maxRecDepth 20000 in
set_option maxHeartbeats 1000000 in
theorem learn_in (m v : List Int) (hm : m.length = 256) (hv : v.length = 16) (k : Nat) (hlt : k < 16) (w : World) : Calls Try.prog 7 #[vecV m, .int .i64 (k : Int), vecV v] w fun e w' => e = .returned (vecV (Mx.learn m k v)) ∧ Below w.heap.size w w' := by
  rw [Mx.learn_in hlt]
  have hj : (Vc.join (Mx.row m k) v).length = 16 := Mx.jrow hm hlt
  have hp := Mx.put_length hm hlt hj
  have hi : (0 ≤ (k : Int) ∧ (k : Int) < 16) := by omega
  have h0 : MatAt 27 (((w.alloc (.cells (ints m).toArray 27)).alloc (.cells (ints v).toArray 23)).alloc (.cells (ints zeros).toArray 27)) w.heap.size m := ((MatAt.new 27 w m).alloc _).alloc _
  have h1 : VecAt (((w.alloc (.cells (ints m).toArray 27)).alloc (.cells (ints v).toArray 23)).alloc (.cells (ints zeros).toArray 27)) (w.heap.size + 1) v := (VecAt.new' (by simp) v).alloc _
  have h2 : MatAt 27 (((w.alloc (.cells (ints m).toArray 27)).alloc (.cells (ints v).toArray 23)).alloc (.cells (ints zeros).toArray 27)) (w.heap.size + 1 + 1) zeros := MatAt.new' (by simp) 27 zeros
  have hB : Below w.heap.size w (((w.alloc (.cells (ints m).toArray 27)).alloc (.cells (ints v).toArray 23)).alloc (.cells (ints zeros).toArray 27)) := bchain (below_new2 _ _ _) (below_new _ _)
  have hz := zero27
  go_enter Try.func7, Try.ntmps7
  go_wp2_with (go_at_call 21; refine (isRow_in _ hi _).mono ?_; rintro e w1 ⟨rfl, rfl⟩)
  generalize (((w.alloc (.cells (ints m).toArray 27)).alloc (.cells (ints v).toArray 23)).alloc (.cells (ints zeros).toArray 27)) = W at *
  replace h0 := h0.drew
  replace h1 := h1.drew
  replace h2 := h2.drew
  replace hB := hB.drew
  refine wp_region_held_drew (S := fun _ => True) (by kernel_rfl) trivial (fun _ => ?_)
  refine held_take (i := 0) (o := { dst := some 9, op := Op.move (Operand.tmp 1), type := 3, pos := "matrix.go:19", after := #[], guard := none }) (v := .int .i64 (k : Int)) (by kernel_rfl) (by kernel_rfl) (by kernel_rfl) (by kernel_rfl) (fun _ _ _ h => h) (by kernel_rfl) (fun _ _ => by kernel_rfl) trivial ?_
  refine held_take (i := 1) (o := { dst := some 10, op := Op.move (Operand.tmp 1), type := 3, pos := "matrix.go:19", after := #[], guard := none }) (v := .int .i64 (k : Int)) (by kernel_rfl) (by kernel_rfl) (by kernel_rfl) (by kernel_rfl) (fun _ _ _ h => h) (by kernel_rfl) (fun _ _ => by kernel_rfl) trivial ?_
  refine held_take (i := 2) (o := { dst := some 11, op := Op.indexAddr 27 (Operand.tmp 3) (Operand.tmp 10), type := 0, pos := "matrix.go:19", after := #[{ on := 1, ground := Ground.data }], guard := none }) (v := .pointer (some ⟨w.heap.size, k * 16, none⟩)) (by kernel_rfl) (by kernel_rfl) (by kernel_rfl) (by kernel_rfl) (fun _ _ _ h => h) (by kernel_rfl) (fun W _ => exec_rowAt m27 rfl (by kernel_rfl) (by kernel_rfl) hlt W) trivial ?_
  refine held_pair (i := 3) (j := 4) (o := { dst := some 12, op := Op.load 23 (Operand.tmp 11), type := 23, pos := "matrix.go:19", after := #[{ on := 2, ground := Ground.data }], guard := none }) (o' := { dst := some 13, op := Op.load 23 (Operand.tmp 5), type := 23, pos := "matrix.go:19", after := #[], guard := none }) (v := vecV (Mx.row m k)) (v' := vecV v) (by kernel_rfl) (by kernel_rfl) (by kernel_rfl) (by kernel_rfl) (by kernel_rfl) (by kernel_rfl) (by kernel_rfl) (by kernel_rfl) (by kernel_rfl) (exec_row rfl hm hlt (by kernel_rfl) h0) (exec_vec rfl hv (by kernel_rfl) h1) (exec_vec rfl hv (by kernel_rfl) h1) (exec_row rfl hm hlt (by kernel_rfl) h0) (by kernel_rfl) (by kernel_rfl) trivial ?_
  refine held_callX (i := 5) (o := { dst := some 14, op := Op.call { callee := Callee.value (Operand.func 22), args := #[Operand.tmp 12, Operand.tmp 13], argTypes := #[23, 23] }, type := 23, pos := "matrix.go:19", after := #[{ on := 3, ground := Ground.data }, { on := 4, ground := Ground.data }], guard := none }) (F := 22) (vs := #[vecV (Mx.row m k), vecV v]) (by kernel_rfl) (by kernel_rfl) (by kernel_rfl) (fun _ => by kernel_rfl) (join_vec _ _ (Mx.row_length hm hlt) hv _) ?_
  rintro e w1 ⟨rfl, hb⟩
  refine ⟨vecV (Vc.join (Mx.row m k) v), rfl, trivial, ?_⟩
  refine held_do (i := 6) (o := { dst := some 15, op := Op.indexAddr 27 (Operand.tmp 3) (Operand.tmp 9), type := 0, pos := "matrix.go:19", after := #[{ on := 0, ground := Ground.data }, { on := 0, ground := Ground.phase }, { on := 1, ground := Ground.phase }, { on := 2, ground := Ground.phase }, { on := 3, ground := Ground.phase }, { on := 4, ground := Ground.phase }, { on := 5, ground := Ground.phase }], guard := none }) (v := .pointer (some ⟨w.heap.size, k * 16, none⟩)) (by kernel_rfl) (by kernel_rfl) (by kernel_rfl) (exec_rowAt m27 rfl (by kernel_rfl) (by kernel_rfl) hlt _) trivial ?_
  refine held_put (i := 7) (o := { dst := none, op := Op.store 23 (Operand.tmp 15) (Operand.tmp 14), type := 0, pos := "matrix.go:19", after := #[{ on := 6, ground := Ground.data }, { on := 5, ground := Ground.data }, { on := 5, ground := Ground.chain }, { on := 0, ground := Ground.phase }, { on := 1, ground := Ground.phase }, { on := 2, ground := Ground.phase }, { on := 3, ground := Ground.phase }, { on := 4, ground := Ground.phase }, { on := 5, ground := Ground.phase }], guard := none }) (by kernel_rfl) (by kernel_rfl) (by kernel_rfl) _ _ rfl (w.heap.size) k m (Vc.join (Mx.row m k) v) hm hlt hj (by kernel_rfl) (by kernel_rfl) (h0.on hb) trivial ?_
  refine wpAnyH_done (by kernel_rfl) ?_ _
  simp only [Act.put, List.setIfInBounds_toArray, List.set_cons_zero, List.set_cons_succ]
  have g0 := (h0.on hb).put hm hlt hj
  have g2 := (h2.on hb).other_put (c := w.heap.size) (by omega) (k * 16) (ints (Vc.join (Mx.row m k) v))
  have gB := below_setCells (Nat.le_refl _) (ints (Vc.join (Mx.row m k) v)) (k * 16) _ (bchain hB hb)
  generalize w1.setCells w.heap.size (k * 16) (ints (Vc.join (Mx.row m k) v)) = W2 at *
  go_wp2_with (first | (refine load_mat m27 rfl _ rfl w.heap.size (Mx.put m k (Vc.join (Mx.row m k) v)) hp rfl g0 ?_) | (refine store_mat m27 rfl _ _ rfl (w.heap.size + 1 + 1) (Mx.put m k (Vc.join (Mx.row m k) v)) zeros hp zeros_length rfl rfl g2 ?_))
  exact bodyPost_ret (ret_mat m27 rfl _ hp rfl (g2.row (Mx.put m k (Vc.join (Mx.row m k) v)))) rfl ⟨rfl, below_setRow gB (by omega) _⟩

set_option maxRecDepth 20000 in
set_option maxHeartbeats 1000000 in
theorem learn_out (m v : List Int) (hm : m.length = 256) (hv : v.length = 16) (i : Int) (hi : ¬ (0 ≤ i ∧ i < 16)) (w : World) : Calls Try.prog 7 #[vecV m, .int .i64 i, vecV v] w fun e w' => e = .returned (vecV (Mx.learn m i v)) ∧ Below w.heap.size w w' := by
  rw [Mx.learn_out hi]
  have h0 : MatAt 27 (((w.alloc (.cells (ints m).toArray 27)).alloc (.cells (ints v).toArray 23)).alloc (.cells (ints zeros).toArray 27)) w.heap.size m := ((MatAt.new 27 w m).alloc _).alloc _
  have h1 : VecAt (((w.alloc (.cells (ints m).toArray 27)).alloc (.cells (ints v).toArray 23)).alloc (.cells (ints zeros).toArray 27)) (w.heap.size + 1) v := (VecAt.new' (by simp) v).alloc _
  have h2 : MatAt 27 (((w.alloc (.cells (ints m).toArray 27)).alloc (.cells (ints v).toArray 23)).alloc (.cells (ints zeros).toArray 27)) (w.heap.size + 1 + 1) zeros := MatAt.new' (by simp) 27 zeros
  have hB : Below w.heap.size w (((w.alloc (.cells (ints m).toArray 27)).alloc (.cells (ints v).toArray 23)).alloc (.cells (ints zeros).toArray 27)) := bchain (below_new2 _ _ _) (below_new _ _)
  have hz := zero27
  go_enter Try.func7, Try.ntmps7
  go_wp2_with (first | (go_at_call 21; refine (isRow_out _ hi _).mono ?_; rintro e w1 ⟨rfl, rfl⟩) | (refine load_mat m27 rfl _ rfl w.heap.size m hm rfl h0 ?_) | (refine store_mat m27 rfl _ _ rfl (w.heap.size + 1 + 1) m zeros hm zeros_length rfl rfl h2 ?_))
  exact bodyPost_ret (ret_mat m27 rfl _ hm rfl (h2.row m)) rfl ⟨rfl, below_setRow hB (by omega) _⟩

set_option maxRecDepth 20000 in
set_option maxHeartbeats 1000000 in
theorem refLearn_in (m v : List Int) (hm : m.length = 256) (hv : v.length = 16) (k : Nat) (hlt : k < 16) (w : World) : Calls Try.prog 8 #[vecV m, .int .i64 (k : Int), vecV v] w fun e w' => e = .returned (vecV (Mx.learn m k v)) ∧ Below w.heap.size w w' := by
  rw [Mx.learn_in hlt]
  have hj : (Vc.join (Mx.row m k) v).length = 16 := Mx.jrow hm hlt
  have hp := Mx.put_length hm hlt hj
  have hi : (0 ≤ (k : Int) ∧ (k : Int) < 16) := by omega
  have h0 : MatAt 24 (((w.alloc (.cells (ints m).toArray 24)).alloc (.cells (ints v).toArray 23)).alloc (.cells (ints zeros).toArray 24)) w.heap.size m := ((MatAt.new 24 w m).alloc _).alloc _
  have h1 : VecAt (((w.alloc (.cells (ints m).toArray 24)).alloc (.cells (ints v).toArray 23)).alloc (.cells (ints zeros).toArray 24)) (w.heap.size + 1) v := (VecAt.new' (by simp) v).alloc _
  have h2 : MatAt 24 (((w.alloc (.cells (ints m).toArray 24)).alloc (.cells (ints v).toArray 23)).alloc (.cells (ints zeros).toArray 24)) (w.heap.size + 1 + 1) zeros := MatAt.new' (by simp) 24 zeros
  have hB : Below w.heap.size w (((w.alloc (.cells (ints m).toArray 24)).alloc (.cells (ints v).toArray 23)).alloc (.cells (ints zeros).toArray 24)) := bchain (below_new2 _ _ _) (below_new _ _)
  have hz := zero24
  go_enter Try.func8, Try.ntmps8
  go_wp2_with fail
  generalize (((w.alloc (.cells (ints m).toArray 24)).alloc (.cells (ints v).toArray 23)).alloc (.cells (ints zeros).toArray 24)) = W at *
  replace h0 := h0.drew
  replace h1 := h1.drew
  replace h2 := h2.drew
  replace hB := hB.drew
  refine wp_region_held_drew (S := fun _ => True) (by kernel_rfl) trivial (fun _ => ?_)
  refine held_take (i := 0) (o := { dst := some 13, op := Op.move (Operand.tmp 1), type := 3, pos := "ref.go:12", after := #[], guard := none }) (v := .int .i64 (k : Int)) (by kernel_rfl) (by kernel_rfl) (by kernel_rfl) (by kernel_rfl) (fun _ _ _ h => h) (by kernel_rfl) (fun _ _ => by kernel_rfl) trivial ?_
  refine held_take (i := 1) (o := { dst := some 14, op := Op.move (Operand.tmp 1), type := 3, pos := "ref.go:12", after := #[], guard := none }) (v := .int .i64 (k : Int)) (by kernel_rfl) (by kernel_rfl) (by kernel_rfl) (by kernel_rfl) (fun _ _ _ h => h) (by kernel_rfl) (fun _ _ => by kernel_rfl) trivial ?_
  refine held_take (i := 2) (o := { dst := some 15, op := Op.indexAddr 24 (Operand.tmp 3) (Operand.tmp 14), type := 0, pos := "ref.go:12", after := #[{ on := 1, ground := Ground.data }], guard := none }) (v := .pointer (some ⟨w.heap.size, k * 16, none⟩)) (by kernel_rfl) (by kernel_rfl) (by kernel_rfl) (by kernel_rfl) (fun _ _ _ h => h) (by kernel_rfl) (fun W _ => exec_rowAt m24 rfl (by kernel_rfl) (by kernel_rfl) hlt W) trivial ?_
  refine held_pair (i := 3) (j := 4) (o := { dst := some 16, op := Op.load 23 (Operand.tmp 15), type := 23, pos := "ref.go:12", after := #[{ on := 2, ground := Ground.data }], guard := none }) (o' := { dst := some 17, op := Op.load 23 (Operand.tmp 5), type := 23, pos := "ref.go:12", after := #[], guard := none }) (v := vecV (Mx.row m k)) (v' := vecV v) (by kernel_rfl) (by kernel_rfl) (by kernel_rfl) (by kernel_rfl) (by kernel_rfl) (by kernel_rfl) (by kernel_rfl) (by kernel_rfl) (by kernel_rfl) (exec_row rfl hm hlt (by kernel_rfl) h0) (exec_vec rfl hv (by kernel_rfl) h1) (exec_vec rfl hv (by kernel_rfl) h1) (exec_row rfl hm hlt (by kernel_rfl) h0) (by kernel_rfl) (by kernel_rfl) trivial ?_
  refine held_callX (i := 5) (o := { dst := some 18, op := Op.call { callee := Callee.value (Operand.func 20), args := #[Operand.tmp 16, Operand.tmp 17], argTypes := #[23, 23] }, type := 23, pos := "ref.go:12", after := #[{ on := 3, ground := Ground.data }, { on := 4, ground := Ground.data }], guard := none }) (F := 20) (vs := #[vecV (Mx.row m k), vecV v]) (by kernel_rfl) (by kernel_rfl) (by kernel_rfl) (fun _ => by kernel_rfl) (ref_join_vec _ _ (Mx.row_length hm hlt) hv _) ?_
  rintro e w1 ⟨rfl, hb⟩
  refine ⟨vecV (Vc.join (Mx.row m k) v), rfl, trivial, ?_⟩
  refine held_do (i := 6) (o := { dst := some 19, op := Op.indexAddr 24 (Operand.tmp 3) (Operand.tmp 13), type := 0, pos := "ref.go:12", after := #[{ on := 0, ground := Ground.data }, { on := 0, ground := Ground.phase }, { on := 1, ground := Ground.phase }, { on := 2, ground := Ground.phase }, { on := 3, ground := Ground.phase }, { on := 4, ground := Ground.phase }, { on := 5, ground := Ground.phase }], guard := none }) (v := .pointer (some ⟨w.heap.size, k * 16, none⟩)) (by kernel_rfl) (by kernel_rfl) (by kernel_rfl) (exec_rowAt m24 rfl (by kernel_rfl) (by kernel_rfl) hlt _) trivial ?_
  refine held_put (i := 7) (o := { dst := none, op := Op.store 23 (Operand.tmp 19) (Operand.tmp 18), type := 0, pos := "ref.go:12", after := #[{ on := 6, ground := Ground.data }, { on := 5, ground := Ground.data }, { on := 5, ground := Ground.chain }, { on := 0, ground := Ground.phase }, { on := 1, ground := Ground.phase }, { on := 2, ground := Ground.phase }, { on := 3, ground := Ground.phase }, { on := 4, ground := Ground.phase }, { on := 5, ground := Ground.phase }], guard := none }) (by kernel_rfl) (by kernel_rfl) (by kernel_rfl) _ _ rfl (w.heap.size) k m (Vc.join (Mx.row m k) v) hm hlt hj (by kernel_rfl) (by kernel_rfl) (h0.on hb) trivial ?_
  refine wpAnyH_done (by kernel_rfl) ?_ _
  simp only [Act.put, List.setIfInBounds_toArray, List.set_cons_zero, List.set_cons_succ]
  have g0 := (h0.on hb).put hm hlt hj
  have g2 := (h2.on hb).other_put (c := w.heap.size) (by omega) (k * 16) (ints (Vc.join (Mx.row m k) v))
  have gB := below_setCells (Nat.le_refl _) (ints (Vc.join (Mx.row m k) v)) (k * 16) _ (bchain hB hb)
  generalize w1.setCells w.heap.size (k * 16) (ints (Vc.join (Mx.row m k) v)) = W2 at *
  go_wp2_with (first | (refine load_mat m24 rfl _ rfl w.heap.size (Mx.put m k (Vc.join (Mx.row m k) v)) hp rfl g0 ?_) | (refine store_mat m24 rfl _ _ rfl (w.heap.size + 1 + 1) (Mx.put m k (Vc.join (Mx.row m k) v)) zeros hp zeros_length rfl rfl g2 ?_))
  exact bodyPost_ret (ret_mat m24 rfl _ hp rfl (g2.row (Mx.put m k (Vc.join (Mx.row m k) v)))) rfl ⟨rfl, below_setRow gB (by omega) _⟩

set_option maxRecDepth 20000 in
set_option maxHeartbeats 1000000 in
theorem refLearn_out (m v : List Int) (hm : m.length = 256) (hv : v.length = 16) (i : Int) (hi : ¬ (0 ≤ i ∧ i < 16)) (w : World) : Calls Try.prog 8 #[vecV m, .int .i64 i, vecV v] w fun e w' => e = .returned (vecV (Mx.learn m i v)) ∧ Below w.heap.size w w' := by
  rw [Mx.learn_out hi]
  have h0 : MatAt 24 (((w.alloc (.cells (ints m).toArray 24)).alloc (.cells (ints v).toArray 23)).alloc (.cells (ints zeros).toArray 24)) w.heap.size m := ((MatAt.new 24 w m).alloc _).alloc _
  have h1 : VecAt (((w.alloc (.cells (ints m).toArray 24)).alloc (.cells (ints v).toArray 23)).alloc (.cells (ints zeros).toArray 24)) (w.heap.size + 1) v := (VecAt.new' (by simp) v).alloc _
  have h2 : MatAt 24 (((w.alloc (.cells (ints m).toArray 24)).alloc (.cells (ints v).toArray 23)).alloc (.cells (ints zeros).toArray 24)) (w.heap.size + 1 + 1) zeros := MatAt.new' (by simp) 24 zeros
  have hB : Below w.heap.size w (((w.alloc (.cells (ints m).toArray 24)).alloc (.cells (ints v).toArray 23)).alloc (.cells (ints zeros).toArray 24)) := bchain (below_new2 _ _ _) (below_new _ _)
  have hz := zero24
  by_cases hi0 : 0 ≤ i
  · have hi1 : ¬ i ≤ 15 := by omega
    clear hi
    go_enter Try.func8, Try.ntmps8
    go_wp2_with (first | (refine load_mat m24 rfl _ rfl w.heap.size m hm rfl h0 ?_) | (refine store_mat m24 rfl _ _ rfl (w.heap.size + 1 + 1) m zeros hm zeros_length rfl rfl h2 ?_))
    exact bodyPost_ret (ret_mat m24 rfl _ hm rfl (h2.row m)) rfl ⟨rfl, below_setRow hB (by omega) _⟩
  · clear hi
    go_enter Try.func8, Try.ntmps8
    go_wp2_with (first | (refine load_mat m24 rfl _ rfl w.heap.size m hm rfl h0 ?_) | (refine store_mat m24 rfl _ _ rfl (w.heap.size + 1 + 1) m zeros hm zeros_length rfl rfl h2 ?_))
    exact bodyPost_ret (ret_mat m24 rfl _ hm rfl (h2.row m)) rfl ⟨rfl, below_setRow hB (by omega) _⟩

theorem learn_any (m v : List Int) (hm : m.length = 256) (hv : v.length = 16) (i : Int) (w : World) : Calls Try.prog 7 #[vecV m, .int .i64 i, vecV v] w fun e w' => e = .returned (vecV (Mx.learn m i v)) ∧ Below w.heap.size w w' := by
  by_cases h : 0 ≤ i ∧ i < 16
  · obtain ⟨k, rfl⟩ : ∃ k : Nat, i = (k : Int) := ⟨i.toNat, by omega⟩
    exact learn_in m v hm hv k (by omega) w
  · exact learn_out m v hm hv i h w
theorem refLearn_any (m v : List Int) (hm : m.length = 256) (hv : v.length = 16) (i : Int) (w : World) : Calls Try.prog 8 #[vecV m, .int .i64 i, vecV v] w fun e w' => e = .returned (vecV (Mx.learn m i v)) ∧ Below w.heap.size w w' := by
  by_cases h : 0 ≤ i ∧ i < 16
  · obtain ⟨k, rfl⟩ : ∃ k : Nat, i = (k : Int) := ⟨i.toNat, by omega⟩
    exact refLearn_in m v hm hv k (by omega) w
  · exact refLearn_out m v hm hv i h w
end Go.Proofs.Ytmifkfeobdnocaa
