/- The walk of 'Join'. -/
import Derived.Test.YtmifkfeobdnocaaFold
namespace Go.Proofs.Ytmifkfeobdnocaa
open Go.RowKit
set_option linter.unusedVariables false

theorem index_mat {T : TypeId} (hT : IsMat T) {m : List Int} {k : Nat} (hk : k < 16) (w : World) : (Instr.index T (vecV m) (.int .i64 (k : Int))).run Try.prog w = .ok (vecV (Mx.row m k)) w := by
  have hn : (0 ≤ (k : Int) ∧ (k : Int) < 16) := by omega
  simp [Instr.index, run_underlying hT.und, asIntOf, hn, Try.sizeOf23, ints_row, go_sem, hk]

set_option maxRecDepth 20000 in
set_option maxHeartbeats 2000000 in
theorem joins_any (m o : List Int) (hm : m.length = 256) (ho : o.length = 256) (w : World) : Calls Try.prog 19 #[vecV m, vecV o] w fun e w' => e = .returned (vecV (Mx.joins m o 16)) ∧ Below w.heap.size w w' := by
  have h0 : MatAt 27 (((w.alloc (.cells (ints m).toArray 27)).alloc (.cells (ints o).toArray 27)).alloc (.cells (ints zeros).toArray 27)) w.heap.size m := ((MatAt.new 27 w m).alloc _).alloc _
  have h1 : MatAt 27 (((w.alloc (.cells (ints m).toArray 27)).alloc (.cells (ints o).toArray 27)).alloc (.cells (ints zeros).toArray 27)) (w.heap.size + 1) o := (MatAt.new' (by simp) 27 o).alloc _
  have h2 : MatAt 27 (((w.alloc (.cells (ints m).toArray 27)).alloc (.cells (ints o).toArray 27)).alloc (.cells (ints zeros).toArray 27)) (w.heap.size + 1 + 1) zeros := MatAt.new' (by simp) 27 zeros
  have hB : Below w.heap.size w (((w.alloc (.cells (ints m).toArray 27)).alloc (.cells (ints o).toArray 27)).alloc (.cells (ints zeros).toArray 27)) := bchain (below_new2 _ _ _) (below_new _ _)
  have hz := zero27
  go_enter Try.func19, Try.ntmps19
  go_wp2_with (refine load_mat m27 rfl _ rfl (w.heap.size + 1) o ho rfl h1 ?_)
  clear hz
  go_loopw [8] (fun i wr => ∃ k : Nat, k ≤ 16 ∧ i = .int .i64 k ∧ MatAt 27 wr w.heap.size (Mx.joins m o k) ∧ MatAt 27 wr (w.heap.size + 1) o ∧ MatAt 27 wr (w.heap.size + 1 + 1) zeros ∧ Below w.heap.size w wr) (fun i _ => 16 - (intOf i).toNat)
  case atStart => exact ⟨0, by omega, rfl, h0, h1, h2, hB⟩
  case round =>
    clear h0 h1 h2 hB
    obtain ⟨k, hk, rfl, h0, h1, h2, hB⟩ := hrel
    have hM := Mx.joins_length (o := o) hm k hk
    by_cases hlt : k < 16
    · have hr := Mx.row_length ho hlt
      have hix := index_mat (m := o) m27 hlt
      have hj : (Vc.join (Mx.row (Mx.joins m o k) k) (Mx.row o k)).length = 16 := Mx.jrow hM hlt
      have HL : Hid (Mx.put (Mx.joins m o k) k (Vc.join (Mx.row (Mx.joins m o k) k) (Mx.row o k)) = Mx.joins m o (k + 1)) := by
        have h : Mx.put (Mx.joins m o k) k (Vc.join (Mx.row (Mx.joins m o k) k) (Mx.row o k)) = Mx.joins m o (k + 1) := rfl
        exact h
      generalize Mx.joins m o k = M at h0 hM hj HL
      have hne : w.heap.size + 1 + 1 < wr.heap.size := h2.lt
      have g3 : VecAt (wr.alloc (.cells (ints noughts).toArray 23)) wr.heap.size noughts := VecAt.new _ _
      have f0 := (h0.alloc (.cells (ints noughts).toArray 23)).other_row (c := wr.heap.size) (by omega) (ints (Mx.row o k)).toArray
      have f1 := (h1.alloc (.cells (ints noughts).toArray 23)).other_row (c := wr.heap.size) (by omega) (ints (Mx.row o k)).toArray
      have f2 := (h2.alloc (.cells (ints noughts).toArray 23)).other_row (c := wr.heap.size) (by omega) (ints (Mx.row o k)).toArray
      have f3 := g3.row (Mx.row o k)
      have fB := below_setRow (bchain hB (below_new _ (.cells (ints noughts).toArray 23))) (b := wr.heap.size) (by omega) (ints (Mx.row o k)).toArray
      go_wp2_with (refine store_vec rfl _ _ rfl wr.heap.size (Mx.row o k) noughts hr noughts_length rfl rfl g3 ?_)
      replace h0 := f0.drew
      replace h1 := f3.drew
      replace hB := fB.drew
      replace f1 := f1.drew
      replace f2 := f2.drew
      refine wp_region_held_drew (S := fun _ => True) (by kernel_rfl) trivial (fun _ => ?_)
      refine held_take (i := 0) (o := { dst := some 12, op := Op.move (Operand.tmp 5), type := 3, pos := "matrix.go:35", after := #[], guard := none }) (v := .int .i64 (k : Int)) (by kernel_rfl) (by kernel_rfl) (by kernel_rfl) (by kernel_rfl) (fun _ _ _ h => h) (by kernel_rfl) (fun _ _ => by kernel_rfl) trivial ?_
      refine held_take (i := 1) (o := { dst := some 13, op := Op.move (Operand.tmp 5), type := 3, pos := "matrix.go:35", after := #[], guard := none }) (v := .int .i64 (k : Int)) (by kernel_rfl) (by kernel_rfl) (by kernel_rfl) (by kernel_rfl) (fun _ _ _ h => h) (by kernel_rfl) (fun _ _ => by kernel_rfl) trivial ?_
      refine held_take (i := 2) (o := { dst := some 14, op := Op.indexAddr 27 (Operand.tmp 2) (Operand.tmp 13), type := 0, pos := "matrix.go:35", after := #[{ on := 1, ground := Ground.data }], guard := none }) (v := .pointer (some ⟨w.heap.size, k * 16, none⟩)) (by kernel_rfl) (by kernel_rfl) (by kernel_rfl) (by kernel_rfl) (fun _ _ _ h => h) (by kernel_rfl) (fun W _ => exec_rowAt m27 rfl (by kernel_rfl) (by kernel_rfl) hlt W) trivial ?_
      refine held_pair (i := 3) (j := 4) (o := { dst := some 15, op := Op.load 23 (Operand.tmp 14), type := 23, pos := "matrix.go:35", after := #[{ on := 2, ground := Ground.data }], guard := none }) (o' := { dst := some 16, op := Op.load 23 (Operand.tmp 6), type := 23, pos := "matrix.go:35", after := #[], guard := none }) (v := vecV (Mx.row M k)) (v' := vecV (Mx.row o k)) (by kernel_rfl) (by kernel_rfl) (by kernel_rfl) (by kernel_rfl) (by kernel_rfl) (by kernel_rfl) (by kernel_rfl) (by kernel_rfl) (by kernel_rfl) (exec_row rfl hM hlt (by kernel_rfl) h0) (exec_vec rfl hr (by kernel_rfl) h1) (exec_vec rfl hr (by kernel_rfl) h1) (exec_row rfl hM hlt (by kernel_rfl) h0) (by kernel_rfl) (by kernel_rfl) trivial ?_
      refine held_callX (i := 5) (o := { dst := some 17, op := Op.call { callee := Callee.value (Operand.func 22), args := #[Operand.tmp 15, Operand.tmp 16], argTypes := #[23, 23] }, type := 23, pos := "matrix.go:35", after := #[{ on := 3, ground := Ground.data }, { on := 4, ground := Ground.data }], guard := none }) (F := 22) (vs := #[vecV (Mx.row M k), vecV (Mx.row o k)]) (by kernel_rfl) (by kernel_rfl) (by kernel_rfl) (fun _ => by kernel_rfl) (join_vec _ _ (Mx.row_length hM hlt) hr _) ?_
      rintro e w1 ⟨rfl, hb⟩
      refine ⟨vecV (Vc.join (Mx.row M k) (Mx.row o k)), rfl, trivial, ?_⟩
      refine held_do (i := 6) (o := { dst := some 18, op := Op.indexAddr 27 (Operand.tmp 2) (Operand.tmp 12), type := 0, pos := "matrix.go:35", after := #[{ on := 0, ground := Ground.data }, { on := 0, ground := Ground.phase }, { on := 1, ground := Ground.phase }, { on := 2, ground := Ground.phase }, { on := 3, ground := Ground.phase }, { on := 4, ground := Ground.phase }, { on := 5, ground := Ground.phase }], guard := none }) (v := .pointer (some ⟨w.heap.size, k * 16, none⟩)) (by kernel_rfl) (by kernel_rfl) (by kernel_rfl) (exec_rowAt m27 rfl (by kernel_rfl) (by kernel_rfl) hlt _) trivial ?_
      refine held_put (i := 7) (o := { dst := none, op := Op.store 23 (Operand.tmp 18) (Operand.tmp 17), type := 0, pos := "matrix.go:35", after := #[{ on := 6, ground := Ground.data }, { on := 5, ground := Ground.data }, { on := 5, ground := Ground.chain }, { on := 0, ground := Ground.phase }, { on := 1, ground := Ground.phase }, { on := 2, ground := Ground.phase }, { on := 3, ground := Ground.phase }, { on := 4, ground := Ground.phase }, { on := 5, ground := Ground.phase }], guard := none }) (by kernel_rfl) (by kernel_rfl) (by kernel_rfl) _ _ rfl (w.heap.size) k M (Vc.join (Mx.row M k) (Mx.row o k)) hM hlt hj (by kernel_rfl) (by kernel_rfl) (h0.on hb) trivial ?_
      refine wpAnyH_done (by kernel_rfl) ?_ _
      simp only [Act.put, List.setIfInBounds_toArray, List.set_cons_zero, List.set_cons_succ]
      have q0 := (h0.on hb).put hM hlt hj
      rw [HL.out] at q0
      have q1 := (f1.on hb).other_put (c := w.heap.size) (by omega) (k * 16) (ints (Vc.join (Mx.row M k) (Mx.row o k)))
      have q2 := (f2.on hb).other_put (c := w.heap.size) (by omega) (k * 16) (ints (Vc.join (Mx.row M k) (Mx.row o k)))
      have qB := below_setCells (Nat.le_refl _) (ints (Vc.join (Mx.row M k) (Mx.row o k))) (k * 16) _ (bchain hB hb)
      go_wp2
      go_roundw
      case rel => exact ⟨k + 1, by omega, by go_num, q0, q1, q2, qB⟩
      case measure => simp [intOf]; omega
    · obtain rfl : k = 16 := by omega
      go_wp2_with (first | (refine load_mat m27 rfl _ rfl w.heap.size (Mx.joins m o 16) hM rfl h0 ?_) | (refine store_mat m27 rfl _ _ rfl (w.heap.size + 1 + 1) (Mx.joins m o 16) zeros hM zeros_length rfl rfl h2 ?_))
      exact bodyPost_ret (ret_mat m27 rfl _ hM rfl (h2.row _)) rfl ⟨rfl, below_setRow hB (by omega) _⟩
end Go.Proofs.Ytmifkfeobdnocaa
