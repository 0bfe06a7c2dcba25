/- The walks of 'Row' and 'fold' (with the meet, with the join), and of 'Frontier'. -/
import Derived.Test.YtmifkfeobdnocaaPair
namespace Go.Proofs.Ytmifkfeobdnocaa
open Go.RowKit
set_option linter.unusedVariables false

section
variable {ops : Array Oper} {rest : List Oper} {o : Oper} {a : Act} {w : World} {Q : Exit → Act → World → Prop}
/-- The zero vector, the zero matrix, written down. -/
theorem take_vec0 (hgd : o.guard = none) (ho : o.op = .build 23 #[]) (hk : wpList Try.prog ops Q rest (a.put o.dst (vecV noughts)) w) : wpList Try.prog ops Q (o :: rest) a w :=
  wpList_plain hgd fun _ hK => by
    have hb : ∀ w, (Instr.build 23 #[]).run Try.prog w = .ok (vecV noughts) w := fun w => by kernel_rfl
    unfold Oper.wp execOp
    simp only [ho, List.map_toArray, List.map_nil, Sem.run_bind, hb, Result.andThen_ok, Sem.run_pure]
    exact hK _ _ hk
/-- The rows behind the first one. -/
theorem sliceAt_mat (b p : Nat) (hp : p < 16) (w : World) : (Instr.sliceAt 27 (.pointer (some ⟨b, 0, none⟩)) (some (.int .i64 1)) (some (.int .i64 ((p : Int) + 1))) none).run Try.prog w = .ok (.slice (some ⟨b, 16, none⟩) p 15) w := by
  have h0 : (0 : Int) ≤ (p : Int) + 1 := by omega
  have h1 : (p : Int) + 1 ≤ ((16 : Nat) : Int) := by omega
  have h2 : ((p : Int) + 1).toNat = p + 1 := by omega
  have h3 : (1 : Int) ≤ ((p + 1 : Nat) : Int) := by omega
  have b1 := run_sliceBound (P := Try.prog) w .i64 ((p : Int) + 1) 16 .sliceAlen h0 h1
  have b2 := run_sliceBound (P := Try.prog) w .i64 1 (p + 1) .sliceB (by omega) h3
  rw [h2] at b1
  simp only [Instr.sliceAt, Sem.run_bind, run_underlying m27.und, Result.andThen_ok, Instr.sureAddr, Sem.run_pure, Instr.sliceBounds, Option.isSome_none, Bool.false_eq_true, if_false, b1, b2, Try.sizeOf23]
  rfl
theorem exec_rest {x y z : Operand} {b p : Nat} (ho : o.op = .slice 27 x (some y) (some z) none) (hx : a.eval x = .pointer (some ⟨b, 0, none⟩)) (hy : a.eval y = .int .i64 1) (hz : a.eval z = .int .i64 ((p : Int) + 1)) (hp : p < 16) (w : World) :
    (execOp a.eval o).run Try.prog w = .ok (.value (.slice (some ⟨b, 16, none⟩) p 15)) w := by
  unfold execOp
  simp only [ho, hx, hy, hz, Option.map_some, Option.map_none, Sem.run_bind, sliceAt_mat b p hp, Result.andThen_ok, Sem.run_pure]
theorem take_rest (hgd : o.guard = none) (x y z : Operand) (b p : Nat) (ho : o.op = .slice 27 x (some y) (some z) none) (hx : a.eval x = .pointer (some ⟨b, 0, none⟩)) (hy : a.eval y = .int .i64 1) (hz : a.eval z = .int .i64 ((p : Int) + 1)) (hp : p < 16)
    (hk : wpList Try.prog ops Q rest (a.put o.dst (.slice (some ⟨b, 16, none⟩) p 15)) w) : wpList Try.prog ops Q (o :: rest) a w :=
  wpList_plain hgd fun _ hK => by
    unfold Oper.wp
    rw [exec_rest ho hx hy hz hp]
    exact hK _ _ hk
theorem indexAt_rest (b p k : Nat) (hk : k < p) (w : World) : (Instr.indexAt 50 (.slice (some ⟨b, 16, none⟩) p 15) (.int .i64 (k : Int))).run Try.prog w = .ok (.pointer (some ⟨b, (k + 1) * 16, none⟩)) w := by
  have hn : (0 ≤ (k : Int) ∧ (k : Int) < (p : Int)) := by omega
  simp [Instr.indexAt, run_underlying Try.underlying50, asIntOf, hn, go_sem, Try.sizeOf23, Addr.add]
  rw [if_pos hk]
  by_cases e : k * 16 = 0
  · obtain rfl : k = 0 := by omega
    rfl
  · rw [if_neg e, show 16 + k * 16 = (k + 1) * 16 by omega]
theorem take_at (hgd : o.guard = none) (x y : Operand) (b p k : Nat) (ho : o.op = .indexAddr 50 x y) (hx : a.eval x = .slice (some ⟨b, 16, none⟩) p 15) (hy : a.eval y = .int .i64 (k : Int)) (hlt : k < p)
    (hk : wpList Try.prog ops Q rest (a.put o.dst (.pointer (some ⟨b, (k + 1) * 16, none⟩))) w) : wpList Try.prog ops Q (o :: rest) a w :=
  wpList_plain hgd fun _ hK => by
    unfold Oper.wp execOp
    simp only [ho, hx, hy, Sem.run_bind, indexAt_rest b p k hlt, Result.andThen_ok, Sem.run_pure]
    exact hK _ _ hk
theorem take_row (hgd : o.guard = none) {T : TypeId} (hT : IsMat T) (x y : Operand) (b k : Nat) (ho : o.op = .indexAddr T x y) (hx : a.eval x = .pointer (some ⟨b, 0, none⟩)) (hy : a.eval y = .int .i64 (k : Int)) (hlt : k < 16)
    (hk : wpList Try.prog ops Q rest (a.put o.dst (.pointer (some ⟨b, k * 16, none⟩))) w) : wpList Try.prog ops Q (o :: rest) a w :=
  wpList_plain hgd fun _ hK => by
    unfold Oper.wp
    rw [exec_rowAt hT ho hx hy hlt]
    exact hK _ _ hk
end

set_option maxRecDepth 20000 in
theorem row_in (m : List Int) (hm : m.length = 256) (k : Nat) (hlt : k < 16) (w : World) : Calls Try.prog 9 #[vecV m, .int .i64 (k : Int)] w fun e w' => e = .returned (vecV (Mx.rowOf m k)) ∧ Below w.heap.size w w' := by
  rw [Mx.rowOf_in hlt]
  have hi : (0 ≤ (k : Int) ∧ (k : Int) < 16) := by omega
  have hr := Mx.row_length hm hlt
  have h0 : MatAt 27 ((w.alloc (.cells (ints m).toArray 27)).alloc (.cells (ints noughts).toArray 23)) w.heap.size m := (MatAt.new 27 w m).alloc _
  have h1 : VecAt ((w.alloc (.cells (ints m).toArray 27)).alloc (.cells (ints noughts).toArray 23)) (w.heap.size + 1) noughts := VecAt.new' (by simp) noughts
  have hB : Below w.heap.size w ((w.alloc (.cells (ints m).toArray 27)).alloc (.cells (ints noughts).toArray 23)) := below_new2 _ _ _
  go_enter Try.func9, Try.ntmps9
  go_wp2_with (first | (go_at_call 21; refine (isRow_in _ hi _).mono ?_; rintro e w1 ⟨rfl, rfl⟩) | (refine take_row rfl m27 _ _ w.heap.size k rfl rfl rfl hlt ?_) | (refine load_row rfl _ rfl w.heap.size k m hm hlt rfl h0 ?_) | (refine store_vec rfl _ _ rfl (w.heap.size + 1) (Mx.row m k) noughts hr noughts_length rfl rfl h1 ?_))
  exact bodyPost_ret (ret_vec rfl _ hr rfl (h1.row _)) rfl ⟨rfl, below_setRow hB (by omega) _⟩
set_option maxRecDepth 20000 in
theorem row_out (m : List Int) (hm : m.length = 256) (i : Int) (hi : ¬ (0 ≤ i ∧ i < 16)) (w : World) : Calls Try.prog 9 #[vecV m, .int .i64 i] w fun e w' => e = .returned (vecV (Mx.rowOf m i)) ∧ Below w.heap.size w w' := by
  rw [Mx.rowOf_out hi]
  have h1 : VecAt ((w.alloc (.cells (ints m).toArray 27)).alloc (.cells (ints noughts).toArray 23)) (w.heap.size + 1) noughts := VecAt.new' (by simp) noughts
  have hB : Below w.heap.size w ((w.alloc (.cells (ints m).toArray 27)).alloc (.cells (ints noughts).toArray 23)) := below_new2 _ _ _
  go_enter Try.func9, Try.ntmps9
  go_wp2_with (first | (go_at_call 21; refine (isRow_out _ hi _).mono ?_; rintro e w1 ⟨rfl, rfl⟩) | (refine take_vec0 rfl rfl ?_) | (refine store_vec rfl _ _ rfl (w.heap.size + 1) noughts noughts noughts_length noughts_length rfl rfl h1 ?_))
  exact bodyPost_ret (ret_vec rfl _ noughts_length rfl (h1.row _)) rfl ⟨rfl, below_setRow hB (by omega) _⟩
theorem row_any (m : List Int) (hm : m.length = 256) (i : Int) (w : World) : Calls Try.prog 9 #[vecV m, .int .i64 i] w fun e w' => e = .returned (vecV (Mx.rowOf m i)) ∧ Below w.heap.size w w' := by
  by_cases h : 0 ≤ i ∧ i < 16
  · obtain ⟨k, rfl⟩ : ∃ k : Nat, i = (k : Int) := ⟨i.toNat, by omega⟩
    exact row_in m hm k (by omega) w
  · exact row_out m hm i h w

set_option maxRecDepth 20000 in
set_option maxHeartbeats 2000000 in
theorem fold_meet (m : List Int) (hm : m.length = 256) (p : Nat) (hp : p < 16) (w : World) :
    Calls Try.prog 23 #[vecV m, .int .i64 ((p : Int) + 1), .func (.func 24) #[] #[]] w fun e w' => e = .returned (vecV (Mx.fold Vc.meet m p)) ∧ Below w.heap.size w w' := by
  have h0 : MatAt 27 ((w.alloc (.cells (ints m).toArray 27)).alloc (.cells (ints noughts).toArray 23)) w.heap.size m := (MatAt.new 27 w m).alloc _
  have h1 : VecAt ((w.alloc (.cells (ints m).toArray 27)).alloc (.cells (ints noughts).toArray 23)) (w.heap.size + 1) noughts := VecAt.new' (by simp) noughts
  have hB : Below w.heap.size w ((w.alloc (.cells (ints m).toArray 27)).alloc (.cells (ints noughts).toArray 23)) := below_new2 _ _ _
  have g2 : VecAt (((w.alloc (.cells (ints m).toArray 27)).alloc (.cells (ints noughts).toArray 23)).alloc (.cells (ints noughts).toArray 23)) (w.heap.size + 1 + 1) noughts := VecAt.new' (by simp) noughts
  have hr0 := Mx.row_length hm (i := 0) (by omega)
  have hn1 : ¬ (p : Int) + 1 < 1 := by omega
  have hn2 : ¬ (16 : Int) < (p : Int) + 1 := by omega
  have e0 : MatAt 27 ((((w.alloc (.cells (ints m).toArray 27)).alloc (.cells (ints noughts).toArray 23)).alloc (.cells (ints noughts).toArray 23)).setRow (w.heap.size + 1 + 1) (ints (Mx.row m 0)).toArray) w.heap.size m := (h0.alloc _).other_row (by omega) _
  have e1 : VecAt ((((w.alloc (.cells (ints m).toArray 27)).alloc (.cells (ints noughts).toArray 23)).alloc (.cells (ints noughts).toArray 23)).setRow (w.heap.size + 1 + 1) (ints (Mx.row m 0)).toArray) (w.heap.size + 1) noughts := (h1.alloc _).other_row (by omega) _
  have e2 : VecAt ((((w.alloc (.cells (ints m).toArray 27)).alloc (.cells (ints noughts).toArray 23)).alloc (.cells (ints noughts).toArray 23)).setRow (w.heap.size + 1 + 1) (ints (Mx.row m 0)).toArray) (w.heap.size + 1 + 1) (Mx.row m 0) := g2.row _
  have eB : Below w.heap.size w ((((w.alloc (.cells (ints m).toArray 27)).alloc (.cells (ints noughts).toArray 23)).alloc (.cells (ints noughts).toArray 23)).setRow (w.heap.size + 1 + 1) (ints (Mx.row m 0)).toArray) := below_setRow (bchain hB (below_new _ _)) (by omega) _
  go_enter Try.func23, Try.ntmps23
  go_wp2_with (first | (refine take_row rfl m27 _ _ w.heap.size 0 rfl rfl rfl (by omega) ?_) | (refine load_row rfl _ rfl w.heap.size 0 m hm (by omega) rfl h0 ?_) | (refine store_vec rfl _ _ rfl (w.heap.size + 1 + 1) (Mx.row m 0) noughts hr0 noughts_length rfl rfl g2 ?_) | (refine take_rest rfl _ _ _ w.heap.size p rfl rfl rfl rfl hp ?_))
  clear h0 h1 hB g2
  go_loopw [22] (fun i wr => ∃ k : Nat, k ≤ p ∧ i = .int .i64 k ∧ MatAt 27 wr w.heap.size m ∧ VecAt wr (w.heap.size + 1) noughts ∧ VecAt wr (w.heap.size + 1 + 1) (Mx.fold Vc.meet m k) ∧ Below w.heap.size w wr) (fun i _ => p - (intOf i).toNat)
  case atStart => exact ⟨0, by omega, rfl, e0, e1, e2, eB⟩
  case round =>
    clear e0 e1 e2 eB hr0
    obtain ⟨k, hk, rfl, h0, h1, h2, hB⟩ := hrel
    by_cases hlt : k < p
    · have hr := Mx.row_length hm (i := k + 1) (by omega)
      have hf := Mx.meets_length hm k (by omega)
      have hf1 := Mx.meets_length hm (k + 1) (by omega)
      have hne : w.heap.size + 1 + 1 < wr.heap.size := h2.lt
      have g0 : MatAt 27 wr w.heap.size m := h0
      have g3 : VecAt (wr.alloc (.cells (ints noughts).toArray 23)) wr.heap.size noughts := VecAt.new _ _
      have f0 := (h0.alloc (.cells (ints noughts).toArray 23)).other_row (c := wr.heap.size) (by omega) (ints (Mx.row m (k + 1))).toArray
      have f1 := (h1.alloc (.cells (ints noughts).toArray 23)).other_row (c := wr.heap.size) (by omega) (ints (Mx.row m (k + 1))).toArray
      have f2 := (h2.alloc (.cells (ints noughts).toArray 23)).other_row (c := wr.heap.size) (by omega) (ints (Mx.row m (k + 1))).toArray
      have f3 := g3.row (Mx.row m (k + 1))
      have fB := below_setRow (bchain hB (below_new _ (.cells (ints noughts).toArray 23))) (b := wr.heap.size) (by omega) (ints (Mx.row m (k + 1))).toArray
      have HC := meet_vec (Mx.fold Vc.meet m k) (Mx.row m (k + 1)) hf hr
      have hst : Vc.meet (Mx.fold Vc.meet m k) (Mx.row m (k + 1)) = Mx.fold Vc.meet m (k + 1) := rfl
      rw [hst] at HC
      clear hst
      obtain ⟨L1, hL1⟩ : ∃ x, Mx.fold Vc.meet m (k + 1) = x := ⟨_, rfl⟩
      have HL : Hid (Mx.fold Vc.meet m (k + 1) = L1) := hL1
      rw [hL1] at HC hf1
      clear hL1
      generalize Mx.fold Vc.meet m k = L0 at h2 f2 hf HC
      go_wp2_with (first
        | (refine take_at rfl _ _ w.heap.size p k rfl rfl rfl hlt ?_)
        | (refine load_row rfl _ rfl w.heap.size (k + 1) m hm (by omega) rfl g0 ?_)
        | (refine store_vec rfl _ _ rfl wr.heap.size (Mx.row m (k + 1)) noughts hr noughts_length rfl rfl g3 ?_)
        | (refine load_vec rfl _ rfl (w.heap.size + 1 + 1) L0 hf rfl f2 ?_)
        | (refine load_vec rfl _ rfl wr.heap.size (Mx.row m (k + 1)) hr rfl f3 ?_)
        | (go_at_call 24; refine (HC _).mono ?_; rintro e w1 ⟨rfl, hb⟩)
        | (refine store_vec rfl _ _ rfl (w.heap.size + 1 + 1) L1 L0 hf1 hf rfl rfl (f2.on hb) ?_))
      go_roundw
      case rel => exact ⟨k + 1, by omega, by go_num, (f0.on hb).other_row (by omega) _, (f1.on hb).other_row (by omega) _, by rw [HL.out]; exact (f2.on hb).row _, below_setRow (bchain fB hb) (by omega) _⟩
      case measure => simp [intOf]; omega
    · obtain rfl : k = p := by omega
      have hf := Mx.meets_length hm k (by omega)
      go_wp2_with (first | (refine load_vec rfl _ rfl (w.heap.size + 1 + 1) (Mx.fold Vc.meet m k) hf rfl h2 ?_) | (refine store_vec rfl _ _ rfl (w.heap.size + 1) (Mx.fold Vc.meet m k) noughts hf noughts_length rfl rfl h1 ?_))
      exact bodyPost_ret (ret_vec rfl _ hf rfl (h1.row _)) rfl ⟨rfl, below_setRow hB (by omega) _⟩

set_option maxRecDepth 20000 in
set_option maxHeartbeats 2000000 in
theorem fold_join (m : List Int) (hm : m.length = 256) (p : Nat) (hp : p < 16) (w : World) :
    Calls Try.prog 23 #[vecV m, .int .i64 ((p : Int) + 1), .func (.func 22) #[] #[]] w fun e w' => e = .returned (vecV (Mx.fold Vc.join m p)) ∧ Below w.heap.size w w' := by
  have h0 : MatAt 27 ((w.alloc (.cells (ints m).toArray 27)).alloc (.cells (ints noughts).toArray 23)) w.heap.size m := (MatAt.new 27 w m).alloc _
  have h1 : VecAt ((w.alloc (.cells (ints m).toArray 27)).alloc (.cells (ints noughts).toArray 23)) (w.heap.size + 1) noughts := VecAt.new' (by simp) noughts
  have hB : Below w.heap.size w ((w.alloc (.cells (ints m).toArray 27)).alloc (.cells (ints noughts).toArray 23)) := below_new2 _ _ _
  have g2 : VecAt (((w.alloc (.cells (ints m).toArray 27)).alloc (.cells (ints noughts).toArray 23)).alloc (.cells (ints noughts).toArray 23)) (w.heap.size + 1 + 1) noughts := VecAt.new' (by simp) noughts
  have hr0 := Mx.row_length hm (i := 0) (by omega)
  have hn1 : ¬ (p : Int) + 1 < 1 := by omega
  have hn2 : ¬ (16 : Int) < (p : Int) + 1 := by omega
  have e0 : MatAt 27 ((((w.alloc (.cells (ints m).toArray 27)).alloc (.cells (ints noughts).toArray 23)).alloc (.cells (ints noughts).toArray 23)).setRow (w.heap.size + 1 + 1) (ints (Mx.row m 0)).toArray) w.heap.size m := (h0.alloc _).other_row (by omega) _
  have e1 : VecAt ((((w.alloc (.cells (ints m).toArray 27)).alloc (.cells (ints noughts).toArray 23)).alloc (.cells (ints noughts).toArray 23)).setRow (w.heap.size + 1 + 1) (ints (Mx.row m 0)).toArray) (w.heap.size + 1) noughts := (h1.alloc _).other_row (by omega) _
  have e2 : VecAt ((((w.alloc (.cells (ints m).toArray 27)).alloc (.cells (ints noughts).toArray 23)).alloc (.cells (ints noughts).toArray 23)).setRow (w.heap.size + 1 + 1) (ints (Mx.row m 0)).toArray) (w.heap.size + 1 + 1) (Mx.row m 0) := g2.row _
  have eB : Below w.heap.size w ((((w.alloc (.cells (ints m).toArray 27)).alloc (.cells (ints noughts).toArray 23)).alloc (.cells (ints noughts).toArray 23)).setRow (w.heap.size + 1 + 1) (ints (Mx.row m 0)).toArray) := below_setRow (bchain hB (below_new _ _)) (by omega) _
  go_enter Try.func23, Try.ntmps23
  go_wp2_with (first | (refine take_row rfl m27 _ _ w.heap.size 0 rfl rfl rfl (by omega) ?_) | (refine load_row rfl _ rfl w.heap.size 0 m hm (by omega) rfl h0 ?_) | (refine store_vec rfl _ _ rfl (w.heap.size + 1 + 1) (Mx.row m 0) noughts hr0 noughts_length rfl rfl g2 ?_) | (refine take_rest rfl _ _ _ w.heap.size p rfl rfl rfl rfl hp ?_))
  clear h0 h1 hB g2
  go_loopw [22] (fun i wr => ∃ k : Nat, k ≤ p ∧ i = .int .i64 k ∧ MatAt 27 wr w.heap.size m ∧ VecAt wr (w.heap.size + 1) noughts ∧ VecAt wr (w.heap.size + 1 + 1) (Mx.fold Vc.join m k) ∧ Below w.heap.size w wr) (fun i _ => p - (intOf i).toNat)
  case atStart => exact ⟨0, by omega, rfl, e0, e1, e2, eB⟩
  case round =>
    clear e0 e1 e2 eB hr0
    obtain ⟨k, hk, rfl, h0, h1, h2, hB⟩ := hrel
    by_cases hlt : k < p
    · have hr := Mx.row_length hm (i := k + 1) (by omega)
      have hf := Mx.folds_length hm k (by omega)
      have hf1 := Mx.folds_length hm (k + 1) (by omega)
      have hne : w.heap.size + 1 + 1 < wr.heap.size := h2.lt
      have g0 : MatAt 27 wr w.heap.size m := h0
      have g3 : VecAt (wr.alloc (.cells (ints noughts).toArray 23)) wr.heap.size noughts := VecAt.new _ _
      have f0 := (h0.alloc (.cells (ints noughts).toArray 23)).other_row (c := wr.heap.size) (by omega) (ints (Mx.row m (k + 1))).toArray
      have f1 := (h1.alloc (.cells (ints noughts).toArray 23)).other_row (c := wr.heap.size) (by omega) (ints (Mx.row m (k + 1))).toArray
      have f2 := (h2.alloc (.cells (ints noughts).toArray 23)).other_row (c := wr.heap.size) (by omega) (ints (Mx.row m (k + 1))).toArray
      have f3 := g3.row (Mx.row m (k + 1))
      have fB := below_setRow (bchain hB (below_new _ (.cells (ints noughts).toArray 23))) (b := wr.heap.size) (by omega) (ints (Mx.row m (k + 1))).toArray
      have HC := join_vec (Mx.fold Vc.join m k) (Mx.row m (k + 1)) hf hr
      have hst : Vc.join (Mx.fold Vc.join m k) (Mx.row m (k + 1)) = Mx.fold Vc.join m (k + 1) := rfl
      rw [hst] at HC
      clear hst
      obtain ⟨L1, hL1⟩ : ∃ x, Mx.fold Vc.join m (k + 1) = x := ⟨_, rfl⟩
      have HL : Hid (Mx.fold Vc.join m (k + 1) = L1) := hL1
      rw [hL1] at HC hf1
      clear hL1
      generalize Mx.fold Vc.join m k = L0 at h2 f2 hf HC
      go_wp2_with (first
        | (refine take_at rfl _ _ w.heap.size p k rfl rfl rfl hlt ?_)
        | (refine load_row rfl _ rfl w.heap.size (k + 1) m hm (by omega) rfl g0 ?_)
        | (refine store_vec rfl _ _ rfl wr.heap.size (Mx.row m (k + 1)) noughts hr noughts_length rfl rfl g3 ?_)
        | (refine load_vec rfl _ rfl (w.heap.size + 1 + 1) L0 hf rfl f2 ?_)
        | (refine load_vec rfl _ rfl wr.heap.size (Mx.row m (k + 1)) hr rfl f3 ?_)
        | (go_at_call 22; refine (HC _).mono ?_; rintro e w1 ⟨rfl, hb⟩)
        | (refine store_vec rfl _ _ rfl (w.heap.size + 1 + 1) L1 L0 hf1 hf rfl rfl (f2.on hb) ?_))
      go_roundw
      case rel => exact ⟨k + 1, by omega, by go_num, (f0.on hb).other_row (by omega) _, (f1.on hb).other_row (by omega) _, by rw [HL.out]; exact (f2.on hb).row _, below_setRow (bchain fB hb) (by omega) _⟩
      case measure => simp [intOf]; omega
    · obtain rfl : k = p := by omega
      have hf := Mx.folds_length hm k (by omega)
      go_wp2_with (first | (refine load_vec rfl _ rfl (w.heap.size + 1 + 1) (Mx.fold Vc.join m k) hf rfl h2 ?_) | (refine store_vec rfl _ _ rfl (w.heap.size + 1) (Mx.fold Vc.join m k) noughts hf noughts_length rfl rfl h1 ?_))
      exact bodyPost_ret (ret_vec rfl _ hf rfl (h1.row _)) rfl ⟨rfl, below_setRow hB (by omega) _⟩

set_option maxRecDepth 20000 in
theorem fold_out (m : List Int) (hm : m.length = 256) (n : Int) (hn : ¬ (1 ≤ n ∧ n ≤ 16)) (f : Value) (w : World) :
    Calls Try.prog 23 #[vecV m, .int .i64 n, f] w fun e w' => e = .returned (vecV noughts) ∧ Below w.heap.size w w' := by
  have h1 : VecAt ((w.alloc (.cells (ints m).toArray 27)).alloc (.cells (ints noughts).toArray 23)) (w.heap.size + 1) noughts := VecAt.new' (by simp) noughts
  have hB : Below w.heap.size w ((w.alloc (.cells (ints m).toArray 27)).alloc (.cells (ints noughts).toArray 23)) := below_new2 _ _ _
  by_cases h : n < 1
  · clear hn
    go_enter Try.func23, Try.ntmps23
    go_wp2_with (first | (refine take_vec0 rfl rfl ?_) | (refine store_vec rfl _ _ rfl (w.heap.size + 1) noughts noughts noughts_length noughts_length rfl rfl h1 ?_))
    exact bodyPost_ret (ret_vec rfl _ noughts_length rfl (h1.row _)) rfl ⟨rfl, below_setRow hB (by omega) _⟩
  · have h' : 16 < n := by omega
    clear hn
    go_enter Try.func23, Try.ntmps23
    go_wp2_with (first | (refine take_vec0 rfl rfl ?_) | (refine store_vec rfl _ _ rfl (w.heap.size + 1) noughts noughts noughts_length noughts_length rfl rfl h1 ?_))
    exact bodyPost_ret (ret_vec rfl _ noughts_length rfl (h1.row _)) rfl ⟨rfl, below_setRow hB (by omega) _⟩
theorem fold_front (m : List Int) (hm : m.length = 256) (n : Int) (w : World) : Calls Try.prog 23 #[vecV m, .int .i64 n, .func (.func 24) #[] #[]] w fun e w' => e = .returned (vecV (Mx.frontier m n)) ∧ Below w.heap.size w w' := by
  by_cases h : 1 ≤ n ∧ n ≤ 16
  · obtain ⟨k, rfl⟩ : ∃ k : Nat, n = (k : Int) + 1 := ⟨n.toNat - 1, by omega⟩
    rw [Mx.frontier_in (by omega)]
    exact fold_meet m hm k (by omega) w
  · rw [Mx.frontier_out h]
    exact fold_out m hm n h _ w
set_option maxRecDepth 20000 in
theorem frontier_any (m : List Int) (hm : m.length = 256) (n : Int) (w : World) : Calls Try.prog 10 #[vecV m, .int .i64 n] w fun e w' => e = .returned (vecV (Mx.frontier m n)) ∧ Below w.heap.size w w' := by
  have hf := Mx.frontier_length (n := n) hm
  have h0 : MatAt 27 ((w.alloc (.cells (ints m).toArray 27)).alloc (.cells (ints noughts).toArray 23)) w.heap.size m := (MatAt.new 27 w m).alloc _
  have h1 : VecAt ((w.alloc (.cells (ints m).toArray 27)).alloc (.cells (ints noughts).toArray 23)) (w.heap.size + 1) noughts := VecAt.new' (by simp) noughts
  have hB : Below w.heap.size w ((w.alloc (.cells (ints m).toArray 27)).alloc (.cells (ints noughts).toArray 23)) := below_new2 _ _ _
  have HC := fold_front m hm n
  go_enter Try.func10, Try.ntmps10
  go_wp2_with (first | (refine load_mat m27 rfl _ rfl w.heap.size m hm rfl h0 ?_) | (go_at_call 23; refine (HC _).mono ?_; rintro e w1 ⟨rfl, hb⟩) | (refine store_vec rfl _ _ rfl (w.heap.size + 1) (Mx.frontier m n) noughts hf noughts_length rfl rfl (h1.on hb) ?_))
  exact bodyPost_ret (ret_vec rfl _ hf rfl ((h1.on hb).row _)) rfl ⟨rfl, below_setRow (bchain hB hb) (by omega) _⟩
end Go.Proofs.Ytmifkfeobdnocaa
