/- The walks of the statements' own 'right', and of the document's Frontier. -/
import Derived.Test.YtmifkfeobdnocaaStable
namespace Go.Proofs.Ytmifkfeobdnocaa
open Go.RowKit
set_option linter.unusedVariables false

set_option maxRecDepth 20000 in
set_option maxHeartbeats 1000000 in
theorem rights_any (m : List Int) (hm : m.length = 256) (w : World) : Calls Try.prog 14 #[vecV m] w fun e w' => e = .returned (.bool (Mx.rights m 16)) ∧ Below w.heap.size w w' := by
  have h0 := MatAt.new 24 w m
  have hB := below_new w (.cells (ints m).toArray 24)
  go_enter Try.func14, Try.ntmps14
  go_wp2
  go_loopw [3] (fun i wr => ∃ k : Nat, k ≤ 16 ∧ i = .int .i64 k ∧ Hid (Mx.rights m k = true) ∧ MatAt 24 wr w.heap.size m ∧ Below w.heap.size w wr) (fun i _ => 16 - (intOf i).toNat)
  case atStart => exact ⟨0, by omega, rfl, rfl, h0, hB⟩
  case round =>
    clear h0 hB
    obtain ⟨k, hk, rfl, HA, h0, hB⟩ := hrel
    by_cases hlt : k < 16
    · have HC := refRight_vec (Mx.row m k) (Mx.row_length hm hlt)
      have HX : Hid (Mx.rights m (k + 1) = Vc.right (Mx.row m k)) := by
        have h : Mx.rights m (k + 1) = Vc.right (Mx.row m k) := by rw [Mx.rights, HA.out, Bool.true_and]
        exact h
      cases hb : Vc.right (Mx.row m k)
      · rw [hb] at HC HX
        have HR : Hid (Mx.rights m 16 = false) := by
          have h : Mx.rights m 16 = false := by
            rw [Bool.eq_false_iff]
            intro h
            have := Mx.rights_row 16 h k hlt
            rw [hb] at this
            cases this
          exact h
        clear hb
        go_wp2_with (first | (refine take_row rfl m24 _ _ w.heap.size k rfl rfl rfl hlt ?_) | (refine load_row rfl _ rfl w.heap.size k m hm hlt rfl h0 ?_) | (go_at_call 27; refine (HC _).mono ?_; rintro e w1 ⟨rfl, hb⟩))
        go_ret
        exact ⟨by rw [HR.out]; rfl, bchain hB hb⟩
      · rw [hb] at HC HX
        clear hb
        go_wp2_with (first | (refine take_row rfl m24 _ _ w.heap.size k rfl rfl rfl hlt ?_) | (refine load_row rfl _ rfl w.heap.size k m hm hlt rfl h0 ?_) | (go_at_call 27; refine (HC _).mono ?_; rintro e w1 ⟨rfl, hb⟩))
        go_roundw
        case rel => exact ⟨k + 1, by omega, by go_num, HX, h0.on hb, bchain hB hb⟩
        case measure => simp [intOf]; omega
    · obtain rfl : k = 16 := by omega
      go_wp2
      go_ret
      exact ⟨by rw [HA.out]; rfl, hB⟩

section
variable {ops : Array Oper} {rest : List Oper} {o : Oper} {a : Act} {w : World} {Q : Exit → Act → World → Prop}
theorem take_num (hgd : o.guard = none) (x y : Operand) (b f k : Nat) (ho : o.op = .indexAddr 23 x y) (hx : a.eval x = .pointer (some ⟨b, f, none⟩)) (hy : a.eval y = .int .i64 (k : Int)) (hlt : k < 16)
    (hk : wpList Try.prog ops Q rest (a.put o.dst (.pointer (some ⟨b, f + k, none⟩))) w) : wpList Try.prog ops Q (o :: rest) a w :=
  wpList_plain hgd fun _ hK => by
    unfold Oper.wp execOp
    simp only [ho, hx, hy, Sem.run_bind, indexAt_in b f k hlt, Result.andThen_ok, Sem.run_pure]
    exact hK _ _ hk
theorem load_num (hgd : o.guard = none) (x : Operand) (b f : Nat) (n : Int) (ho : o.op = .load 3 x) (hx : a.eval x = .pointer (some ⟨b, f, none⟩)) (h : w.cell? ⟨b, f, none⟩ = some (.int .i64 n))
    (hk : wpList Try.prog ops Q rest (a.put o.dst (.int .i64 n)) w) : wpList Try.prog ops Q (o :: rest) a w :=
  wpList_plain hgd fun _ hK => by
    unfold Oper.wp
    rw [exec_int ho hx h]
    exact hK _ _ hk
end

set_option maxRecDepth 20000 in
set_option maxHeartbeats 2000000 in
theorem refFrontier_in (m : List Int) (hm : m.length = 256) (p : Nat) (hp : p < 16) (w : World) : Calls Try.prog 11 #[vecV m, .int .i64 ((p : Int) + 1)] w fun e w' => e = .returned (vecV (Mx.fold Vc.meet m p)) ∧ Below w.heap.size w w' := by
  obtain ⟨f, hf⟩ : ∃ f : Nat → Int → Int, f = fun j _ => Mx.least m j p := ⟨_, rfl⟩
  have HF : Hid (f = fun j _ => Mx.least m j p) := hf
  have HE : Hid (noughts.mapIdx f = Mx.fold Vc.meet m p) := by
    have h : noughts.mapIdx f = Mx.fold Vc.meet m p := by
      refine Vc.same_of (by simp [noughts_length, Mx.meets_length hm p hp]) fun k hk => ?_
      have hk' : k < 16 := by simpa [noughts_length] using hk
      rw [Mx.meets_at hm hk' p hp]
      have : k < noughts.length := by rw [noughts_length]; exact hk'
      simp [List.getD, this, hf]
    exact h
  clear hf
  have h0 : MatAt 24 (((w.alloc (.cells (ints m).toArray 24)).alloc (.cells (ints noughts).toArray 23)).alloc (.cells (ints noughts).toArray 23)) w.heap.size m := ((MatAt.new 24 w m).alloc _).alloc _
  have h1 : VecAt (((w.alloc (.cells (ints m).toArray 24)).alloc (.cells (ints noughts).toArray 23)).alloc (.cells (ints noughts).toArray 23)) (w.heap.size + 1) noughts := (VecAt.new' (by simp) noughts).alloc _
  have h2 : VecAt (((w.alloc (.cells (ints m).toArray 24)).alloc (.cells (ints noughts).toArray 23)).alloc (.cells (ints noughts).toArray 23)) (w.heap.size + 1 + 1) noughts := VecAt.new' (by simp) noughts
  have hB : Below w.heap.size w (((w.alloc (.cells (ints m).toArray 24)).alloc (.cells (ints noughts).toArray 23)).alloc (.cells (ints noughts).toArray 23)) := bchain (below_new2 _ _ _) (below_new _ _)
  have hn1 : ¬ (p : Int) + 1 < 1 := by omega
  have hn2 : ¬ (16 : Int) < (p : Int) + 1 := by omega
  go_enter Try.func11, Try.ntmps11
  go_wp2_with (first | (refine take_vec0 rfl rfl ?_) | (refine store_vec rfl _ _ rfl (w.heap.size + 1 + 1) noughts noughts noughts_length noughts_length rfl rfl h2 ?_))
  go_loopw [6] (fun i wr => ∃ k : Nat, k ≤ 16 ∧ i = .int .i64 k ∧ MatAt 24 wr w.heap.size m ∧ VecAt wr (w.heap.size + 1) noughts ∧ VecAt wr (w.heap.size + 1 + 1) (Vc.upto f noughts k) ∧ Below w.heap.size w wr) (fun i _ => 16 - (intOf i).toNat)
  case atStart => exact ⟨0, by omega, rfl, h0.other_row (by omega) _, h1.other_row (by omega) _, by rw [Vc.upto_zero]; exact h2.row _, below_setRow hB (by omega) _⟩
  case round =>
    clear h0 h1 h2 hB
    obtain ⟨k, hk, rfl, h0, h1, h2, hB⟩ := hrel
    by_cases hlt : k < 16
    · have c0 := h0.cell hm (i := 0) (by omega) hlt
      go_wp2_with (first | (refine take_row rfl m24 _ _ w.heap.size 0 rfl rfl rfl (by omega) ?_) | (refine take_num rfl _ _ w.heap.size (0 * 16) k rfl rfl rfl hlt ?_) | (refine load_num rfl _ w.heap.size (0 * 16 + k) ((Mx.row m 0).getD k 0) rfl rfl c0 ?_))
      have hk16 : k < noughts.length := by rw [noughts_length]; exact hlt
      have hst := Vc.upto_step f noughts k hk16
      have HY : Hid (f k (noughts.getD k 0) = Mx.least m k p) := by
        have h : f k (noughts.getD k 0) = Mx.least m k p := by rw [HF.out]
        exact h
      have hc2 := h2.cell (k := k) (by rw [Vc.upto_length]; exact hk16)
      generalize (Vc.upto f noughts k).getD k 0 = z at hc2
      have hfz := h2.frozen k
      go_loop [7, 8] (fun s i => ∃ j : Nat, 1 ≤ j ∧ j ≤ p + 1 ∧ i = .int .i64 j ∧ s = .int .i64 (Mx.least m k (j - 1))) (fun _ i => p + 1 - (intOf i).toNat)
      case atStart => exact ⟨1, by omega, by omega, rfl, rfl⟩
      case round =>
        obtain ⟨j, hj1, hj, rfl, rfl⟩ := hrel
        by_cases hjp : j < p + 1
        · have hjp' : (j : Int) < (p : Int) + 1 := by omega
          have c1 := h0.cell hm (i := j) (by omega) hlt
          have HM : Hid (Mx.least m k (j + 1 - 1) = min (Mx.least m k (j - 1)) ((Mx.row m j).getD k 0)) := by
            have h : Mx.least m k (j + 1 - 1) = min (Mx.least m k (j - 1)) ((Mx.row m j).getD k 0) := by
              obtain ⟨q, rfl⟩ : ∃ q, j = q + 1 := ⟨j - 1, by omega⟩
              rfl
            exact h
          generalize Mx.least m k (j - 1) = x at *
          generalize (Mx.row m j).getD k 0 = y at *
          have hj16 : j < 16 := by omega
          by_cases hxy : y < x
          · go_wp2_with (first | (refine take_row rfl m24 _ _ w.heap.size j rfl rfl rfl hj16 ?_) | (refine take_num rfl _ _ w.heap.size (j * 16) k rfl rfl rfl hlt ?_) | (refine load_num rfl _ w.heap.size (j * 16 + k) y rfl rfl c1 ?_))
            go_round
            case rel => exact ⟨j + 1, by omega, by omega, by go_num, by rw [HM.out, show min x y = y by omega]⟩
            case measure => simp [intOf]; omega
          · go_wp2_with (first | (refine take_row rfl m24 _ _ w.heap.size j rfl rfl rfl hj16 ?_) | (refine take_num rfl _ _ w.heap.size (j * 16) k rfl rfl rfl hlt ?_) | (refine load_num rfl _ w.heap.size (j * 16 + k) y rfl rfl c1 ?_))
            go_round
            case rel => exact ⟨j + 1, by omega, by omega, by go_num, by rw [HM.out, show min x y = x by omega]⟩
            case measure => simp [intOf]; omega
        · have hjp' : ¬ (j : Int) < (p : Int) + 1 := by omega
          have HM : Hid (Mx.least m k (j - 1) = Mx.least m k p) := by
            have h : Mx.least m k (j - 1) = Mx.least m k p := by rw [show j - 1 = p by omega]
            exact h
          generalize Mx.least m k (j - 1) = x at *
          have HR : Hid (MatAt 24 (wr.setCell ⟨w.heap.size + 1 + 1, k, none⟩ (.int .i64 x)) w.heap.size m ∧ VecAt (wr.setCell ⟨w.heap.size + 1 + 1, k, none⟩ (.int .i64 x)) (w.heap.size + 1) noughts ∧ VecAt (wr.setCell ⟨w.heap.size + 1 + 1, k, none⟩ (.int .i64 x)) (w.heap.size + 1 + 1) (Vc.upto f noughts (k + 1)) ∧ Below w.heap.size w (wr.setCell ⟨w.heap.size + 1 + 1, k, none⟩ (.int .i64 x))) := by
            refine (⟨?_, ?_, ?_, ?_⟩ : _ ∧ _ ∧ _ ∧ _)
            · exact h0.other _ _ (show w.heap.size ≠ w.heap.size + 1 + 1 by omega)
            · exact h1.other _ _ (show w.heap.size + 1 ≠ w.heap.size + 1 + 1 by omega)
            · rw [← hst, HY.out, ← HM.out]
              exact h2.set k x
            · exact hB.setCell (p := ⟨w.heap.size + 1 + 1, k, none⟩) (show w.heap.size ≤ w.heap.size + 1 + 1 by omega) _
          clear h0 h1 h2 hst
          go_wp2
          go_roundw
          case rel => exact ⟨k + 1, by omega, by go_num, HR.out⟩
          case measure => simp [intOf]; omega
    · obtain rfl : k = 16 := by omega
      rw [Vc.upto_all f noughts 16 (by rw [noughts_length]; omega), HE.out] at h2
      have hf := Mx.meets_length hm p hp
      go_wp2_with (first | (refine load_vec rfl _ rfl (w.heap.size + 1 + 1) (Mx.fold Vc.meet m p) hf rfl h2 ?_) | (refine store_vec rfl _ _ rfl (w.heap.size + 1) (Mx.fold Vc.meet m p) noughts hf noughts_length rfl rfl h1 ?_))
      exact bodyPost_ret (ret_vec rfl _ hf rfl (h1.row _)) rfl ⟨rfl, below_setRow hB (by omega) _⟩
end Go.Proofs.Ytmifkfeobdnocaa
