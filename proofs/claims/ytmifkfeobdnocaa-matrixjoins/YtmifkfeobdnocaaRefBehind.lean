/- The walks of the document's Frontier of any number, and of its Behind. -/
import Derived.Test.YtmifkfeobdnocaaRefMat
namespace Go.Proofs.Ytmifkfeobdnocaa
open Go.RowKit
set_option linter.unusedVariables false

set_option maxRecDepth 20000 in
set_option maxHeartbeats 2000000 in
theorem refFrontier_out (m : List Int) (hm : m.length = 256) (n : Int) (hn : ¬ (1 ≤ n ∧ n ≤ 16)) (w : World) : Calls Try.prog 11 #[vecV m, .int .i64 n] w fun e w' => e = .returned (vecV noughts) ∧ Below w.heap.size w w' := by
  have h1 : VecAt (((w.alloc (.cells (ints m).toArray 24)).alloc (.cells (ints noughts).toArray 23)).alloc (.cells (ints noughts).toArray 23)) (w.heap.size + 1) noughts := (VecAt.new' (by simp) noughts).alloc _
  have h2 : VecAt (((w.alloc (.cells (ints m).toArray 24)).alloc (.cells (ints noughts).toArray 23)).alloc (.cells (ints noughts).toArray 23)) (w.heap.size + 1 + 1) noughts := VecAt.new' (by simp) noughts
  have hB : Below w.heap.size w (((w.alloc (.cells (ints m).toArray 24)).alloc (.cells (ints noughts).toArray 23)).alloc (.cells (ints noughts).toArray 23)) := bchain (below_new2 _ _ _) (below_new _ _)
  have g1 := h1.other_row (c := w.heap.size + 1 + 1) (by omega) (ints noughts).toArray
  have g2 := h2.row noughts
  have gB := below_setRow hB (b := w.heap.size + 1 + 1) (by omega) (ints noughts).toArray
  by_cases h : n < 1
  · clear hn
    go_enter Try.func11, Try.ntmps11
    go_wp2_with (first | (refine take_vec0 rfl rfl ?_) | (refine store_vec rfl _ _ rfl (w.heap.size + 1 + 1) noughts noughts noughts_length noughts_length rfl rfl h2 ?_) | (refine load_vec rfl _ rfl (w.heap.size + 1 + 1) noughts noughts_length rfl g2 ?_) | (refine store_vec rfl _ _ rfl (w.heap.size + 1) noughts noughts noughts_length noughts_length rfl rfl g1 ?_))
    exact bodyPost_ret (ret_vec rfl _ noughts_length rfl (g1.row _)) rfl ⟨rfl, below_setRow gB (by omega) _⟩
  · have h' : 16 < n := by omega
    clear hn
    go_enter Try.func11, Try.ntmps11
    go_wp2_with (first | (refine take_vec0 rfl rfl ?_) | (refine store_vec rfl _ _ rfl (w.heap.size + 1 + 1) noughts noughts noughts_length noughts_length rfl rfl h2 ?_) | (refine load_vec rfl _ rfl (w.heap.size + 1 + 1) noughts noughts_length rfl g2 ?_) | (refine store_vec rfl _ _ rfl (w.heap.size + 1) noughts noughts noughts_length noughts_length rfl rfl g1 ?_))
    exact bodyPost_ret (ret_vec rfl _ noughts_length rfl (g1.row _)) rfl ⟨rfl, below_setRow gB (by omega) _⟩
theorem refFrontier_any (m : List Int) (hm : m.length = 256) (n : Int) (w : World) : Calls Try.prog 11 #[vecV m, .int .i64 n] w fun e w' => e = .returned (vecV (Mx.frontier m n)) ∧ Below w.heap.size w w' := by
  by_cases h : 1 ≤ n ∧ n ≤ 16
  · obtain ⟨k, rfl⟩ : ∃ k : Nat, n = (k : Int) + 1 := ⟨n.toNat - 1, by omega⟩
    rw [Mx.frontier_in (by omega)]
    exact refFrontier_in m hm k (by omega) w
  · rw [Mx.frontier_out h]
    exact refFrontier_out m hm n h w

set_option maxRecDepth 20000 in
set_option maxHeartbeats 2000000 in
theorem refBehind_in (m : List Int) (hm : m.length = 256) (hr : Mx.rights m 16 = true) (n i : Nat) (hn1 : 1 ≤ n) (hn : n ≤ 16) (hi : i < 16) (w : World) : Calls Try.prog 16 #[vecV m, .int .i64 (n : Int), .int .i64 (i : Int)] w fun e w' => e = .returned (.int .i64 (Mx.behinds m n i 16)) ∧ Below w.heap.size w w' := by
  have h0 := MatAt.new 24 w m
  have hB : Hid (Below w.heap.size w (w.alloc (.cells (ints m).toArray 24))) := below_new w (.cells (ints m).toArray 24)
  have a1 : ¬ (n : Int) < 1 := by omega
  have a2 : ¬ (16 : Int) < (n : Int) := by omega
  have a3 : ¬ (i : Int) < 0 := by omega
  have a4 : ¬ (15 : Int) < (i : Int) := by omega
  go_enter Try.func16, Try.ntmps16
  go_wp2
  generalize w.alloc (.cells (ints m).toArray 24) = W at *
  go_loop [7, 8] (fun s k => ∃ q : Nat, q ≤ 16 ∧ k = .int .i64 q ∧ s = .int .i64 (Mx.behinds m n i q)) (fun _ k => 16 - (intOf k).toNat)
  case atStart => exact ⟨0, by omega, rfl, rfl⟩
  case round =>
    obtain ⟨q, hq, rfl, rfl⟩ := hrel
    by_cases hlt : q < 16
    · have b1 := Mx.behinds_bound hm hr hn hi q hq
      have HS : Hid (Mx.behinds m n i (q + 1) = Mx.behinds m n i q + max 0 (Mx.most m q n - (Mx.row m i).getD q 0)) := by
        have h : Mx.behinds m n i (q + 1) = Mx.behinds m n i q + max 0 (Mx.most m q n - (Mx.row m i).getD q 0) := rfl
        exact h
      generalize Mx.behinds m n i q = s at *
      have s0 : 0 ≤ s := b1.1
      have s1 : s ≤ 16777216 := by omega
      clear b1
      go_wp2
      go_loop [9, 10] (fun t j => ∃ p : Nat, p ≤ n ∧ j = .int .i64 p ∧ t = .int .i64 (Mx.most m q p)) (fun _ j => n - (intOf j).toNat)
      case atStart => exact ⟨0, by omega, rfl, rfl⟩
      case round =>
        obtain ⟨p, hp, rfl, rfl⟩ := hrel
        by_cases hpn : p < n
        · have hpn' : (p : Int) < (n : Int) := by omega
          have hp16 : p < 16 := by omega
          have c1 := h0.cell hm (i := p) hp16 hlt
          have HM : Hid (Mx.most m q (p + 1) = max (Mx.most m q p) ((Mx.row m p).getD q 0)) := by
            have h : Mx.most m q (p + 1) = max (Mx.most m q p) ((Mx.row m p).getD q 0) := rfl
            exact h
          generalize Mx.most m q p = x at *
          generalize (Mx.row m p).getD q 0 = y at *
          by_cases hxy : x < y
          · go_wp2_with (first | (refine take_row rfl m24 _ _ w.heap.size p rfl rfl rfl hp16 ?_) | (refine take_num rfl _ _ w.heap.size (p * 16) q rfl rfl rfl hlt ?_) | (refine load_num rfl _ w.heap.size (p * 16 + q) y rfl rfl c1 ?_))
            go_round
            case rel => exact ⟨p + 1, by omega, by go_num, by rw [HM.out, show max x y = y by omega]⟩
            case measure => simp [intOf]; omega
          · go_wp2_with (first | (refine take_row rfl m24 _ _ w.heap.size p rfl rfl rfl hp16 ?_) | (refine take_num rfl _ _ w.heap.size (p * 16) q rfl rfl rfl hlt ?_) | (refine load_num rfl _ w.heap.size (p * 16 + q) y rfl rfl c1 ?_))
            go_round
            case rel => exact ⟨p + 1, by omega, by go_num, by rw [HM.out, show max x y = x by omega]⟩
            case measure => simp [intOf]; omega
        · have hpn' : ¬ (p : Int) < (n : Int) := by omega
          have c2 := h0.cell hm (i := i) hi hlt
          have b2 := Mx.most_bound hm hr hlt n hn
          have b3 := Mx.right_num hm hr hi hlt
          have HM : Hid (Mx.most m q n = Mx.most m q p) := by
            have h : Mx.most m q n = Mx.most m q p := by rw [show p = n by omega]
            exact h
          rw [HM.out] at b2 HS
          clear HM hp hpn
          generalize Mx.most m q p = x at *
          generalize (Mx.row m i).getD q 0 = y at *
          have x0 : 0 ≤ x := b2.1
          have x1 : x ≤ 1048576 := b2.2
          have y0 : 0 ≤ y := b3.1
          have y1 : y ≤ 1048576 := b3.2
          clear b2 b3
          by_cases hxy : y < x
          · go_wp2_with (first | (refine take_row rfl m24 _ _ w.heap.size i rfl rfl rfl hi ?_) | (refine take_num rfl _ _ w.heap.size (i * 16) q rfl rfl rfl hlt ?_) | (refine load_num rfl _ w.heap.size (i * 16 + q) y rfl rfl c2 ?_))
            go_round
            case rel => exact ⟨q + 1, by omega, by go_num, by rw [HS.out, show s + max 0 (x - y) = s + x - y by omega]⟩
            case measure => simp [intOf]; omega
          · go_wp2_with (first | (refine take_row rfl m24 _ _ w.heap.size i rfl rfl rfl hi ?_) | (refine take_num rfl _ _ w.heap.size (i * 16) q rfl rfl rfl hlt ?_) | (refine load_num rfl _ w.heap.size (i * 16 + q) y rfl rfl c2 ?_))
            go_round
            case rel => exact ⟨q + 1, by omega, by go_num, by rw [HS.out, show s + max 0 (x - y) = s by omega]⟩
            case measure => simp [intOf]; omega
    · obtain rfl : q = 16 := by omega
      go_wp2
      go_ret
      exact ⟨rfl, hB.out⟩

set_option maxRecDepth 20000 in
theorem refBehind_out (m : List Int) (n i : Int) (h : ¬ (1 ≤ n ∧ n ≤ 16 ∧ 0 ≤ i ∧ i < 16)) (w : World) : Calls Try.prog 16 #[vecV m, .int .i64 n, .int .i64 i] w fun e w' => e = .returned (.int .i64 0) ∧ Below w.heap.size w w' := by
  have hB : Hid (Below w.heap.size w (w.alloc (.cells (ints m).toArray 24))) := below_new w (.cells (ints m).toArray 24)
  by_cases a1 : n < 1
  · clear h
    go_enter Try.func16, Try.ntmps16
    go_wp2
    go_ret
    exact ⟨rfl, hB.out⟩
  · by_cases a2 : 16 < n
    · clear h
      go_enter Try.func16, Try.ntmps16
      go_wp2
      go_ret
      exact ⟨rfl, hB.out⟩
    · by_cases a3 : i < 0
      · clear h
        go_enter Try.func16, Try.ntmps16
        go_wp2
        go_ret
        exact ⟨rfl, hB.out⟩
      · have a4 : 15 < i := by omega
        clear h
        go_enter Try.func16, Try.ntmps16
        go_wp2
        go_ret
        exact ⟨rfl, hB.out⟩
theorem refBehind_any (m : List Int) (hm : m.length = 256) (hr : Mx.rights m 16 = true) (n i : Int) (w : World) : Calls Try.prog 16 #[vecV m, .int .i64 n, .int .i64 i] w fun e w' => e = .returned (.int .i64 (Mx.behind m n i)) ∧ Below w.heap.size w w' := by
  by_cases h : 1 ≤ n ∧ n ≤ 16 ∧ 0 ≤ i ∧ i < 16
  · obtain ⟨p, rfl⟩ : ∃ p : Nat, n = (p : Int) := ⟨n.toNat, by omega⟩
    obtain ⟨k, rfl⟩ : ∃ k : Nat, i = (k : Int) := ⟨i.toNat, by omega⟩
    rw [Mx.behind_in (by omega) (by omega) (by omega)]
    exact refBehind_in m hm hr p k (by omega) (by omega) (by omega) w
  · rw [Mx.behind_out h]
    exact refBehind_out m n i h w
end Go.Proofs.Ytmifkfeobdnocaa
