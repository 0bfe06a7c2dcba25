/- The walks of the vectors' own functions: is it right, the join, the meet, is one within another. -/
import Derived.Test.YtmifkfeobdnocaaSteps
namespace Go.Proofs.Ytmifkfeobdnocaa
open Go.RowKit

/-- What stands through a region: one vector, two. -/
abbrev One (w : World) (b : Nat) (l : List Int) (w' : World) : Prop := VecAt w' b l ∧ Below w.heap.size w w'
theorem One.on {w W w1 : World} {b : Nat} {l : List Int} (h : One w b l W) (hb : Below W.heap.size W w1) : One w b l w1 := ⟨h.1.on hb, bchain h.2 hb⟩
abbrev Two (w : World) (b : Nat) (l : List Int) (c : Nat) (m : List Int) (w' : World) : Prop := VecAt w' b l ∧ VecAt w' c m ∧ Below w.heap.size w w'
theorem Two.on {w W w1 : World} {b c : Nat} {l m : List Int} (h : Two w b l c m W) (hb : Below W.heap.size W w1) : Two w b l c m w1 := ⟨h.1.on hb, h.2.1.on hb, bchain h.2.2 hb⟩
theorem Two.drew {w W : World} {b c : Nat} {l m : List Int} (h : Two w b l c m W) : Two w b l c m W.drew := ⟨h.1.drew, h.2.1.drew, h.2.2.drew⟩
theorem new2 (w : World) (l m : List Int) : Two w w.heap.size l (w.heap.size + 1) m ((w.alloc (.cells (ints l).toArray 23)).alloc (.cells (ints m).toArray 23)) := by
  refine ⟨(VecAt.new w l).alloc _, ?_, below_new2 _ _ _⟩
  have := VecAt.new (w.alloc (.cells (ints l).toArray 23)) m
  simpa using this

set_option maxRecDepth 20000 in
theorem join_vec (l m : List Int) (hl : l.length = 16) (hm : m.length = 16) (w : World) : Calls Try.prog 22 #[vecV l, vecV m] w fun e w' => e = .returned (vecV (Vc.join l m)) ∧ Below w.heap.size w w' := by
  obtain ⟨h0, h1, hB⟩ := new2 w l m
  have h2 : VecAt (((w.alloc (.cells (ints l).toArray 23)).alloc (.cells (ints m).toArray 23)).alloc (.cells (ints noughts).toArray 23)) (w.heap.size + 1 + 1) noughts := by
    have := VecAt.new ((w.alloc (.cells (ints l).toArray 23)).alloc (.cells (ints m).toArray 23)) noughts
    simpa using this
  have hB2 := bchain hB (below_new _ (.cells (ints noughts).toArray 23))
  have h0' := h0.alloc (.cells (ints noughts).toArray 23)
  have h1' := h1.alloc (.cells (ints noughts).toArray 23)
  clear h0 h1 hB
  have hj : (Vc.join l m).length = 16 := by rw [Vc.join_length, hl]
  go_enter Try.func22, Try.ntmps22
  go_wp2_with (first | (refine load_vec rfl _ rfl w.heap.size l hl rfl h0' ?_) | (go_at_call 29; refine (each_join l hl m hm (w.heap.size + 1) _ h1').mono ?_; rintro e w1 ⟨rfl, hb⟩) | (refine store_vec rfl _ _ rfl (w.heap.size + 1 + 1) (Vc.join l m) noughts hj noughts_length rfl rfl (h2.on hb) ?_))
  refine bodyPost_ret (ret_vec rfl _ hj rfl ((h2.on hb).row _)) rfl ⟨rfl, below_setRow (bchain hB2 hb) (by omega) _⟩

set_option maxRecDepth 20000 in
theorem meet_vec (l m : List Int) (hl : l.length = 16) (hm : m.length = 16) (w : World) : Calls Try.prog 24 #[vecV l, vecV m] w fun e w' => e = .returned (vecV (Vc.meet l m)) ∧ Below w.heap.size w w' := by
  obtain ⟨h0, h1, hB⟩ := new2 w l m
  have h2 : VecAt (((w.alloc (.cells (ints l).toArray 23)).alloc (.cells (ints m).toArray 23)).alloc (.cells (ints noughts).toArray 23)) (w.heap.size + 1 + 1) noughts := by
    have := VecAt.new ((w.alloc (.cells (ints l).toArray 23)).alloc (.cells (ints m).toArray 23)) noughts
    simpa using this
  have hB2 := bchain hB (below_new _ (.cells (ints noughts).toArray 23))
  have h0' := h0.alloc (.cells (ints noughts).toArray 23)
  have h1' := h1.alloc (.cells (ints noughts).toArray 23)
  clear h0 h1 hB
  have hj : (Vc.meet l m).length = 16 := by rw [Vc.meet_length, hl]
  go_enter Try.func24, Try.ntmps24
  go_wp2_with (first | (refine load_vec rfl _ rfl w.heap.size l hl rfl h0' ?_) | (go_at_call 29; refine (each_meet l hl m hm (w.heap.size + 1) _ h1').mono ?_; rintro e w1 ⟨rfl, hb⟩) | (refine store_vec rfl _ _ rfl (w.heap.size + 1 + 1) (Vc.meet l m) noughts hj noughts_length rfl rfl (h2.on hb) ?_))
  refine bodyPost_ret (ret_vec rfl _ hj rfl ((h2.on hb).row _)) rfl ⟨rfl, below_setRow (bchain hB2 hb) (by omega) _⟩

end Go.Proofs.Ytmifkfeobdnocaa
