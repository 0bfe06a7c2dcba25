/- The walks of the vectors' own functions: is it right, the join, the meet, is one within another. -/
import Derived.Test.YtenfbjlmfdiniaaSteps
namespace Go.Proofs.Ytenfbjlmfdiniaa
open Go.RowKit

/-- What stands through a region: one vector, two. -/
abbrev One (w : World) (b : Nat) (l : List Int) (w' : World) : Prop := VecAt w' b l ∧ Below w.heap.size w w'
theorem One.on {w W w1 : World} {b : Nat} {l : List Int} (h : One w b l W) (hb : Below W.heap.size W w1) : One w b l w1 := ⟨h.1.on hb, bchain h.2 hb⟩
abbrev Two (w : World) (b : Nat) (l : List Int) (c : Nat) (m : List Int) (w' : World) : Prop := VecAt w' b l ∧ VecAt w' c m ∧ Below w.heap.size w w'
theorem Two.on {w W w1 : World} {b c : Nat} {l m : List Int} (h : Two w b l c m W) (hb : Below W.heap.size W w1) : Two w b l c m w1 := ⟨h.1.on hb, h.2.1.on hb, bchain h.2.2 hb⟩
theorem Two.drew {w W : World} {b c : Nat} {l m : List Int} (h : Two w b l c m W) : Two w b l c m W.drew := ⟨h.1.drew, h.2.1.drew, h.2.2.drew⟩
theorem new2 (w : World) (l m : List Int) : Two w w.heap.size l (w.heap.size + 1) m ((w.alloc (.cells (ints l).toArray 23)).alloc (.cells (ints m).toArray 23)) := by
  refine ⟨(VecAt.new w l).alloc _, ?_, below_new2 _ _ _⟩
  have := VecAt.new (w.alloc (.cells (ints l).toArray 23)) m
  simpa using this

set_option maxRecDepth 20000 in
theorem right_vec (l : List Int) (hl : l.length = 16) (w : World) : Calls Try.prog 44 #[vecV l] w fun e w' => e = .returned (.bool (Vc.right l)) ∧ Below w.heap.size w w' := by
  have hS : One w w.heap.size l (w.alloc (.cells (ints l).toArray 23)).drew := ⟨(VecAt.new w l).drew, (below_new w _).drew⟩
  have hc : (Vc.clip l).length = 16 := by rw [Vc.clip_length, hl]
  go_enter Try.func44, Try.ntmps44
  go_wp2_with fail
  refine wp_region_held_drew (S := One w w.heap.size l) (by kernel_rfl) (hS) (fun hH0 => ?_)
  refine held_take (i := 0) (o := { dst := some 3, op := Op.load 23 (Operand.tmp 1), type := 23, pos := "vec.go:22", after := #[], guard := none }) (v := vecV l) (by kernel_rfl) (by kernel_rfl) (by kernel_rfl) (by kernel_rfl) (fun _ _ _ h => h) (by kernel_rfl) (fun _ h => exec_vec rfl hl (by kernel_rfl) h.1) hH0 ?_
  refine held_take (i := 1) (o := { dst := some 4, op := Op.load 23 (Operand.tmp 1), type := 23, pos := "vec.go:22", after := #[], guard := none }) (v := vecV l) (by kernel_rfl) (by kernel_rfl) (by kernel_rfl) (by kernel_rfl) (fun _ _ _ h => h) (by kernel_rfl) (fun _ h => exec_vec rfl hl (by kernel_rfl) h.1) hH0 ?_
  refine held_call (i := 2) (o := { dst := some 5, op := Op.call { callee := Callee.value (Operand.func 77), args := #[Operand.tmp 4, Operand.func 78], argTypes := #[23, 92] }, type := 23, pos := "vec.go:22", after := #[{ on := 1, ground := Ground.data }], guard := none }) (F := 77) (vs := #[vecV l, .func (.func 78) #[] #[]]) (v := vecV (Vc.clip l)) (by kernel_rfl) (by kernel_rfl) (by kernel_rfl) (fun _ => by kernel_rfl) (each_clip l hl) (fun _ hb => hH0.on hb) (fun w1 hH1 => ?_)
  clear hH0
  refine held_take (i := 3) (o := { dst := some 6, op := Op.binOp BinOp.eql 23 (Operand.tmp 3) (Operand.tmp 5) 23, type := 4, pos := "vec.go:22", after := #[{ on := 0, ground := Ground.data }, { on := 2, ground := Ground.data }], guard := none }) (v := .bool (Vc.right l)) (by kernel_rfl) (by kernel_rfl) (by kernel_rfl) (by kernel_rfl) (fun _ _ _ h => h) (by kernel_rfl) (fun W _ => exec_bin rfl (by kernel_rfl) (by kernel_rfl) (fun _ => by kernel_rfl) (eqv hl hc (Vc.right_clip l)) W) hH1 ?_
  refine held_do (i := 4) (o := { dst := some 2, op := Op.assign (Operand.tmp 6), type := 4, pos := "vec.go:22", after := #[{ on := 3, ground := Ground.data }, { on := 2, ground := Ground.chain }, { on := 0, ground := Ground.phase }, { on := 1, ground := Ground.phase }, { on := 2, ground := Ground.phase }, { on := 3, ground := Ground.phase }], guard := none }) (v := .bool (Vc.right l)) (by kernel_rfl) (by kernel_rfl) (by kernel_rfl) (by kernel_rfl) hH1 ?_
  refine wpAnyH_done (by kernel_rfl) ?_ _
  simp only [Act.put, List.setIfInBounds_toArray, List.set_cons_zero, List.set_cons_succ]
  go_wp2
  go_ret
  exact ⟨rfl, hH1.2⟩

set_option maxRecDepth 20000 in
theorem join_vec (l m : List Int) (hl : l.length = 16) (hm : m.length = 16) (w : World) : Calls Try.prog 56 #[vecV l, vecV m] w fun e w' => e = .returned (vecV (Vc.join l m)) ∧ Below w.heap.size w w' := by
  obtain ⟨h0, h1, hB⟩ := new2 w l m
  have h2 : VecAt (((w.alloc (.cells (ints l).toArray 23)).alloc (.cells (ints m).toArray 23)).alloc (.cells (ints noughts).toArray 23)) (w.heap.size + 1 + 1) noughts := by
    have := VecAt.new ((w.alloc (.cells (ints l).toArray 23)).alloc (.cells (ints m).toArray 23)) noughts
    simpa using this
  have hB2 := bchain hB (below_new _ (.cells (ints noughts).toArray 23))
  have h0' := h0.alloc (.cells (ints noughts).toArray 23)
  have h1' := h1.alloc (.cells (ints noughts).toArray 23)
  clear h0 h1 hB
  have hj : (Vc.join l m).length = 16 := by rw [Vc.join_length, hl]
  go_enter Try.func56, Try.ntmps56
  go_wp2_with (first | (refine load_vec rfl _ rfl w.heap.size l hl rfl h0' ?_) | (go_at_call 77; refine (each_join l hl m hm (w.heap.size + 1) _ h1').mono ?_; rintro e w1 ⟨rfl, hb⟩) | (refine store_vec rfl _ _ rfl (w.heap.size + 1 + 1) (Vc.join l m) noughts hj noughts_length rfl rfl (h2.on hb) ?_))
  refine bodyPost_ret (ret_vec rfl _ hj rfl ((h2.on hb).row _)) rfl ⟨rfl, below_setRow (bchain hB2 hb) (by omega) _⟩

set_option maxRecDepth 20000 in
theorem meet_vec (l m : List Int) (hl : l.length = 16) (hm : m.length = 16) (w : World) : Calls Try.prog 88 #[vecV l, vecV m] w fun e w' => e = .returned (vecV (Vc.meet l m)) ∧ Below w.heap.size w w' := by
  obtain ⟨h0, h1, hB⟩ := new2 w l m
  have h2 : VecAt (((w.alloc (.cells (ints l).toArray 23)).alloc (.cells (ints m).toArray 23)).alloc (.cells (ints noughts).toArray 23)) (w.heap.size + 1 + 1) noughts := by
    have := VecAt.new ((w.alloc (.cells (ints l).toArray 23)).alloc (.cells (ints m).toArray 23)) noughts
    simpa using this
  have hB2 := bchain hB (below_new _ (.cells (ints noughts).toArray 23))
  have h0' := h0.alloc (.cells (ints noughts).toArray 23)
  have h1' := h1.alloc (.cells (ints noughts).toArray 23)
  clear h0 h1 hB
  have hj : (Vc.meet l m).length = 16 := by rw [Vc.meet_length, hl]
  go_enter Try.func88, Try.ntmps88
  go_wp2_with (first | (refine load_vec rfl _ rfl w.heap.size l hl rfl h0' ?_) | (go_at_call 77; refine (each_meet l hl m hm (w.heap.size + 1) _ h1').mono ?_; rintro e w1 ⟨rfl, hb⟩) | (refine store_vec rfl _ _ rfl (w.heap.size + 1 + 1) (Vc.meet l m) noughts hj noughts_length rfl rfl (h2.on hb) ?_))
  refine bodyPost_ret (ret_vec rfl _ hj rfl ((h2.on hb).row _)) rfl ⟨rfl, below_setRow (bchain hB2 hb) (by omega) _⟩

set_option maxRecDepth 20000 in
theorem within_vec (l m : List Int) (hl : l.length = 16) (hm : m.length = 16) (w : World) : Calls Try.prog 58 #[vecV l, vecV m] w fun e w' => e = .returned (.bool (Vc.within l m)) ∧ Below w.heap.size w w' := by
  have hS := (new2 w l m).drew
  have hj : (Vc.meet l m).length = 16 := by rw [Vc.meet_length, hl]
  go_enter Try.func58, Try.ntmps58
  go_wp2_with fail
  refine wp_region_held_drew (S := Two w w.heap.size l (w.heap.size + 1) m) (by kernel_rfl) (hS) (fun hH0 => ?_)
  refine held_take (i := 0) (o := { dst := some 5, op := Op.load 23 (Operand.tmp 2), type := 23, pos := "vec.go:42", after := #[], guard := none }) (v := vecV l) (by kernel_rfl) (by kernel_rfl) (by kernel_rfl) (by kernel_rfl) (fun _ _ _ h => h) (by kernel_rfl) (fun _ h => exec_vec rfl hl (by kernel_rfl) h.1) hH0 ?_
  refine held_take (i := 1) (o := { dst := some 6, op := Op.load 23 (Operand.tmp 2), type := 23, pos := "vec.go:42", after := #[], guard := none }) (v := vecV l) (by kernel_rfl) (by kernel_rfl) (by kernel_rfl) (by kernel_rfl) (fun _ _ _ h => h) (by kernel_rfl) (fun _ h => exec_vec rfl hl (by kernel_rfl) h.1) hH0 ?_
  refine held_take (i := 2) (o := { dst := some 7, op := Op.load 23 (Operand.tmp 3), type := 23, pos := "vec.go:42", after := #[], guard := none }) (v := vecV m) (by kernel_rfl) (by kernel_rfl) (by kernel_rfl) (by kernel_rfl) (fun _ _ _ h => h) (by kernel_rfl) (fun _ h => exec_vec rfl hm (by kernel_rfl) h.2.1) hH0 ?_
  refine held_call (i := 3) (o := { dst := some 8, op := Op.call { callee := Callee.value (Operand.func 88), args := #[Operand.tmp 6, Operand.tmp 7], argTypes := #[23, 23] }, type := 23, pos := "vec.go:42", after := #[{ on := 1, ground := Ground.data }, { on := 2, ground := Ground.data }], guard := none }) (F := 88) (vs := #[vecV l, vecV m]) (v := vecV (Vc.meet l m)) (by kernel_rfl) (by kernel_rfl) (by kernel_rfl) (fun _ => by kernel_rfl) (meet_vec l m hl hm) (fun _ hb => hH0.on hb) (fun w1 hH1 => ?_)
  clear hH0
  refine held_take (i := 4) (o := { dst := some 9, op := Op.binOp BinOp.eql 23 (Operand.tmp 5) (Operand.tmp 8) 23, type := 4, pos := "vec.go:42", after := #[{ on := 0, ground := Ground.data }, { on := 3, ground := Ground.data }], guard := none }) (v := .bool (Vc.within l m)) (by kernel_rfl) (by kernel_rfl) (by kernel_rfl) (by kernel_rfl) (fun _ _ _ h => h) (by kernel_rfl) (fun W _ => exec_bin rfl (by kernel_rfl) (by kernel_rfl) (fun _ => by kernel_rfl) (eqv hl hj (Vc.within_meet l m)) W) hH1 ?_
  refine held_do (i := 5) (o := { dst := some 4, op := Op.assign (Operand.tmp 9), type := 4, pos := "vec.go:42", after := #[{ on := 4, ground := Ground.data }, { on := 3, ground := Ground.chain }, { on := 0, ground := Ground.phase }, { on := 1, ground := Ground.phase }, { on := 2, ground := Ground.phase }, { on := 3, ground := Ground.phase }, { on := 4, ground := Ground.phase }], guard := none }) (v := .bool (Vc.within l m)) (by kernel_rfl) (by kernel_rfl) (by kernel_rfl) (by kernel_rfl) hH1 ?_
  refine wpAnyH_done (by kernel_rfl) ?_ _
  simp only [Act.put, List.setIfInBounds_toArray, List.set_cons_zero, List.set_cons_succ]
  go_wp2
  go_ret
  exact ⟨rfl, hH1.2.2⟩
end Go.Proofs.Ytenfbjlmfdiniaa
