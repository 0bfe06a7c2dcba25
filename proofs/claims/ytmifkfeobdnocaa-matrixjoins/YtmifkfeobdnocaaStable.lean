/- The walks of 'Stable' and 'Behind'. -/
import Derived.Test.YtmifkfeobdnocaaJoins
import Derived.Test.YtmifkfeobdnocaaCount
namespace Go.Proofs.Ytmifkfeobdnocaa
open Go.RowKit
set_option linter.unusedVariables false

/-- What stands through a region: a matrix and a dot; a matrix and a vector. -/
abbrev MatDot (T : TypeId) (w : World) (b : Nat) (m : List Int) (d : Nat) (r n : Int) (w' : World) : Prop := MatAt T w' b m ∧ Dots w d r n w'
theorem MatDot.on {T : TypeId} {w W w1 : World} {b d : Nat} {m : List Int} {r n : Int} (h : MatDot T w b m d r n W) (hb : Below W.heap.size W w1) : MatDot T w b m d r n w1 := ⟨h.1.on hb, h.2.on hb⟩
abbrev MatVec (T : TypeId) (w : World) (b : Nat) (m : List Int) (c : Nat) (l : List Int) (w' : World) : Prop := MatAt T w' b m ∧ VecAt w' c l ∧ Below w.heap.size w w'
theorem MatVec.on {T : TypeId} {w W w1 : World} {b c : Nat} {m l : List Int} (h : MatVec T w b m c l W) (hb : Below W.heap.size W w1) : MatVec T w b m c l w1 := ⟨h.1.on hb, h.2.1.on hb, bchain h.2.2 hb⟩
theorem MatVec.drew {T : TypeId} {w W : World} {b c : Nat} {m l : List Int} (h : MatVec T w b m c l W) : MatVec T w b m c l W.drew := ⟨h.1.drew, h.2.1.drew, h.2.2.drew⟩
theorem newMatDot (T : TypeId) (w : World) (m : List Int) (r n : Int) : MatDot T w w.heap.size m (w.heap.size + 1) r n ((w.alloc (.cells (ints m).toArray T)).alloc (.cells #[.int .i64 r, .int .i64 n] 26)) := by
  refine ⟨(MatAt.new T w m).alloc _, ?_, ?_, below_new2 _ _ _⟩
  · simp
  · simp
theorem sub_small {a b : Int} (h1 : 0 ≤ a ∧ a ≤ 16777216) (h2 : 0 ≤ b ∧ b ≤ 16777216) (w : World) : (binOp .sub 3 (.int .i64 a) (.int .i64 b)).run Try.prog w = .ok (.int .i64 (a - b)) w := by
  have e : IntKind.i64.wrap (a - b) = a - b := wrap_i64 (by omega) (by omega)
  go_simp

set_option maxRecDepth 20000 in
theorem stable_any (m : List Int) (hm : m.length = 256) (n r d : Int) (w : World) : Calls Try.prog 12 #[vecV m, .int .i64 n, dotV r d] w fun e w' => e = .returned (.bool (Vc.has (Mx.frontier m n) r d)) ∧ Below w.heap.size w w' := by
  have hf := Mx.frontier_length (n := n) hm
  have h := newMatDot 27 w m r d
  have hS : MatDot 27 w w.heap.size m (w.heap.size + 1) r d ((w.alloc (.cells (ints m).toArray 27)).alloc (.cells #[.int .i64 r, .int .i64 d] 26)).drew := ⟨h.1.drew, h.2.1, h.2.2.1, h.2.2.2.drew⟩
  clear h
  go_enter Try.func12, Try.ntmps12
  go_wp2_with fail
  refine wp_region_held_drew (S := MatDot 27 w w.heap.size m (w.heap.size + 1) r d) (by kernel_rfl) (hS) (fun hH0 => ?_)
  refine held_take (i := 0) (o := { dst := some 7, op := Op.load 27 (Operand.tmp 3), type := 27, pos := "matrix.go:57", after := #[], guard := none }) (v := vecV m) (by kernel_rfl) (by kernel_rfl) (by kernel_rfl) (by kernel_rfl) (fun _ _ _ h => h) (by kernel_rfl) (fun _ h => exec_mat m27 rfl hm (by kernel_rfl) h.1) hH0 ?_
  refine held_take (i := 1) (o := { dst := some 8, op := Op.move (Operand.tmp 1), type := 3, pos := "matrix.go:57", after := #[], guard := none }) (v := .int .i64 n) (by kernel_rfl) (by kernel_rfl) (by kernel_rfl) (by kernel_rfl) (fun _ _ _ h => h) (by kernel_rfl) (fun _ _ => by kernel_rfl) hH0 ?_
  refine held_take (i := 3) (o := { dst := some 10, op := Op.load 26 (Operand.tmp 5), type := 26, pos := "matrix.go:57", after := #[], guard := none }) (v := dotV r d) (by kernel_rfl) (by kernel_rfl) (by kernel_rfl) (by kernel_rfl) (fun _ _ _ h => h) (by kernel_rfl) (fun _ h => exec_dot rfl (by kernel_rfl) h.2.1 h.2.2.1) hH0 ?_
  refine held_call (i := 2) (o := { dst := some 9, op := Op.call { callee := Callee.value (Operand.func 10), args := #[Operand.tmp 7, Operand.tmp 8], argTypes := #[27, 3] }, type := 23, pos := "matrix.go:57", after := #[{ on := 0, ground := Ground.data }, { on := 1, ground := Ground.data }], guard := none }) (F := 10) (vs := #[vecV m, .int .i64 n]) (v := vecV (Mx.frontier m n)) (by kernel_rfl) (by kernel_rfl) (by kernel_rfl) (fun _ => by kernel_rfl) (frontier_any m hm n) (fun _ hb => hH0.on hb) (fun w1 hH1 => ?_)
  clear hH0
  refine held_call (i := 4) (o := { dst := some 11, op := Op.call { callee := Callee.value (Operand.func 25), args := #[Operand.tmp 9, Operand.tmp 10], argTypes := #[23, 26] }, type := 4, pos := "matrix.go:57", after := #[{ on := 2, ground := Ground.data }, { on := 3, ground := Ground.data }, { on := 2, ground := Ground.chain }], guard := none }) (F := 25) (vs := #[vecV (Mx.frontier m n), dotV r d]) (v := .bool (Vc.has (Mx.frontier m n) r d)) (by kernel_rfl) (by kernel_rfl) (by kernel_rfl) (fun _ => by kernel_rfl) (has_vec (Mx.frontier m n) hf r d) (fun _ hb => hH1.on hb) (fun w2 hH2 => ?_)
  clear hH1
  refine held_do (i := 5) (o := { dst := some 6, op := Op.assign (Operand.tmp 11), type := 4, pos := "matrix.go:57", after := #[{ on := 4, ground := Ground.data }, { on := 4, ground := Ground.chain }, { on := 0, ground := Ground.phase }, { on := 1, ground := Ground.phase }, { on := 2, ground := Ground.phase }, { on := 3, ground := Ground.phase }, { on := 4, ground := Ground.phase }], guard := none }) (v := .bool (Vc.has (Mx.frontier m n) r d)) (by kernel_rfl) (by kernel_rfl) (by kernel_rfl) (by kernel_rfl) hH2 ?_
  refine wpAnyH_done (by kernel_rfl) ?_ _
  simp only [Act.put, List.setIfInBounds_toArray, List.set_cons_zero, List.set_cons_succ]
  go_wp2
  go_ret
  exact ⟨rfl, hH2.2.2.2⟩

set_option maxRecDepth 20000 in
set_option maxHeartbeats 2000000 in
theorem behind_core (m : List Int) (hm : m.length = 256) (hr : Mx.rights m 16 = true) (n : Int) (i : Nat) (hi : i < 16) (A : List Int) (hl : A.length = 16) (ha : Vc.right A = true)
    (HC : ∀ w, Calls Try.prog 23 #[vecV m, .int .i64 n, .func (.func 22) #[] #[]] w fun e w' => e = .returned (vecV A) ∧ Below w.heap.size w w') (w : World) :
    Calls Try.prog 15 #[vecV m, .int .i64 n, .int .i64 (i : Int)] w fun e w' => e = .returned (.int .i64 (Vc.count A 16 - Vc.count (Vc.meet A (Mx.row m i)) 16)) ∧ Below w.heap.size w w' := by
  have hrow := Mx.row_length hm hi
  have hb := Mx.meet_right ha (Mx.rights_row 16 hr i hi) (hl.trans hrow.symm)
  have hml : (Vc.meet A (Mx.row m i)).length = 16 := by rw [Vc.meet_length, hl]
  have c1 := Vc.count_bound ha 16 (by omega)
  have c2 := Vc.count_bound hb 16 (by omega)
  have H1 := count_vec _ hl ha
  have H2 := meet_vec _ _ hl hrow
  have H3 := count_vec _ hml hb
  clear ha hb hr
  generalize Vc.count (Vc.meet A (Mx.row m i)) 16 = y at *
  generalize Vc.count A 16 = x at *
  have hi' : (0 ≤ (i : Int) ∧ (i : Int) < 16) := by omega
  have h0 := MatAt.new 27 w m
  have hB := below_new w (.cells (ints m).toArray 27)
  go_enter Try.func15, Try.ntmps15
  go_wp2_with (first | (go_at_call 21; refine (isRow_in _ hi' _).mono ?_; rintro e w1 ⟨rfl, rfl⟩) | (refine load_mat m27 rfl _ rfl w.heap.size m hm rfl h0 ?_) | (go_at_call 23; refine (HC _).mono ?_; rintro e w1 ⟨rfl, hb⟩) | (refine store_vec rfl _ _ rfl w1.heap.size A noughts hl noughts_length rfl rfl (VecAt.new w1 noughts) ?_))
  have hne : w.heap.size < w1.heap.size := (h0.on hb).lt
  have hS : MatVec 27 w w.heap.size m w1.heap.size A ((w1.alloc (.cells (ints noughts).toArray 23)).setRow w1.heap.size (ints A).toArray) :=
    ⟨((h0.on hb).alloc _).other_row (by omega) _, (VecAt.new w1 noughts).row A, below_setRow (bchain (bchain hB hb) (below_new _ _)) (by omega) _⟩
  refine wp_region_held_drew (S := MatVec 27 w w.heap.size m w1.heap.size A) (by kernel_rfl) (hS.drew) (fun hH0 => ?_)
  refine held_take (i := 0) (o := { dst := some 14, op := Op.load 23 (Operand.tmp 7), type := 23, pos := "matrix.go:66", after := #[], guard := none }) (v := vecV A) (by kernel_rfl) (by kernel_rfl) (by kernel_rfl) (by kernel_rfl) (fun _ _ _ h => h) (by kernel_rfl) (fun _ h => exec_vec rfl hl (by kernel_rfl) h.2.1) hH0 ?_
  refine held_take (i := 2) (o := { dst := some 16, op := Op.load 23 (Operand.tmp 7), type := 23, pos := "matrix.go:66", after := #[], guard := none }) (v := vecV A) (by kernel_rfl) (by kernel_rfl) (by kernel_rfl) (by kernel_rfl) (fun _ _ _ h => h) (by kernel_rfl) (fun _ h => exec_vec rfl hl (by kernel_rfl) h.2.1) hH0 ?_
  refine held_take (i := 3) (o := { dst := some 17, op := Op.move (Operand.tmp 2), type := 3, pos := "matrix.go:66", after := #[], guard := none }) (v := .int .i64 (i : Int)) (by kernel_rfl) (by kernel_rfl) (by kernel_rfl) (by kernel_rfl) (fun _ _ _ h => h) (by kernel_rfl) (fun _ _ => by kernel_rfl) hH0 ?_
  refine held_take (i := 4) (o := { dst := some 18, op := Op.indexAddr 27 (Operand.tmp 3) (Operand.tmp 17), type := 0, pos := "matrix.go:66", after := #[{ on := 3, ground := Ground.data }], guard := none }) (v := .pointer (some ⟨w.heap.size, i * 16, none⟩)) (by kernel_rfl) (by kernel_rfl) (by kernel_rfl) (by kernel_rfl) (fun _ _ _ h => h) (by kernel_rfl) (fun W _ => exec_rowAt m27 rfl (by kernel_rfl) (by kernel_rfl) hi W) hH0 ?_
  refine held_take (i := 5) (o := { dst := some 19, op := Op.load 23 (Operand.tmp 18), type := 23, pos := "matrix.go:66", after := #[{ on := 4, ground := Ground.data }], guard := none }) (v := vecV (Mx.row m i)) (by kernel_rfl) (by kernel_rfl) (by kernel_rfl) (by kernel_rfl) (fun _ _ _ h => h) (by kernel_rfl) (fun _ h => exec_row rfl hm hi (by kernel_rfl) h.1) hH0 ?_
  refine held_call (i := 1) (o := { dst := some 15, op := Op.call { callee := Callee.value (Operand.func 28), args := #[Operand.tmp 14], argTypes := #[23] }, type := 3, pos := "matrix.go:66", after := #[{ on := 0, ground := Ground.data }], guard := none }) (F := 28) (vs := #[vecV A]) (v := .int .i64 x) (by kernel_rfl) (by kernel_rfl) (by kernel_rfl) (fun _ => by kernel_rfl) (H1) (fun _ hb => hH0.on hb) (fun v1 hH1 => ?_)
  clear hH0
  refine held_call (i := 6) (o := { dst := some 20, op := Op.call { callee := Callee.value (Operand.func 24), args := #[Operand.tmp 16, Operand.tmp 19], argTypes := #[23, 23] }, type := 23, pos := "matrix.go:66", after := #[{ on := 2, ground := Ground.data }, { on := 5, ground := Ground.data }, { on := 1, ground := Ground.chain }], guard := none }) (F := 24) (vs := #[vecV A, vecV (Mx.row m i)]) (v := vecV (Vc.meet A (Mx.row m i))) (by kernel_rfl) (by kernel_rfl) (by kernel_rfl) (fun _ => by kernel_rfl) (H2) (fun _ hb => hH1.on hb) (fun v2 hH2 => ?_)
  clear hH1
  refine held_call (i := 7) (o := { dst := some 21, op := Op.call { callee := Callee.value (Operand.func 28), args := #[Operand.tmp 20], argTypes := #[23] }, type := 3, pos := "matrix.go:66", after := #[{ on := 6, ground := Ground.data }, { on := 6, ground := Ground.chain }], guard := none }) (F := 28) (vs := #[vecV (Vc.meet A (Mx.row m i))]) (v := .int .i64 y) (by kernel_rfl) (by kernel_rfl) (by kernel_rfl) (fun _ => by kernel_rfl) (H3) (fun _ hb => hH2.on hb) (fun v3 hH3 => ?_)
  clear hH2
  refine held_take (i := 8) (o := { dst := some 22, op := Op.binOp BinOp.sub 3 (Operand.tmp 15) (Operand.tmp 21) 3, type := 3, pos := "matrix.go:66", after := #[{ on := 1, ground := Ground.data }, { on := 7, ground := Ground.data }], guard := none }) (v := .int .i64 (x - y)) (by kernel_rfl) (by kernel_rfl) (by kernel_rfl) (by kernel_rfl) (fun _ _ _ h => h) (by kernel_rfl) (fun W _ => exec_bin rfl (by kernel_rfl) (by kernel_rfl) (fun _ => by kernel_rfl) (sub_small (by omega) (by omega)) W) hH3 ?_
  refine held_do (i := 9) (o := { dst := some 6, op := Op.assign (Operand.tmp 22), type := 3, pos := "matrix.go:66", after := #[{ on := 8, ground := Ground.data }, { on := 7, ground := Ground.chain }, { on := 0, ground := Ground.phase }, { on := 1, ground := Ground.phase }, { on := 2, ground := Ground.phase }, { on := 3, ground := Ground.phase }, { on := 4, ground := Ground.phase }, { on := 5, ground := Ground.phase }, { on := 6, ground := Ground.phase }, { on := 7, ground := Ground.phase }, { on := 8, ground := Ground.phase }], guard := none }) (v := .int .i64 (x - y)) (by kernel_rfl) (by kernel_rfl) (by kernel_rfl) (by kernel_rfl) hH3 ?_
  refine wpAnyH_done (by kernel_rfl) ?_ _
  simp only [Act.put, List.setIfInBounds_toArray, List.set_cons_zero, List.set_cons_succ]
  go_wp2
  go_ret
  exact ⟨rfl, hH3.2.2⟩

set_option maxRecDepth 20000 in
theorem behind_none (m : List Int) (n i : Int) (hi : ¬ (0 ≤ i ∧ i < 16)) (w : World) : Calls Try.prog 15 #[vecV m, .int .i64 n, .int .i64 i] w fun e w' => e = .returned (.int .i64 0) ∧ Below w.heap.size w w' := by
  have hB := below_new w (.cells (ints m).toArray 27)
  go_enter Try.func15, Try.ntmps15
  go_wp2_with (go_at_call 21; refine (isRow_out _ hi _).mono ?_; rintro e w1 ⟨rfl, rfl⟩)
  go_ret
  exact ⟨rfl, hB⟩
theorem count_noughts : ∀ k, Vc.count noughts k = 0
  | 0 => rfl
  | k + 1 => by rw [Vc.count, count_noughts k, Mx.noughts_at]; rfl
theorem meet_noughts {l : List Int} (hl : l.length = 16) (h : Vc.right l = true) : Vc.meet noughts l = noughts := by
  refine Vc.same_of (Vc.meet_length _ _) fun k hk => ?_
  rw [Vc.meet_length] at hk
  rw [Vc.meet_at _ _ k hk, Mx.noughts_at]
  have := Vc.right_iff.1 h k (by rw [hl, ← noughts_length]; exact hk)
  omega
theorem right_noughts : Vc.right noughts = true := by
  rw [Vc.right_iff]
  intro k _
  rw [Mx.noughts_at]
  omega
theorem behind_any (m : List Int) (hm : m.length = 256) (hr : Mx.rights m 16 = true) (n i : Int) (w : World) : Calls Try.prog 15 #[vecV m, .int .i64 n, .int .i64 i] w fun e w' => e = .returned (.int .i64 (Mx.behind m n i)) ∧ Below w.heap.size w w' := by
  by_cases hi : 0 ≤ i ∧ i < 16
  · obtain ⟨k, rfl⟩ : ∃ k : Nat, i = (k : Int) := ⟨i.toNat, by omega⟩
    by_cases h : 1 ≤ n ∧ n ≤ 16
    · obtain ⟨p, rfl⟩ : ∃ p : Nat, n = (p : Int) + 1 := ⟨n.toNat - 1, by omega⟩
      have := behind_core m hm hr ((p : Int) + 1) k (by omega) _ (Mx.folds_length hm p (by omega)) (Mx.folds_right hm hr (by omega)) (fold_join m hm p (by omega)) w
      rw [Mx.behinds_count hm hr (by omega) (by omega) 16 (by omega), ← Mx.behind_in (by omega) (by omega) (by omega)] at this
      exact this
    · have := behind_core m hm hr n k (by omega) noughts noughts_length right_noughts (fold_out m hm n h _) w
      rw [meet_noughts (Mx.row_length hm (by omega)) (Mx.rights_row 16 hr k (by omega)), Int.sub_self] at this
      rw [Mx.behind_out (by omega)]
      exact this
  · rw [Mx.behind_out (by omega)]
    exact behind_none m n i hi w
end Go.Proofs.Ytmifkfeobdnocaa
