/- The walks of 'Has', the program's and the document's. -/
import Derived.Test.YtmifkfeobdnocaaVec
namespace Go.Proofs.Ytmifkfeobdnocaa
open Go.RowKit

/-- What a cell holds, it holds behind a call that leaves all that was there. -/
theorem keep_cell {W w1 : World} {a : Addr} {v : Value} (hb : Below W.heap.size W w1) (h : W.cell? a = some v) : w1.cell? a = some v := (hb.cell (World.block_lt_of_cell? W a h)).trans h
/-- A dot's two cells, and one of a vector. -/
abbrev Dots (w : World) (d : Nat) (r n : Int) (w' : World) : Prop := w'.cell? ⟨d, 0, none⟩ = some (.int .i64 r) ∧ w'.cell? ⟨d, 1, none⟩ = some (.int .i64 n) ∧ Below w.heap.size w w'
theorem Dots.on {w W w1 : World} {d : Nat} {r n : Int} (h : Dots w d r n W) (hb : Below W.heap.size W w1) : Dots w d r n w1 := ⟨keep_cell hb h.1, keep_cell hb h.2.1, bchain h.2.2 hb⟩
abbrev DotIn (w : World) (d : Nat) (r n : Int) (b k : Nat) (x : Int) (w' : World) : Prop := w'.cell? ⟨b, k, none⟩ = some (.int .i64 x) ∧ Dots w d r n w'
theorem DotIn.on {w W w1 : World} {d : Nat} {r n : Int} {b k : Nat} {x : Int} (h : DotIn w d r n b k x W) (hb : Below W.heap.size W w1) : DotIn w d r n b k x w1 := ⟨keep_cell hb h.1, h.2.on hb⟩
theorem newDot (w : World) (l : List Int) (r n : Int) : VecAt ((w.alloc (.cells (ints l).toArray 23)).alloc (.cells #[.int .i64 r, .int .i64 n] 26)) w.heap.size l
    ∧ Dots w (w.heap.size + 1) r n ((w.alloc (.cells (ints l).toArray 23)).alloc (.cells #[.int .i64 r, .int .i64 n] 26)) := by
  refine ⟨(VecAt.new w l).alloc _, ?_, ?_, below_new2 _ _ _⟩
  all_goals
    have e : (w.alloc (.cells (ints l).toArray 23)).heap.size = w.heap.size + 1 := by simp
    rw [← e]
    generalize w.alloc (.cells (ints l).toArray 23) = V
    simp
theorem leqb (a b : Int) (w : World) : (binOp .leq 3 (.int .i64 a) (.int .i64 b)).run Try.prog w = .ok (.bool (decide (a ≤ b))) w := by go_simp
theorem geqb (a b : Int) (w : World) : (binOp .geq 3 (.int .i64 a) (.int .i64 b)).run Try.prog w = .ok (.bool (decide (b ≤ a))) w := by go_simp
theorem indexAt_vec (b k : Nat) (hk : k < 16) (w : World) : (Instr.indexAt 23 (.pointer (some ⟨b, 0, none⟩)) (.int .i64 (k : Int))).run Try.prog w = .ok (.pointer (some ⟨b, k, none⟩)) w := by
  have hk0 : (0 : Int) ≤ (k : Int) := by omega
  have hk1 : (k : Int) < 16 := by omega
  go_simp
theorem exec_at {o : Oper} {a : Act} {x y : Operand} {b k : Nat} (ho : o.op = .indexAddr 23 x y) (hx : a.eval x = .pointer (some ⟨b, 0, none⟩)) (hy : a.eval y = .int .i64 (k : Int)) (hk : k < 16) (w : World) :
    (execOp a.eval o).run Try.prog w = .ok (.value (.pointer (some ⟨b, k, none⟩))) w := by
  unfold execOp
  simp only [ho, hx, hy, Sem.run_bind, indexAt_vec b k hk, Result.andThen_ok, Sem.run_pure]

set_option maxRecDepth 20000 in
theorem has_vec (l : List Int) (hl : l.length = 16) (r n : Int) (w : World) : Calls Try.prog 25 #[vecV l, dotV r n] w fun e w' => e = .returned (.bool (Vc.has l r n)) ∧ Below w.heap.size w w' := by
  obtain ⟨h0, hD⟩ := newDot w l r n
  by_cases hr : Dt.right r n = true
  · have hr' := Dt.right_iff.1 hr
    obtain ⟨k, rfl⟩ : ∃ k : Nat, r = (k : Int) := ⟨r.toNat, by omega⟩
    have hk : k < 16 := by omega
    have hc := h0.cell (k := k) (by omega)
    have hV : Vc.has l k n = decide (n ≤ l.getD k 0) := by unfold Vc.has; rw [hr]; simp
    rw [hV]
    generalize l.getD k 0 = x at *
    have HC : ∀ w, Calls Try.prog 32 #[dotV k n] w fun e w' => e = .returned (.bool true) ∧ Below w.heap.size w w' := fun w => by have := right_any k n w; rw [hr] at this; exact this
    have hS : DotIn w (w.heap.size + 1) k n w.heap.size k x ((w.alloc (.cells (ints l).toArray 23)).alloc (.cells #[.int .i64 (k : Int), .int .i64 n] 26)).drew := ⟨hc, hD.1, hD.2.1, hD.2.2.drew⟩
    clear hc hD h0 hr hV hr'
    go_enter Try.func25, Try.ntmps25
    go_wp2_with fail
    refine wp_region_held_drew (S := DotIn w (w.heap.size + 1) k n w.heap.size k x) (by kernel_rfl) (hS) (fun hH0 => ?_)
    refine held_take (i := 0) (o := { dst := some 5, op := Op.load 26 (Operand.tmp 3), type := 26, pos := "vec.go:28", after := #[], guard := none }) (v := dotV k n) (by kernel_rfl) (by kernel_rfl) (by kernel_rfl) (by kernel_rfl) (fun _ _ _ h => h) (by kernel_rfl) (fun _ h => exec_dot rfl (by kernel_rfl) (h.2.1) (h.2.2.1)) hH0 ?_
    refine held_call (i := 1) (o := { dst := some 6, op := Op.call { callee := Callee.value (Operand.func 32), args := #[Operand.tmp 5], argTypes := #[26] }, type := 4, pos := "vec.go:28", after := #[{ on := 0, ground := Ground.data }], guard := none }) (F := 32) (vs := #[dotV k n]) (v := .bool true) (by kernel_rfl) (by kernel_rfl) (by kernel_rfl) (fun _ => by kernel_rfl) (HC) (fun _ hb => hH0.on hb) (fun w1 hH1 => ?_)
    clear hH0
    refine held_take (i := 2) (o := { dst := some 7, op := Op.move (Operand.tmp 6), type := 4, pos := "vec.go:28", after := #[{ on := 1, ground := Ground.data }, { on := 1, ground := Ground.chain }], guard := none }) (v := .bool true) (by kernel_rfl) (by kernel_rfl) (by kernel_rfl) (by kernel_rfl) (fun _ _ _ h => h) (by kernel_rfl) (fun _ _ => by kernel_rfl) hH1 ?_
    refine held_take (i := 3) (o := { dst := some 8, op := Op.fieldAddr 26 (Operand.tmp 3) 1, type := 0, pos := "vec.go:28", after := #[{ on := 2, ground := Ground.guard }], guard := some (2, true) }) (v := .pointer (some ⟨w.heap.size + 1, 1, none⟩)) (by kernel_rfl) (by kernel_rfl) (by kernel_rfl) (by kernel_rfl) (fun _ _ _ h => h) (by kernel_rfl) (fun _ _ => by kernel_rfl) hH1 ?_
    refine held_take (i := 4) (o := { dst := some 9, op := Op.load 3 (Operand.tmp 8), type := 3, pos := "vec.go:28", after := #[{ on := 3, ground := Ground.data }, { on := 2, ground := Ground.guard }], guard := some (2, true) }) (v := .int .i64 n) (by kernel_rfl) (by kernel_rfl) (by kernel_rfl) (by kernel_rfl) (fun _ _ _ h => h) (by kernel_rfl) (fun _ h => exec_int rfl (by kernel_rfl) (h.2.2.1)) hH1 ?_
    refine held_take (i := 5) (o := { dst := some 10, op := Op.fieldAddr 26 (Operand.tmp 3) 0, type := 0, pos := "vec.go:28", after := #[{ on := 2, ground := Ground.guard }], guard := some (2, true) }) (v := .pointer (some ⟨w.heap.size + 1, 0, none⟩)) (by kernel_rfl) (by kernel_rfl) (by kernel_rfl) (by kernel_rfl) (fun _ _ _ h => h) (by kernel_rfl) (fun _ _ => by kernel_rfl) hH1 ?_
    refine held_take (i := 6) (o := { dst := some 11, op := Op.load 3 (Operand.tmp 10), type := 3, pos := "vec.go:28", after := #[{ on := 5, ground := Ground.data }, { on := 2, ground := Ground.guard }], guard := some (2, true) }) (v := .int .i64 k) (by kernel_rfl) (by kernel_rfl) (by kernel_rfl) (by kernel_rfl) (fun _ _ _ h => h) (by kernel_rfl) (fun _ h => exec_int rfl (by kernel_rfl) (h.2.1)) hH1 ?_
    refine held_take (i := 7) (o := { dst := some 12, op := Op.indexAddr 23 (Operand.tmp 2) (Operand.tmp 11), type := 0, pos := "vec.go:28", after := #[{ on := 6, ground := Ground.data }, { on := 2, ground := Ground.guard }], guard := some (2, true) }) (v := .pointer (some ⟨w.heap.size, k, none⟩)) (by kernel_rfl) (by kernel_rfl) (by kernel_rfl) (by kernel_rfl) (fun _ _ _ h => h) (by kernel_rfl) (fun W _ => exec_at rfl (by kernel_rfl) (by kernel_rfl) hk W) hH1 ?_
    refine held_take (i := 8) (o := { dst := some 13, op := Op.load 3 (Operand.tmp 12), type := 3, pos := "vec.go:28", after := #[{ on := 7, ground := Ground.data }, { on := 2, ground := Ground.guard }], guard := some (2, true) }) (v := .int .i64 x) (by kernel_rfl) (by kernel_rfl) (by kernel_rfl) (by kernel_rfl) (fun _ _ _ h => h) (by kernel_rfl) (fun _ h => exec_int rfl (by kernel_rfl) (h.1)) hH1 ?_
    refine held_take (i := 9) (o := { dst := some 14, op := Op.binOp BinOp.leq 3 (Operand.tmp 9) (Operand.tmp 13) 3, type := 4, pos := "vec.go:28", after := #[{ on := 4, ground := Ground.data }, { on := 8, ground := Ground.data }, { on := 2, ground := Ground.guard }], guard := some (2, true) }) (v := .bool (decide (n ≤ x))) (by kernel_rfl) (by kernel_rfl) (by kernel_rfl) (by kernel_rfl) (fun _ _ _ h => h) (by kernel_rfl) (fun W _ => exec_bin rfl (by kernel_rfl) (by kernel_rfl) (fun _ => by kernel_rfl) (leqb n x) W) hH1 ?_
    refine held_take (i := 10) (o := { dst := some 15, op := Op.pick (Operand.tmp 7) (Operand.tmp 14) (Operand.const (Value.bool false)), type := 4, pos := "vec.go:28", after := #[{ on := 2, ground := Ground.data }, { on := 9, ground := Ground.data }], guard := none }) (v := .bool (decide (n ≤ x))) (by kernel_rfl) (by kernel_rfl) (by kernel_rfl) (by kernel_rfl) (fun _ _ _ h => h) (by kernel_rfl) (fun _ _ => by kernel_rfl) hH1 ?_
    refine held_do (i := 11) (o := { dst := some 4, op := Op.assign (Operand.tmp 15), type := 4, pos := "vec.go:28", after := #[{ on := 10, ground := Ground.data }, { on := 2, ground := Ground.chain }, { on := 0, ground := Ground.phase }, { on := 1, ground := Ground.phase }, { on := 2, ground := Ground.phase }, { on := 3, ground := Ground.phase }, { on := 4, ground := Ground.phase }, { on := 5, ground := Ground.phase }, { on := 6, ground := Ground.phase }, { on := 7, ground := Ground.phase }, { on := 8, ground := Ground.phase }, { on := 9, ground := Ground.phase }, { on := 10, ground := Ground.phase }], guard := none }) (v := .bool (decide (n ≤ x))) (by kernel_rfl) (by kernel_rfl) (by kernel_rfl) (by kernel_rfl) hH1 ?_
    refine wpAnyH_done (by kernel_rfl) ?_ _
    simp only [Act.put, List.setIfInBounds_toArray, List.set_cons_zero, List.set_cons_succ]
    go_wp2
    go_ret
    exact ⟨rfl, hH1.2.2.2⟩
  · have hr' : Dt.right r n = false := by simpa using hr
    rw [show Vc.has l r n = false by unfold Vc.has; rw [hr']; simp]
    have HC : ∀ w, Calls Try.prog 32 #[dotV r n] w fun e w' => e = .returned (.bool false) ∧ Below w.heap.size w w' := fun w => by have := right_any r n w; rw [hr'] at this; exact this
    have hS : Dots w (w.heap.size + 1) r n ((w.alloc (.cells (ints l).toArray 23)).alloc (.cells #[.int .i64 r, .int .i64 n] 26)).drew := ⟨hD.1, hD.2.1, hD.2.2.drew⟩
    clear hD h0 hr hr'
    go_enter Try.func25, Try.ntmps25
    go_wp2_with fail
    refine wp_region_held_drew (S := Dots w (w.heap.size + 1) r n) (by kernel_rfl) (hS) (fun hH0 => ?_)
    refine held_take (i := 0) (o := { dst := some 5, op := Op.load 26 (Operand.tmp 3), type := 26, pos := "vec.go:28", after := #[], guard := none }) (v := dotV r n) (by kernel_rfl) (by kernel_rfl) (by kernel_rfl) (by kernel_rfl) (fun _ _ _ h => h) (by kernel_rfl) (fun _ h => exec_dot rfl (by kernel_rfl) (h.1) (h.2.1)) hH0 ?_
    refine held_call (i := 1) (o := { dst := some 6, op := Op.call { callee := Callee.value (Operand.func 32), args := #[Operand.tmp 5], argTypes := #[26] }, type := 4, pos := "vec.go:28", after := #[{ on := 0, ground := Ground.data }], guard := none }) (F := 32) (vs := #[dotV r n]) (v := .bool false) (by kernel_rfl) (by kernel_rfl) (by kernel_rfl) (fun _ => by kernel_rfl) (HC) (fun _ hb => hH0.on hb) (fun w1 hH1 => ?_)
    clear hH0
    refine held_take (i := 2) (o := { dst := some 7, op := Op.move (Operand.tmp 6), type := 4, pos := "vec.go:28", after := #[{ on := 1, ground := Ground.data }, { on := 1, ground := Ground.chain }], guard := none }) (v := .bool false) (by kernel_rfl) (by kernel_rfl) (by kernel_rfl) (by kernel_rfl) (fun _ _ _ h => h) (by kernel_rfl) (fun _ _ => by kernel_rfl) hH1 ?_
    refine held_skip (i := 3) (o := { dst := some 8, op := Op.fieldAddr 26 (Operand.tmp 3) 1, type := 0, pos := "vec.go:28", after := #[{ on := 2, ground := Ground.guard }], guard := some (2, true) }) (by kernel_rfl) (by kernel_rfl) (by kernel_rfl) (by kernel_rfl) (fun _ _ _ h => h) (by kernel_rfl) hH1 ?_
    refine held_skip (i := 4) (o := { dst := some 9, op := Op.load 3 (Operand.tmp 8), type := 3, pos := "vec.go:28", after := #[{ on := 3, ground := Ground.data }, { on := 2, ground := Ground.guard }], guard := some (2, true) }) (by kernel_rfl) (by kernel_rfl) (by kernel_rfl) (by kernel_rfl) (fun _ _ _ h => h) (by kernel_rfl) hH1 ?_
    refine held_skip (i := 5) (o := { dst := some 10, op := Op.fieldAddr 26 (Operand.tmp 3) 0, type := 0, pos := "vec.go:28", after := #[{ on := 2, ground := Ground.guard }], guard := some (2, true) }) (by kernel_rfl) (by kernel_rfl) (by kernel_rfl) (by kernel_rfl) (fun _ _ _ h => h) (by kernel_rfl) hH1 ?_
    refine held_skip (i := 6) (o := { dst := some 11, op := Op.load 3 (Operand.tmp 10), type := 3, pos := "vec.go:28", after := #[{ on := 5, ground := Ground.data }, { on := 2, ground := Ground.guard }], guard := some (2, true) }) (by kernel_rfl) (by kernel_rfl) (by kernel_rfl) (by kernel_rfl) (fun _ _ _ h => h) (by kernel_rfl) hH1 ?_
    refine held_skip (i := 7) (o := { dst := some 12, op := Op.indexAddr 23 (Operand.tmp 2) (Operand.tmp 11), type := 0, pos := "vec.go:28", after := #[{ on := 6, ground := Ground.data }, { on := 2, ground := Ground.guard }], guard := some (2, true) }) (by kernel_rfl) (by kernel_rfl) (by kernel_rfl) (by kernel_rfl) (fun _ _ _ h => h) (by kernel_rfl) hH1 ?_
    refine held_skip (i := 8) (o := { dst := some 13, op := Op.load 3 (Operand.tmp 12), type := 3, pos := "vec.go:28", after := #[{ on := 7, ground := Ground.data }, { on := 2, ground := Ground.guard }], guard := some (2, true) }) (by kernel_rfl) (by kernel_rfl) (by kernel_rfl) (by kernel_rfl) (fun _ _ _ h => h) (by kernel_rfl) hH1 ?_
    refine held_skip (i := 9) (o := { dst := some 14, op := Op.binOp BinOp.leq 3 (Operand.tmp 9) (Operand.tmp 13) 3, type := 4, pos := "vec.go:28", after := #[{ on := 4, ground := Ground.data }, { on := 8, ground := Ground.data }, { on := 2, ground := Ground.guard }], guard := some (2, true) }) (by kernel_rfl) (by kernel_rfl) (by kernel_rfl) (by kernel_rfl) (fun _ _ _ h => h) (by kernel_rfl) hH1 ?_
    refine held_take (i := 10) (o := { dst := some 15, op := Op.pick (Operand.tmp 7) (Operand.tmp 14) (Operand.const (Value.bool false)), type := 4, pos := "vec.go:28", after := #[{ on := 2, ground := Ground.data }, { on := 9, ground := Ground.data }], guard := none }) (v := .bool false) (by kernel_rfl) (by kernel_rfl) (by kernel_rfl) (by kernel_rfl) (fun _ _ _ h => h) (by kernel_rfl) (fun _ _ => by kernel_rfl) hH1 ?_
    refine held_do (i := 11) (o := { dst := some 4, op := Op.assign (Operand.tmp 15), type := 4, pos := "vec.go:28", after := #[{ on := 10, ground := Ground.data }, { on := 2, ground := Ground.chain }, { on := 0, ground := Ground.phase }, { on := 1, ground := Ground.phase }, { on := 2, ground := Ground.phase }, { on := 3, ground := Ground.phase }, { on := 4, ground := Ground.phase }, { on := 5, ground := Ground.phase }, { on := 6, ground := Ground.phase }, { on := 7, ground := Ground.phase }, { on := 8, ground := Ground.phase }, { on := 9, ground := Ground.phase }, { on := 10, ground := Ground.phase }], guard := none }) (v := .bool false) (by kernel_rfl) (by kernel_rfl) (by kernel_rfl) (by kernel_rfl) hH1 ?_
    refine wpAnyH_done (by kernel_rfl) ?_ _
    simp only [Act.put, List.setIfInBounds_toArray, List.set_cons_zero, List.set_cons_succ]
    go_wp2
    go_ret
    exact ⟨rfl, hH1.2.2⟩

set_option maxRecDepth 20000 in
theorem refHas_vec (l : List Int) (hl : l.length = 16) (r n : Int) (w : World) : Calls Try.prog 13 #[vecV l, dotV r n] w fun e w' => e = .returned (.bool (Vc.has l r n)) ∧ Below w.heap.size w w' := by
  obtain ⟨h0, hD⟩ := newDot w l r n
  by_cases hr : Dt.right r n = true
  · have hr' := Dt.right_iff.1 hr
    obtain ⟨k, rfl⟩ : ∃ k : Nat, r = (k : Int) := ⟨r.toNat, by omega⟩
    have hk : k < 16 := by omega
    have hc := h0.cell (k := k) (by omega)
    have hV : Vc.has l k n = decide (n ≤ l.getD k 0) := by unfold Vc.has; rw [hr]; simp
    rw [hV]
    generalize l.getD k 0 = x at *
    have HC : ∀ w, Calls Try.prog 26 #[dotV k n] w fun e w' => e = .returned (.bool true) ∧ Below w.heap.size w w' := fun w => by have := refRight_any k n w; rw [hr] at this; exact this
    have hS : DotIn w (w.heap.size + 1) k n w.heap.size k x ((w.alloc (.cells (ints l).toArray 23)).alloc (.cells #[.int .i64 (k : Int), .int .i64 n] 26)).drew := ⟨hc, hD.1, hD.2.1, hD.2.2.drew⟩
    clear hc hD h0 hr hV hr'
    go_enter Try.func13, Try.ntmps13
    go_wp2_with fail
    refine wp_region_held_drew (S := DotIn w (w.heap.size + 1) k n w.heap.size k x) (by kernel_rfl) (hS) (fun hH0 => ?_)
    refine held_take (i := 0) (o := { dst := some 5, op := Op.load 26 (Operand.tmp 3), type := 26, pos := "ref.go:21", after := #[], guard := none }) (v := dotV k n) (by kernel_rfl) (by kernel_rfl) (by kernel_rfl) (by kernel_rfl) (fun _ _ _ h => h) (by kernel_rfl) (fun _ h => exec_dot rfl (by kernel_rfl) (h.2.1) (h.2.2.1)) hH0 ?_
    refine held_call (i := 1) (o := { dst := some 6, op := Op.call { callee := Callee.value (Operand.func 26), args := #[Operand.tmp 5], argTypes := #[26] }, type := 4, pos := "ref.go:21", after := #[{ on := 0, ground := Ground.data }], guard := none }) (F := 26) (vs := #[dotV k n]) (v := .bool true) (by kernel_rfl) (by kernel_rfl) (by kernel_rfl) (fun _ => by kernel_rfl) (HC) (fun _ hb => hH0.on hb) (fun w1 hH1 => ?_)
    clear hH0
    refine held_take (i := 2) (o := { dst := some 7, op := Op.move (Operand.tmp 6), type := 4, pos := "ref.go:21", after := #[{ on := 1, ground := Ground.data }, { on := 1, ground := Ground.chain }], guard := none }) (v := .bool true) (by kernel_rfl) (by kernel_rfl) (by kernel_rfl) (by kernel_rfl) (fun _ _ _ h => h) (by kernel_rfl) (fun _ _ => by kernel_rfl) hH1 ?_
    refine held_take (i := 3) (o := { dst := some 8, op := Op.fieldAddr 26 (Operand.tmp 3) 0, type := 0, pos := "ref.go:21", after := #[{ on := 2, ground := Ground.guard }], guard := some (2, true) }) (v := .pointer (some ⟨w.heap.size + 1, 0, none⟩)) (by kernel_rfl) (by kernel_rfl) (by kernel_rfl) (by kernel_rfl) (fun _ _ _ h => h) (by kernel_rfl) (fun _ _ => by kernel_rfl) hH1 ?_
    refine held_take (i := 4) (o := { dst := some 9, op := Op.load 3 (Operand.tmp 8), type := 3, pos := "ref.go:21", after := #[{ on := 3, ground := Ground.data }, { on := 2, ground := Ground.guard }], guard := some (2, true) }) (v := .int .i64 k) (by kernel_rfl) (by kernel_rfl) (by kernel_rfl) (by kernel_rfl) (fun _ _ _ h => h) (by kernel_rfl) (fun _ h => exec_int rfl (by kernel_rfl) (h.2.1)) hH1 ?_
    refine held_take (i := 5) (o := { dst := some 10, op := Op.indexAddr 23 (Operand.tmp 2) (Operand.tmp 9), type := 0, pos := "ref.go:21", after := #[{ on := 4, ground := Ground.data }, { on := 2, ground := Ground.guard }], guard := some (2, true) }) (v := .pointer (some ⟨w.heap.size, k, none⟩)) (by kernel_rfl) (by kernel_rfl) (by kernel_rfl) (by kernel_rfl) (fun _ _ _ h => h) (by kernel_rfl) (fun W _ => exec_at rfl (by kernel_rfl) (by kernel_rfl) hk W) hH1 ?_
    refine held_take (i := 6) (o := { dst := some 11, op := Op.load 3 (Operand.tmp 10), type := 3, pos := "ref.go:21", after := #[{ on := 5, ground := Ground.data }, { on := 2, ground := Ground.guard }], guard := some (2, true) }) (v := .int .i64 x) (by kernel_rfl) (by kernel_rfl) (by kernel_rfl) (by kernel_rfl) (fun _ _ _ h => h) (by kernel_rfl) (fun _ h => exec_int rfl (by kernel_rfl) (h.1)) hH1 ?_
    refine held_take (i := 7) (o := { dst := some 12, op := Op.fieldAddr 26 (Operand.tmp 3) 1, type := 0, pos := "ref.go:21", after := #[{ on := 2, ground := Ground.guard }], guard := some (2, true) }) (v := .pointer (some ⟨w.heap.size + 1, 1, none⟩)) (by kernel_rfl) (by kernel_rfl) (by kernel_rfl) (by kernel_rfl) (fun _ _ _ h => h) (by kernel_rfl) (fun _ _ => by kernel_rfl) hH1 ?_
    refine held_take (i := 8) (o := { dst := some 13, op := Op.load 3 (Operand.tmp 12), type := 3, pos := "ref.go:21", after := #[{ on := 7, ground := Ground.data }, { on := 2, ground := Ground.guard }], guard := some (2, true) }) (v := .int .i64 n) (by kernel_rfl) (by kernel_rfl) (by kernel_rfl) (by kernel_rfl) (fun _ _ _ h => h) (by kernel_rfl) (fun _ h => exec_int rfl (by kernel_rfl) (h.2.2.1)) hH1 ?_
    refine held_take (i := 9) (o := { dst := some 14, op := Op.binOp BinOp.geq 3 (Operand.tmp 11) (Operand.tmp 13) 3, type := 4, pos := "ref.go:21", after := #[{ on := 6, ground := Ground.data }, { on := 8, ground := Ground.data }, { on := 2, ground := Ground.guard }], guard := some (2, true) }) (v := .bool (decide (n ≤ x))) (by kernel_rfl) (by kernel_rfl) (by kernel_rfl) (by kernel_rfl) (fun _ _ _ h => h) (by kernel_rfl) (fun W _ => exec_bin rfl (by kernel_rfl) (by kernel_rfl) (fun _ => by kernel_rfl) (geqb x n) W) hH1 ?_
    refine held_take (i := 10) (o := { dst := some 15, op := Op.pick (Operand.tmp 7) (Operand.tmp 14) (Operand.const (Value.bool false)), type := 4, pos := "ref.go:21", after := #[{ on := 2, ground := Ground.data }, { on := 9, ground := Ground.data }], guard := none }) (v := .bool (decide (n ≤ x))) (by kernel_rfl) (by kernel_rfl) (by kernel_rfl) (by kernel_rfl) (fun _ _ _ h => h) (by kernel_rfl) (fun _ _ => by kernel_rfl) hH1 ?_
    refine held_do (i := 11) (o := { dst := some 4, op := Op.assign (Operand.tmp 15), type := 4, pos := "ref.go:21", after := #[{ on := 10, ground := Ground.data }, { on := 2, ground := Ground.chain }, { on := 0, ground := Ground.phase }, { on := 1, ground := Ground.phase }, { on := 2, ground := Ground.phase }, { on := 3, ground := Ground.phase }, { on := 4, ground := Ground.phase }, { on := 5, ground := Ground.phase }, { on := 6, ground := Ground.phase }, { on := 7, ground := Ground.phase }, { on := 8, ground := Ground.phase }, { on := 9, ground := Ground.phase }, { on := 10, ground := Ground.phase }], guard := none }) (v := .bool (decide (n ≤ x))) (by kernel_rfl) (by kernel_rfl) (by kernel_rfl) (by kernel_rfl) hH1 ?_
    refine wpAnyH_done (by kernel_rfl) ?_ _
    simp only [Act.put, List.setIfInBounds_toArray, List.set_cons_zero, List.set_cons_succ]
    go_wp2
    go_ret
    exact ⟨rfl, hH1.2.2.2⟩
  · have hr' : Dt.right r n = false := by simpa using hr
    rw [show Vc.has l r n = false by unfold Vc.has; rw [hr']; simp]
    have HC : ∀ w, Calls Try.prog 26 #[dotV r n] w fun e w' => e = .returned (.bool false) ∧ Below w.heap.size w w' := fun w => by have := refRight_any r n w; rw [hr'] at this; exact this
    have hS : Dots w (w.heap.size + 1) r n ((w.alloc (.cells (ints l).toArray 23)).alloc (.cells #[.int .i64 r, .int .i64 n] 26)).drew := ⟨hD.1, hD.2.1, hD.2.2.drew⟩
    clear hD h0 hr hr'
    go_enter Try.func13, Try.ntmps13
    go_wp2_with fail
    refine wp_region_held_drew (S := Dots w (w.heap.size + 1) r n) (by kernel_rfl) (hS) (fun hH0 => ?_)
    refine held_take (i := 0) (o := { dst := some 5, op := Op.load 26 (Operand.tmp 3), type := 26, pos := "ref.go:21", after := #[], guard := none }) (v := dotV r n) (by kernel_rfl) (by kernel_rfl) (by kernel_rfl) (by kernel_rfl) (fun _ _ _ h => h) (by kernel_rfl) (fun _ h => exec_dot rfl (by kernel_rfl) (h.1) (h.2.1)) hH0 ?_
    refine held_call (i := 1) (o := { dst := some 6, op := Op.call { callee := Callee.value (Operand.func 26), args := #[Operand.tmp 5], argTypes := #[26] }, type := 4, pos := "ref.go:21", after := #[{ on := 0, ground := Ground.data }], guard := none }) (F := 26) (vs := #[dotV r n]) (v := .bool false) (by kernel_rfl) (by kernel_rfl) (by kernel_rfl) (fun _ => by kernel_rfl) (HC) (fun _ hb => hH0.on hb) (fun w1 hH1 => ?_)
    clear hH0
    refine held_take (i := 2) (o := { dst := some 7, op := Op.move (Operand.tmp 6), type := 4, pos := "ref.go:21", after := #[{ on := 1, ground := Ground.data }, { on := 1, ground := Ground.chain }], guard := none }) (v := .bool false) (by kernel_rfl) (by kernel_rfl) (by kernel_rfl) (by kernel_rfl) (fun _ _ _ h => h) (by kernel_rfl) (fun _ _ => by kernel_rfl) hH1 ?_
    refine held_skip (i := 3) (o := { dst := some 8, op := Op.fieldAddr 26 (Operand.tmp 3) 0, type := 0, pos := "ref.go:21", after := #[{ on := 2, ground := Ground.guard }], guard := some (2, true) }) (by kernel_rfl) (by kernel_rfl) (by kernel_rfl) (by kernel_rfl) (fun _ _ _ h => h) (by kernel_rfl) hH1 ?_
    refine held_skip (i := 4) (o := { dst := some 9, op := Op.load 3 (Operand.tmp 8), type := 3, pos := "ref.go:21", after := #[{ on := 3, ground := Ground.data }, { on := 2, ground := Ground.guard }], guard := some (2, true) }) (by kernel_rfl) (by kernel_rfl) (by kernel_rfl) (by kernel_rfl) (fun _ _ _ h => h) (by kernel_rfl) hH1 ?_
    refine held_skip (i := 5) (o := { dst := some 10, op := Op.indexAddr 23 (Operand.tmp 2) (Operand.tmp 9), type := 0, pos := "ref.go:21", after := #[{ on := 4, ground := Ground.data }, { on := 2, ground := Ground.guard }], guard := some (2, true) }) (by kernel_rfl) (by kernel_rfl) (by kernel_rfl) (by kernel_rfl) (fun _ _ _ h => h) (by kernel_rfl) hH1 ?_
    refine held_skip (i := 6) (o := { dst := some 11, op := Op.load 3 (Operand.tmp 10), type := 3, pos := "ref.go:21", after := #[{ on := 5, ground := Ground.data }, { on := 2, ground := Ground.guard }], guard := some (2, true) }) (by kernel_rfl) (by kernel_rfl) (by kernel_rfl) (by kernel_rfl) (fun _ _ _ h => h) (by kernel_rfl) hH1 ?_
    refine held_skip (i := 7) (o := { dst := some 12, op := Op.fieldAddr 26 (Operand.tmp 3) 1, type := 0, pos := "ref.go:21", after := #[{ on := 2, ground := Ground.guard }], guard := some (2, true) }) (by kernel_rfl) (by kernel_rfl) (by kernel_rfl) (by kernel_rfl) (fun _ _ _ h => h) (by kernel_rfl) hH1 ?_
    refine held_skip (i := 8) (o := { dst := some 13, op := Op.load 3 (Operand.tmp 12), type := 3, pos := "ref.go:21", after := #[{ on := 7, ground := Ground.data }, { on := 2, ground := Ground.guard }], guard := some (2, true) }) (by kernel_rfl) (by kernel_rfl) (by kernel_rfl) (by kernel_rfl) (fun _ _ _ h => h) (by kernel_rfl) hH1 ?_
    refine held_skip (i := 9) (o := { dst := some 14, op := Op.binOp BinOp.geq 3 (Operand.tmp 11) (Operand.tmp 13) 3, type := 4, pos := "ref.go:21", after := #[{ on := 6, ground := Ground.data }, { on := 8, ground := Ground.data }, { on := 2, ground := Ground.guard }], guard := some (2, true) }) (by kernel_rfl) (by kernel_rfl) (by kernel_rfl) (by kernel_rfl) (fun _ _ _ h => h) (by kernel_rfl) hH1 ?_
    refine held_take (i := 10) (o := { dst := some 15, op := Op.pick (Operand.tmp 7) (Operand.tmp 14) (Operand.const (Value.bool false)), type := 4, pos := "ref.go:21", after := #[{ on := 2, ground := Ground.data }, { on := 9, ground := Ground.data }], guard := none }) (v := .bool false) (by kernel_rfl) (by kernel_rfl) (by kernel_rfl) (by kernel_rfl) (fun _ _ _ h => h) (by kernel_rfl) (fun _ _ => by kernel_rfl) hH1 ?_
    refine held_do (i := 11) (o := { dst := some 4, op := Op.assign (Operand.tmp 15), type := 4, pos := "ref.go:21", after := #[{ on := 10, ground := Ground.data }, { on := 2, ground := Ground.chain }, { on := 0, ground := Ground.phase }, { on := 1, ground := Ground.phase }, { on := 2, ground := Ground.phase }, { on := 3, ground := Ground.phase }, { on := 4, ground := Ground.phase }, { on := 5, ground := Ground.phase }, { on := 6, ground := Ground.phase }, { on := 7, ground := Ground.phase }, { on := 8, ground := Ground.phase }, { on := 9, ground := Ground.phase }, { on := 10, ground := Ground.phase }], guard := none }) (v := .bool false) (by kernel_rfl) (by kernel_rfl) (by kernel_rfl) (by kernel_rfl) hH1 ?_
    refine wpAnyH_done (by kernel_rfl) ?_ _
    simp only [Act.put, List.setIfInBounds_toArray, List.set_cons_zero, List.set_cons_succ]
    go_wp2
    go_ret
    exact ⟨rfl, hH1.2.2⟩
end Go.Proofs.Ytmifkfeobdnocaa
