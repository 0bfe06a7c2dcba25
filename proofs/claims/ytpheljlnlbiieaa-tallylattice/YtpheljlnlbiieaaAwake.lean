/- The walk of chapter 8's example. -/
import Derived.Test.YtpheljlnlbiieaaPut
import Derived.Test.YtpheljlnlbiieaaRaise
namespace Go.Proofs.Ytpheljlnlbiieaa
open Go.RowKit Go.Shelf

abbrev d1 : D := (0, 1)
abbrev l1 : List U := [((0, 1), 1)]
abbrev l2 : List U := [((0, 1), 2)]
theorem std1 : Ct.Std l1 := Ct.right_iff.1 (by decide)
theorem std2 : Ct.Std l2 := Ct.right_iff.1 (by decide)
/-- What holds while the example is told. -/
structure AS (w : World) (b c : Nat) (r : Value) (W : World) : Prop where
  dot : DAt W b d1
  cnt : CAt W ⟨c, 0, none⟩ ((0, 1), 2)
  row : cntsIn W r l1
  below : Below w.heap.size w W
theorem AS.on {w : World} {b c : Nat} {r : Value} {W W' : World} (h : AS w b c r W) (hb : Below W.heap.size W W') : AS w b c r W' := ⟨h.dot.on hb, h.cnt.on hb, h.row.on hb, bchain h.below hb⟩
theorem eqi_yes {a b : Int} (h : a = b) (t : TypeId) (ht : t = 3 ∨ t = 29) (w : World) : (binOp .eql t (.int .i64 a) (.int .i64 b)).run Try.prog w = .ok (.bool true) w := by
  subst h
  rcases ht with rfl | rfl <;> go_simp
theorem put0_any (w : World) : Calls Try.prog 19 #[.slice none 0 0, uV ((0, 1), 1)] w fun e w' => ∃ r, e = .returned r ∧ cntsIn w' r l1 ∧ Below w.heap.size w w' := by
  refine (put_any (.slice none 0 0) [] ((0, 1), 1) w (cntsIn_nil w) (by simp) Ct.std_nil).mono ?_
  rintro e w1 ⟨r, rfl, own, hb⟩
  exact ⟨r, rfl, cntsIn_own own, hb⟩
theorem put1_any (v : Value) (w : World) (hv : cntsIn w v l1) : Calls Try.prog 19 #[v, uV ((0, 1), 2)] w fun e w' => ∃ r, e = .returned r ∧ cntsIn w' r l2 ∧ Below w.heap.size w w' := by
  refine (put_any v l1 ((0, 1), 2) w hv (by simp) std1).mono ?_
  rintro e w1 ⟨r, rfl, own, hb⟩
  exact ⟨r, rfl, cntsIn_own own, hb⟩
theorem raise1_any (v : Value) (w : World) (hv : cntsIn w v l1) : Calls Try.prog 12 #[v, dV d1] w fun e w' => e = .returned (.tuple #[uV ((0, 1), 2), .int .i64 0]) ∧ Below w.heap.size w w' := raise_any v l1 d1 w hv (by simp) std1
theorem seen1_any (v : Value) (w : World) (hv : cntsIn w v l1) : Calls Try.prog 16 #[v, dV d1] w fun e w' => e = .returned (.bool false) ∧ Below w.heap.size w w' := seen_any v l1 d1 w hv (by simp) std1
theorem seen2_any (v : Value) (w : World) (hv : cntsIn w v l2) : Calls Try.prog 16 #[v, dV d1] w fun e w' => e = .returned (.bool true) ∧ Below w.heap.size w w' := seen_any v l2 d1 w hv (by simp) std2
theorem get2_any (v : Value) (w : World) (hv : cntsIn w v l2) : Calls Try.prog 14 #[v, dV d1] w fun e w' => e = .returned (.int .i64 2) ∧ Below w.heap.size w w' := get_any v l2 d1 w hv (by simp) std2

set_option maxRecDepth 20000 in
theorem awake_any (w : World) : Calls Try.prog 9 #[] w fun e w' => e = .returned (.bool true) ∧ Below w.heap.size w w' := by
  obtain ⟨W0, hW0⟩ : ∃ W0, W0 = w.alloc (.cells #[.int .i64 0, .int .i64 1] 24) := ⟨_, rfl⟩
  have hB0 : Below w.heap.size w W0 := by rw [hW0]; exact below_new _ _
  have hd0 : DAt W0 w.heap.size d1 := by rw [hW0]; exact DAt.new w d1
  go_enter Try.func9, Try.ntmps9
  go_wp2_with (first | (go_at_call 19; rw [← hW0]; refine (put0_any _).mono ?_; rintro e w1 ⟨r, rfl, hr, hb1⟩; obtain ⟨e0, e1⟩ := hd0.on hb1) | (go_at_call 12; refine (raise1_any r w1 hr).mono ?_; rintro e w2 ⟨rfl, hb2⟩; obtain ⟨e0, e1⟩ := (hd0.on hb1).on hb2))
  have hAS : AS w w.heap.size w2.heap.size r (w2.alloc (.cells #[.int .i64 0, .int .i64 1, .int .i64 2] 26)).drew := ⟨(((hd0.on hb1).on hb2).on (below_new _ _)).on (Below.refl _ _).drew, (CAt.new w2 ((0, 1), 2)).on (Below.refl _ _).drew, ((hr.on hb2).on (below_new _ _)).on (Below.refl _ _).drew, (bchain (bchain (bchain hB0 hb1) hb2) (below_new _ _)).drew⟩
  refine wp_region_held_drew (S := fun W => AS w w.heap.size w2.heap.size r W) (by kernel_rfl) (hAS) (fun hH0 => ?_)
  refine held_take (i := 0) (o := { dst := some 15, op := Op.move (Operand.tmp 2), type := 22, pos := "law.go:18", after := #[], guard := none }) (v := r) (by kernel_rfl) (by kernel_rfl) (by kernel_rfl) (by kernel_rfl) (fun _ _ _ h => h) (by kernel_rfl) (fun _ _ => by kernel_rfl) hH0 ?_
  refine held_take (i := 1) (o := { dst := some 16, op := Op.load 24 (Operand.tmp 1), type := 24, pos := "law.go:18", after := #[], guard := none }) (v := dV d1) (by kernel_rfl) (by kernel_rfl) (by kernel_rfl) (by kernel_rfl) (fun _ _ _ h => h) (by kernel_rfl) (fun _ h => exec_ldd rfl (by kernel_rfl) h.dot) hH0 ?_
  refine held_callX (i := 2) (o := { dst := some 17, op := Op.call { callee := Callee.value (Operand.func 16), args := #[Operand.tmp 15, Operand.tmp 16], argTypes := #[22, 24] }, type := 4, pos := "law.go:18", after := #[{ on := 0, ground := Ground.data }, { on := 1, ground := Ground.data }], guard := none }) (F := 16) (vs := #[r, dV d1]) (by kernel_rfl) (by kernel_rfl) (by kernel_rfl) (fun _ => by kernel_rfl) (seen1_any _ _ hH0.row) ?_
  rintro e v1 ⟨rfl, hb1⟩
  have hH1 := hH0.on hb1
  refine ⟨.bool false, rfl, hH1, ?_⟩
  refine held_take (i := 3) (o := { dst := some 18, op := Op.unOp UnOp.not 4 (Operand.tmp 17), type := 4, pos := "law.go:18", after := #[{ on := 2, ground := Ground.data }], guard := none }) (v := .bool true) (by kernel_rfl) (by kernel_rfl) (by kernel_rfl) (by kernel_rfl) (fun _ _ _ h => h) (by kernel_rfl) (fun W _ => exec_un rfl (by kernel_rfl) (not_of false) W) hH1 ?_
  refine held_take (i := 4) (o := { dst := some 19, op := Op.move (Operand.tmp 18), type := 4, pos := "law.go:18", after := #[{ on := 3, ground := Ground.data }, { on := 2, ground := Ground.chain }], guard := none }) (v := .bool true) (by kernel_rfl) (by kernel_rfl) (by kernel_rfl) (by kernel_rfl) (fun _ _ _ h => h) (by kernel_rfl) (fun _ _ => by kernel_rfl) hH1 ?_
  refine held_take (i := 5) (o := { dst := some 20, op := Op.move (Operand.tmp 4), type := 29, pos := "law.go:18", after := #[{ on := 4, ground := Ground.guard }], guard := some (4, true) }) (v := .int .i64 0) (by kernel_rfl) (by kernel_rfl) (by kernel_rfl) (by kernel_rfl) (fun _ _ _ h => h) (by kernel_rfl) (fun _ _ => by kernel_rfl) hH1 ?_
  refine held_take (i := 6) (o := { dst := some 21, op := Op.binOp BinOp.eql 29 (Operand.tmp 20) (Operand.const (Value.int IntKind.i64 0)) 29, type := 4, pos := "law.go:18", after := #[{ on := 5, ground := Ground.data }, { on := 4, ground := Ground.guard }], guard := some (4, true) }) (v := .bool true) (by kernel_rfl) (by kernel_rfl) (by kernel_rfl) (by kernel_rfl) (fun _ _ _ h => h) (by kernel_rfl) (fun W _ => exec_bin rfl (by kernel_rfl) (by kernel_rfl) (fun _ => by kernel_rfl) (eqi_yes (a := 0) (b := 0) rfl 29 (Or.inr rfl)) W) hH1 ?_
  refine held_take (i := 7) (o := { dst := some 22, op := Op.pick (Operand.tmp 19) (Operand.tmp 21) (Operand.const (Value.bool false)), type := 4, pos := "law.go:18", after := #[{ on := 4, ground := Ground.data }, { on := 6, ground := Ground.data }], guard := none }) (v := .bool true) (by kernel_rfl) (by kernel_rfl) (by kernel_rfl) (by kernel_rfl) (fun _ _ _ h => h) (by kernel_rfl) (fun _ _ => by kernel_rfl) hH1 ?_
  refine held_take (i := 8) (o := { dst := some 23, op := Op.move (Operand.tmp 22), type := 4, pos := "law.go:18", after := #[{ on := 7, ground := Ground.data }, { on := 4, ground := Ground.chain }], guard := none }) (v := .bool true) (by kernel_rfl) (by kernel_rfl) (by kernel_rfl) (by kernel_rfl) (fun _ _ _ h => h) (by kernel_rfl) (fun _ _ => by kernel_rfl) hH1 ?_
  refine held_take (i := 9) (o := { dst := some 24, op := Op.move (Operand.tmp 2), type := 22, pos := "law.go:18", after := #[{ on := 8, ground := Ground.guard }], guard := some (8, true) }) (v := r) (by kernel_rfl) (by kernel_rfl) (by kernel_rfl) (by kernel_rfl) (fun _ _ _ h => h) (by kernel_rfl) (fun _ _ => by kernel_rfl) hH1 ?_
  refine held_take (i := 10) (o := { dst := some 25, op := Op.load 26 (Operand.tmp 3), type := 26, pos := "law.go:18", after := #[{ on := 8, ground := Ground.guard }], guard := some (8, true) }) (v := uV ((0, 1), 2)) (by kernel_rfl) (by kernel_rfl) (by kernel_rfl) (by kernel_rfl) (fun _ _ _ h => h) (by kernel_rfl) (fun _ h => exec_ldU rfl (by kernel_rfl) h.cnt) hH1 ?_
  refine held_take (i := 12) (o := { dst := some 27, op := Op.load 24 (Operand.tmp 1), type := 24, pos := "law.go:18", after := #[{ on := 8, ground := Ground.guard }], guard := some (8, true) }) (v := dV d1) (by kernel_rfl) (by kernel_rfl) (by kernel_rfl) (by kernel_rfl) (fun _ _ _ h => h) (by kernel_rfl) (fun _ h => exec_ldd rfl (by kernel_rfl) h.dot) hH1 ?_
  refine held_callX (i := 11) (o := { dst := some 26, op := Op.call { callee := Callee.value (Operand.func 19), args := #[Operand.tmp 24, Operand.tmp 25], argTypes := #[22, 26] }, type := 22, pos := "law.go:18", after := #[{ on := 9, ground := Ground.data }, { on := 10, ground := Ground.data }, { on := 8, ground := Ground.chain }, { on := 8, ground := Ground.guard }], guard := some (8, true) }) (F := 19) (vs := #[r, uV ((0, 1), 2)]) (by kernel_rfl) (by kernel_rfl) (by kernel_rfl) (fun _ => by kernel_rfl) (put1_any _ _ hH1.row) ?_
  rintro e v2 ⟨r5, rfl, hr5, hb2⟩
  have hH2 := hH1.on hb2
  refine ⟨r5, rfl, hH2, ?_⟩
  refine held_callX (i := 13) (o := { dst := some 28, op := Op.call { callee := Callee.value (Operand.func 16), args := #[Operand.tmp 26, Operand.tmp 27], argTypes := #[22, 24] }, type := 4, pos := "law.go:18", after := #[{ on := 11, ground := Ground.data }, { on := 12, ground := Ground.data }, { on := 11, ground := Ground.chain }, { on := 8, ground := Ground.guard }], guard := some (8, true) }) (F := 16) (vs := #[r5, dV d1]) (by kernel_rfl) (by kernel_rfl) (by kernel_rfl) (fun _ => by kernel_rfl) (seen2_any _ _ hr5) ?_
  rintro e v3 ⟨rfl, hb3⟩
  have hH3 := hH2.on hb3
  refine ⟨.bool true, rfl, hH3, ?_⟩
  refine held_take (i := 14) (o := { dst := some 29, op := Op.pick (Operand.tmp 23) (Operand.tmp 28) (Operand.const (Value.bool false)), type := 4, pos := "law.go:18", after := #[{ on := 8, ground := Ground.data }, { on := 13, ground := Ground.data }], guard := none }) (v := .bool true) (by kernel_rfl) (by kernel_rfl) (by kernel_rfl) (by kernel_rfl) (fun _ _ _ h => h) (by kernel_rfl) (fun _ _ => by kernel_rfl) hH3 ?_
  refine held_take (i := 15) (o := { dst := some 30, op := Op.move (Operand.tmp 29), type := 4, pos := "law.go:18", after := #[{ on := 14, ground := Ground.data }, { on := 13, ground := Ground.chain }], guard := none }) (v := .bool true) (by kernel_rfl) (by kernel_rfl) (by kernel_rfl) (by kernel_rfl) (fun _ _ _ h => h) (by kernel_rfl) (fun _ _ => by kernel_rfl) hH3 ?_
  refine held_take (i := 16) (o := { dst := some 31, op := Op.move (Operand.tmp 2), type := 22, pos := "law.go:18", after := #[{ on := 15, ground := Ground.guard }], guard := some (15, true) }) (v := r) (by kernel_rfl) (by kernel_rfl) (by kernel_rfl) (by kernel_rfl) (fun _ _ _ h => h) (by kernel_rfl) (fun _ _ => by kernel_rfl) hH3 ?_
  refine held_take (i := 17) (o := { dst := some 32, op := Op.load 26 (Operand.tmp 3), type := 26, pos := "law.go:18", after := #[{ on := 15, ground := Ground.guard }], guard := some (15, true) }) (v := uV ((0, 1), 2)) (by kernel_rfl) (by kernel_rfl) (by kernel_rfl) (by kernel_rfl) (fun _ _ _ h => h) (by kernel_rfl) (fun _ h => exec_ldU rfl (by kernel_rfl) h.cnt) hH3 ?_
  refine held_take (i := 19) (o := { dst := some 34, op := Op.load 24 (Operand.tmp 1), type := 24, pos := "law.go:18", after := #[{ on := 15, ground := Ground.guard }], guard := some (15, true) }) (v := dV d1) (by kernel_rfl) (by kernel_rfl) (by kernel_rfl) (by kernel_rfl) (fun _ _ _ h => h) (by kernel_rfl) (fun _ h => exec_ldd rfl (by kernel_rfl) h.dot) hH3 ?_
  refine held_callX (i := 18) (o := { dst := some 33, op := Op.call { callee := Callee.value (Operand.func 19), args := #[Operand.tmp 31, Operand.tmp 32], argTypes := #[22, 26] }, type := 22, pos := "law.go:18", after := #[{ on := 16, ground := Ground.data }, { on := 17, ground := Ground.data }, { on := 15, ground := Ground.chain }, { on := 15, ground := Ground.guard }], guard := some (15, true) }) (F := 19) (vs := #[r, uV ((0, 1), 2)]) (by kernel_rfl) (by kernel_rfl) (by kernel_rfl) (fun _ => by kernel_rfl) (put1_any _ _ hH3.row) ?_
  rintro e v4 ⟨r6, rfl, hr6, hb4⟩
  have hH4 := hH3.on hb4
  refine ⟨r6, rfl, hH4, ?_⟩
  refine held_callX (i := 20) (o := { dst := some 35, op := Op.call { callee := Callee.value (Operand.func 14), args := #[Operand.tmp 33, Operand.tmp 34], argTypes := #[22, 24] }, type := 3, pos := "law.go:18", after := #[{ on := 18, ground := Ground.data }, { on := 19, ground := Ground.data }, { on := 18, ground := Ground.chain }, { on := 15, ground := Ground.guard }], guard := some (15, true) }) (F := 14) (vs := #[r6, dV d1]) (by kernel_rfl) (by kernel_rfl) (by kernel_rfl) (fun _ => by kernel_rfl) (get2_any _ _ hr6) ?_
  rintro e v5 ⟨rfl, hb5⟩
  have hH5 := hH4.on hb5
  refine ⟨.int .i64 2, rfl, hH5, ?_⟩
  refine held_take (i := 21) (o := { dst := some 36, op := Op.binOp BinOp.eql 3 (Operand.tmp 35) (Operand.const (Value.int IntKind.i64 2)) 3, type := 4, pos := "law.go:18", after := #[{ on := 20, ground := Ground.data }, { on := 15, ground := Ground.guard }], guard := some (15, true) }) (v := .bool true) (by kernel_rfl) (by kernel_rfl) (by kernel_rfl) (by kernel_rfl) (fun _ _ _ h => h) (by kernel_rfl) (fun W _ => exec_bin rfl (by kernel_rfl) (by kernel_rfl) (fun _ => by kernel_rfl) (eqi_yes (a := 2) (b := 2) rfl 3 (Or.inl rfl)) W) hH5 ?_
  refine held_take (i := 22) (o := { dst := some 37, op := Op.pick (Operand.tmp 30) (Operand.tmp 36) (Operand.const (Value.bool false)), type := 4, pos := "law.go:18", after := #[{ on := 15, ground := Ground.data }, { on := 21, ground := Ground.data }], guard := none }) (v := .bool true) (by kernel_rfl) (by kernel_rfl) (by kernel_rfl) (by kernel_rfl) (fun _ _ _ h => h) (by kernel_rfl) (fun _ _ => by kernel_rfl) hH5 ?_
  refine held_do (i := 23) (o := { dst := some 0, op := Op.assign (Operand.tmp 37), type := 4, pos := "law.go:18", after := #[{ on := 22, ground := Ground.data }, { on := 20, ground := Ground.chain }, { on := 0, ground := Ground.phase }, { on := 1, ground := Ground.phase }, { on := 2, ground := Ground.phase }, { on := 3, ground := Ground.phase }, { on := 4, ground := Ground.phase }, { on := 5, ground := Ground.phase }, { on := 6, ground := Ground.phase }, { on := 7, ground := Ground.phase }, { on := 8, ground := Ground.phase }, { on := 9, ground := Ground.phase }, { on := 10, ground := Ground.phase }, { on := 11, ground := Ground.phase }, { on := 12, ground := Ground.phase }, { on := 13, ground := Ground.phase }, { on := 14, ground := Ground.phase }, { on := 15, ground := Ground.phase }, { on := 16, ground := Ground.phase }, { on := 17, ground := Ground.phase }, { on := 18, ground := Ground.phase }, { on := 19, ground := Ground.phase }, { on := 20, ground := Ground.phase }, { on := 21, ground := Ground.phase }, { on := 22, ground := Ground.phase }], guard := none }) (v := .bool true) (by kernel_rfl) (by kernel_rfl) (by kernel_rfl) (by kernel_rfl) hH5 ?_
  refine wpAnyH_done (by kernel_rfl) ?_ _
  simp only [Act.put, List.setIfInBounds_toArray, List.set_cons_zero, List.set_cons_succ]
  go_wp2
  go_ret
  exact ⟨rfl, hH5.below⟩
end Go.Proofs.Ytpheljlnlbiieaa
