/- The walk of the statement ValueTells. -/
import Derived.Test.YthphoclfoejbfaaDoorAwake
import Derived.Test.YthphoclfoejbfaaDoorComp
import Derived.Test.YthphoclfoejbfaaDoorCodes
namespace Go.Proofs.YthphoclfoejbfaaDoor
open Go.RowKit

/-- What holds while the law is walked. -/
structure TS (w : World) (k n : Int) (l : List UInt8) (k' n' : Int) (l' : List UInt8) (W : World) : Prop where
  a : VAt W w.heap.size k n l
  b : VAt W (w.heap.size + 1) k' n' l'
  keeps : Keeps W
  below : Below w.heap.size w W
theorem TS.on {w : World} {k n : Int} {l : List UInt8} {k' n' : Int} {l' : List UInt8} {W W' : World} (h : TS w k n l k' n' l' W) (hb : Below W.heap.size W W') : TS w k n l k' n' l' W' :=
  ⟨h.a.on hb, h.b.on hb, h.keeps.on hb, bchain h.below hb⟩
theorem TS.start (w : World) (k n : Int) (l : List UInt8) (k' n' : Int) (l' : List UInt8) (hk : Keeps w) : TS w k n l k' n' l' ((w.alloc (valO k n l)).alloc (valO k' n' l')) := by
  have h := VAt.new2 w k n l k' n' l'
  have hb := below_new2 w (valO k n l) (valO k' n' l')
  exact ⟨h.1, h.2, hk.on hb, hb⟩

set_option maxRecDepth 20000 in
set_option maxHeartbeats 4000000 in
theorem valueTells_walk (k n : Int) (l : List UInt8) (k' n' : Int) (l' : List UInt8) (w : World) (hk : Keeps w) :
    Calls Tryd.prog 3 #[valV k n l, valV k' n' l'] w fun e w' => e = .returned (.bool true) ∧ Below w.heap.size w w' := by
  have H0 := TS.start w k n l k' n' l' hk
  by_cases hlen : 200 < l.length ∨ 200 < l'.length
  · have D : (200 : Int) < (l.length : Int) ∨ (¬ (200 : Int) < (l.length : Int) ∧ (200 : Int) < (l'.length : Int)) := by omega
    clear hlen
    rcases D with d1 | ⟨d1, d2⟩
    all_goals
      go_enter Tryd.func3, Tryd.ntmps3
      go_wp2_with (go_at_call 7; refine (awake_any _ H0.keeps).mono ?_; rintro e w1 ⟨rfl, hb1⟩)
      go_ret
      exact ⟨rfl, bchain H0.below hb1⟩
  have d1 : ¬ (200 : Int) < (l.length : Int) := by omega
  have d2 : ¬ (200 : Int) < (l'.length : Int) := by omega
  have C8 := right_any k n l
  have C9 := fun w => refRight_any k n l w (by omega)
  have C10 := comp_any k n l k' n' l'
  have C11 := fun w => refComp_any k n l k' n' l' w (by omega)
  have HR : Hid (Vl.right k n l = true → Vl.Right k n l) := by have h : Vl.right k n l = true → Vl.Right k n l := Vl.right_iff.1; exact h
  generalize Vl.comp k n l k' n' l' = z at *
  clear hlen
  cases hr : Vl.right k n l with
  | false =>
    rw [hr] at C8 C9
    clear HR hr
    go_enter Tryd.func3, Tryd.ntmps3
    go_wp2_with fail
    refine wp_region_held_drew (S := fun W => TS w k n l k' n' l' W) (by kernel_rfl) (H0.on (Below.refl _ _).drew) (fun hG0 => ?_)
    refine held_take (i := 0) (o := { dst := some 16, op := Op.load 23 (Operand.tmp 2), type := 23, pos := "law.go:24", after := #[], guard := none }) (v := valV k n l) (by kernel_rfl) (by kernel_rfl) (by kernel_rfl) (by kernel_rfl) (fun _ _ _ h => h) (by kernel_rfl) (fun _ h => exec_ldV rfl (by kernel_rfl) h.a) hG0 ?_
    refine held_take (i := 2) (o := { dst := some 18, op := Op.load 23 (Operand.tmp 2), type := 23, pos := "law.go:24", after := #[], guard := none }) (v := valV k n l) (by kernel_rfl) (by kernel_rfl) (by kernel_rfl) (by kernel_rfl) (fun _ _ _ h => h) (by kernel_rfl) (fun _ h => exec_ldV rfl (by kernel_rfl) h.a) hG0 ?_
    refine held_callX (i := 1) (o := { dst := some 17, op := Op.call { callee := Callee.value (Operand.func 8), args := #[Operand.tmp 16], argTypes := #[23] }, type := 4, pos := "law.go:24", after := #[{ on := 0, ground := Ground.data }], guard := none }) (F := 8) (vs := #[valV k n l]) (by kernel_rfl) (by kernel_rfl) (by kernel_rfl) (fun _ => by kernel_rfl) (C8 _) ?_
    rintro e u1 ⟨rfl, hb1⟩
    have hG1 := hG0.on hb1
    refine ⟨.bool false, rfl, hG1, ?_⟩
    refine held_callX (i := 3) (o := { dst := some 19, op := Op.call { callee := Callee.value (Operand.func 9), args := #[Operand.tmp 18], argTypes := #[23] }, type := 4, pos := "law.go:24", after := #[{ on := 2, ground := Ground.data }, { on := 1, ground := Ground.chain }], guard := none }) (F := 9) (vs := #[valV k n l]) (by kernel_rfl) (by kernel_rfl) (by kernel_rfl) (fun _ => by kernel_rfl) (C9 _) ?_
    rintro e u2 ⟨rfl, hb2⟩
    have hG2 := hG1.on hb2
    refine ⟨.bool false, rfl, hG2, ?_⟩
    refine held_take (i := 4) (o := { dst := some 20, op := Op.binOp BinOp.neq 4 (Operand.tmp 17) (Operand.tmp 19) 4, type := 4, pos := "law.go:24", after := #[{ on := 1, ground := Ground.data }, { on := 3, ground := Ground.data }], guard := none }) (v := .bool false) (by kernel_rfl) (by kernel_rfl) (by kernel_rfl) (by kernel_rfl) (fun _ _ _ h => h) (by kernel_rfl) (fun W _ => exec_bin rfl (by kernel_rfl) (by kernel_rfl) (fun _ => by kernel_rfl) (neqb_same false) W) hG2 ?_
    refine held_take (i := 5) (o := { dst := some 21, op := Op.move (Operand.tmp 20), type := 4, pos := "law.go:24", after := #[{ on := 4, ground := Ground.data }, { on := 3, ground := Ground.chain }], guard := none }) (v := .bool false) (by kernel_rfl) (by kernel_rfl) (by kernel_rfl) (by kernel_rfl) (fun _ _ _ h => h) (by kernel_rfl) (fun _ _ => by kernel_rfl) hG2 ?_
    refine held_take (i := 6) (o := { dst := some 22, op := Op.load 23 (Operand.tmp 2), type := 23, pos := "law.go:24", after := #[{ on := 5, ground := Ground.guard }], guard := some (5, false) }) (v := valV k n l) (by kernel_rfl) (by kernel_rfl) (by kernel_rfl) (by kernel_rfl) (fun _ _ _ h => h) (by kernel_rfl) (fun _ h => exec_ldV rfl (by kernel_rfl) h.a) hG2 ?_
    refine held_take (i := 7) (o := { dst := some 23, op := Op.load 23 (Operand.tmp 3), type := 23, pos := "law.go:24", after := #[{ on := 5, ground := Ground.guard }], guard := some (5, false) }) (v := valV k' n' l') (by kernel_rfl) (by kernel_rfl) (by kernel_rfl) (by kernel_rfl) (fun _ _ _ h => h) (by kernel_rfl) (fun _ h => exec_ldV rfl (by kernel_rfl) h.b) hG2 ?_
    refine held_take (i := 9) (o := { dst := some 25, op := Op.load 23 (Operand.tmp 2), type := 23, pos := "law.go:24", after := #[{ on := 5, ground := Ground.guard }], guard := some (5, false) }) (v := valV k n l) (by kernel_rfl) (by kernel_rfl) (by kernel_rfl) (by kernel_rfl) (fun _ _ _ h => h) (by kernel_rfl) (fun _ h => exec_ldV rfl (by kernel_rfl) h.a) hG2 ?_
    refine held_take (i := 10) (o := { dst := some 26, op := Op.load 23 (Operand.tmp 3), type := 23, pos := "law.go:24", after := #[{ on := 5, ground := Ground.guard }], guard := some (5, false) }) (v := valV k' n' l') (by kernel_rfl) (by kernel_rfl) (by kernel_rfl) (by kernel_rfl) (fun _ _ _ h => h) (by kernel_rfl) (fun _ h => exec_ldV rfl (by kernel_rfl) h.b) hG2 ?_
    refine held_callX (i := 8) (o := { dst := some 24, op := Op.call { callee := Callee.value (Operand.func 10), args := #[Operand.tmp 22, Operand.tmp 23], argTypes := #[23, 23] }, type := 3, pos := "law.go:24", after := #[{ on := 6, ground := Ground.data }, { on := 7, ground := Ground.data }, { on := 5, ground := Ground.chain }, { on := 5, ground := Ground.guard }], guard := some (5, false) }) (F := 10) (vs := #[valV k n l, valV k' n' l']) (by kernel_rfl) (by kernel_rfl) (by kernel_rfl) (fun _ => by kernel_rfl) (C10 _) ?_
    rintro e u3 ⟨rfl, hb3⟩
    have hG3 := hG2.on hb3
    refine ⟨.int .i64 z, rfl, hG3, ?_⟩
    refine held_callX (i := 11) (o := { dst := some 27, op := Op.call { callee := Callee.value (Operand.func 11), args := #[Operand.tmp 25, Operand.tmp 26], argTypes := #[23, 23] }, type := 3, pos := "law.go:24", after := #[{ on := 9, ground := Ground.data }, { on := 10, ground := Ground.data }, { on := 8, ground := Ground.chain }, { on := 5, ground := Ground.guard }], guard := some (5, false) }) (F := 11) (vs := #[valV k n l, valV k' n' l']) (by kernel_rfl) (by kernel_rfl) (by kernel_rfl) (fun _ => by kernel_rfl) (C11 _) ?_
    rintro e u4 ⟨rfl, hb4⟩
    have hG4 := hG3.on hb4
    refine ⟨.int .i64 z, rfl, hG4, ?_⟩
    refine held_take (i := 12) (o := { dst := some 28, op := Op.binOp BinOp.neq 3 (Operand.tmp 24) (Operand.tmp 27) 3, type := 4, pos := "law.go:24", after := #[{ on := 8, ground := Ground.data }, { on := 11, ground := Ground.data }, { on := 5, ground := Ground.guard }], guard := some (5, false) }) (v := .bool false) (by kernel_rfl) (by kernel_rfl) (by kernel_rfl) (by kernel_rfl) (fun _ _ _ h => h) (by kernel_rfl) (fun W _ => exec_bin rfl (by kernel_rfl) (by kernel_rfl) (fun _ => by kernel_rfl) (neqi_same z) W) hG4 ?_
    refine held_take (i := 13) (o := { dst := some 29, op := Op.pick (Operand.tmp 21) (Operand.const (Value.bool true)) (Operand.tmp 28), type := 4, pos := "law.go:24", after := #[{ on := 5, ground := Ground.data }, { on := 12, ground := Ground.data }], guard := none }) (v := .bool false) (by kernel_rfl) (by kernel_rfl) (by kernel_rfl) (by kernel_rfl) (fun _ _ _ h => h) (by kernel_rfl) (fun _ _ => by kernel_rfl) hG4 ?_
    refine wpAnyH_done (by kernel_rfl) ?_ _
    simp only [Act.put, List.setIfInBounds_toArray, List.set_cons_zero, List.set_cons_succ]
    go_wp2_with fail
    refine wp_region_held_drew (S := fun W => TS w k n l k' n' l' W) (by kernel_rfl) (hG4.on (Below.refl _ _).drew) (fun hH0 => ?_)
    refine held_take (i := 0) (o := { dst := some 30, op := Op.load 23 (Operand.tmp 2), type := 23, pos := "law.go:27", after := #[], guard := none }) (v := valV k n l) (by kernel_rfl) (by kernel_rfl) (by kernel_rfl) (by kernel_rfl) (fun _ _ _ h => h) (by kernel_rfl) (fun _ h => exec_ldV rfl (by kernel_rfl) h.a) hH0 ?_
    refine held_callX (i := 1) (o := { dst := some 31, op := Op.call { callee := Callee.value (Operand.func 9), args := #[Operand.tmp 30], argTypes := #[23] }, type := 4, pos := "law.go:27", after := #[{ on := 0, ground := Ground.data }], guard := none }) (F := 9) (vs := #[valV k n l]) (by kernel_rfl) (by kernel_rfl) (by kernel_rfl) (fun _ => by kernel_rfl) (C9 _) ?_
    rintro e w1 ⟨rfl, hb1⟩
    have hH1 := hH0.on hb1
    refine ⟨.bool false, rfl, hH1, ?_⟩
    refine held_take (i := 2) (o := { dst := some 32, op := Op.unOp UnOp.not 4 (Operand.tmp 31), type := 4, pos := "law.go:27", after := #[{ on := 1, ground := Ground.data }], guard := none }) (v := .bool true) (by kernel_rfl) (by kernel_rfl) (by kernel_rfl) (by kernel_rfl) (fun _ _ _ h => h) (by kernel_rfl) (fun W _ => exec_un rfl (by kernel_rfl) (not_of false) W) hH1 ?_
    refine held_take (i := 3) (o := { dst := some 33, op := Op.move (Operand.tmp 32), type := 4, pos := "law.go:27", after := #[{ on := 2, ground := Ground.data }, { on := 1, ground := Ground.chain }], guard := none }) (v := .bool true) (by kernel_rfl) (by kernel_rfl) (by kernel_rfl) (by kernel_rfl) (fun _ _ _ h => h) (by kernel_rfl) (fun _ _ => by kernel_rfl) hH1 ?_
    refine held_skip (i := 4) (o := { dst := some 34, op := Op.load 23 (Operand.tmp 2), type := 23, pos := "law.go:27", after := #[{ on := 3, ground := Ground.guard }], guard := some (3, false) }) (by kernel_rfl) (by kernel_rfl) (by kernel_rfl) (by kernel_rfl) (fun _ _ _ h => h) (by kernel_rfl) hH1 ?_
    refine held_skip (i := 6) (o := { dst := some 36, op := Op.load 23 (Operand.tmp 2), type := 23, pos := "law.go:27", after := #[{ on := 3, ground := Ground.guard }], guard := some (3, false) }) (by kernel_rfl) (by kernel_rfl) (by kernel_rfl) (by kernel_rfl) (fun _ _ _ h => h) (by kernel_rfl) hH1 ?_
    refine held_skip (i := 5) (o := { dst := some 35, op := Op.call { callee := Callee.value (Operand.func 12), args := #[Operand.tmp 34], argTypes := #[23] }, type := 9, pos := "law.go:27", after := #[{ on := 4, ground := Ground.data }, { on := 3, ground := Ground.chain }, { on := 3, ground := Ground.guard }], guard := some (3, false) }) (by kernel_rfl) (by kernel_rfl) (by kernel_rfl) (by kernel_rfl) (fun _ _ _ h => h) (by kernel_rfl) hH1 ?_
    refine held_skip (i := 7) (o := { dst := some 37, op := Op.call { callee := Callee.value (Operand.func 13), args := #[Operand.tmp 36], argTypes := #[23] }, type := 9, pos := "law.go:27", after := #[{ on := 6, ground := Ground.data }, { on := 5, ground := Ground.chain }, { on := 3, ground := Ground.guard }], guard := some (3, false) }) (by kernel_rfl) (by kernel_rfl) (by kernel_rfl) (by kernel_rfl) (fun _ _ _ h => h) (by kernel_rfl) hH1 ?_
    refine held_skip (i := 8) (o := { dst := some 38, op := Op.binOp BinOp.eql 9 (Operand.tmp 35) (Operand.tmp 37) 9, type := 4, pos := "law.go:27", after := #[{ on := 5, ground := Ground.data }, { on := 7, ground := Ground.data }, { on := 3, ground := Ground.guard }], guard := some (3, false) }) (by kernel_rfl) (by kernel_rfl) (by kernel_rfl) (by kernel_rfl) (fun _ _ _ h => h) (by kernel_rfl) hH1 ?_
    refine held_skip (i := 9) (o := { dst := some 39, op := Op.move (Operand.tmp 38), type := 4, pos := "law.go:27", after := #[{ on := 8, ground := Ground.data }, { on := 7, ground := Ground.chain }, { on := 3, ground := Ground.guard }], guard := some (3, false) }) (by kernel_rfl) (by kernel_rfl) (by kernel_rfl) (by kernel_rfl) (fun _ _ _ h => h) (by kernel_rfl) hH1 ?_
    refine held_skip (i := 10) (o := { dst := some 40, op := Op.load 23 (Operand.tmp 2), type := 23, pos := "law.go:27", after := #[{ on := 9, ground := Ground.guard }], guard := some (9, true) }) (by kernel_rfl) (by kernel_rfl) (by kernel_rfl) (by kernel_rfl) (fun _ _ _ h => h) (by kernel_rfl) hH1 ?_
    refine held_skip (i := 12) (o := { dst := some 42, op := Op.load 23 (Operand.tmp 2), type := 23, pos := "law.go:27", after := #[{ on := 9, ground := Ground.guard }], guard := some (9, true) }) (by kernel_rfl) (by kernel_rfl) (by kernel_rfl) (by kernel_rfl) (fun _ _ _ h => h) (by kernel_rfl) hH1 ?_
    refine held_skip (i := 11) (o := { dst := some 41, op := Op.call { callee := Callee.value (Operand.func 14), args := #[Operand.tmp 40], argTypes := #[23] }, type := 9, pos := "law.go:27", after := #[{ on := 10, ground := Ground.data }, { on := 9, ground := Ground.chain }, { on := 9, ground := Ground.guard }], guard := some (9, true) }) (by kernel_rfl) (by kernel_rfl) (by kernel_rfl) (by kernel_rfl) (fun _ _ _ h => h) (by kernel_rfl) hH1 ?_
    refine held_skip (i := 13) (o := { dst := some 43, op := Op.call { callee := Callee.value (Operand.func 15), args := #[Operand.tmp 42], argTypes := #[23] }, type := 9, pos := "law.go:27", after := #[{ on := 12, ground := Ground.data }, { on := 11, ground := Ground.chain }, { on := 9, ground := Ground.guard }], guard := some (9, true) }) (by kernel_rfl) (by kernel_rfl) (by kernel_rfl) (by kernel_rfl) (fun _ _ _ h => h) (by kernel_rfl) hH1 ?_
    refine held_skip (i := 14) (o := { dst := some 44, op := Op.binOp BinOp.eql 9 (Operand.tmp 41) (Operand.tmp 43) 9, type := 4, pos := "law.go:27", after := #[{ on := 11, ground := Ground.data }, { on := 13, ground := Ground.data }, { on := 9, ground := Ground.guard }], guard := some (9, true) }) (by kernel_rfl) (by kernel_rfl) (by kernel_rfl) (by kernel_rfl) (fun _ _ _ h => h) (by kernel_rfl) hH1 ?_
    refine held_skip (i := 15) (o := { dst := some 45, op := Op.pick (Operand.tmp 39) (Operand.tmp 44) (Operand.const (Value.bool false)), type := 4, pos := "law.go:27", after := #[{ on := 9, ground := Ground.data }, { on := 14, ground := Ground.data }, { on := 3, ground := Ground.guard }], guard := some (3, false) }) (by kernel_rfl) (by kernel_rfl) (by kernel_rfl) (by kernel_rfl) (fun _ _ _ h => h) (by kernel_rfl) hH1 ?_
    refine held_take (i := 16) (o := { dst := some 46, op := Op.pick (Operand.tmp 33) (Operand.const (Value.bool true)) (Operand.tmp 45), type := 4, pos := "law.go:27", after := #[{ on := 3, ground := Ground.data }, { on := 15, ground := Ground.data }], guard := none }) (v := .bool true) (by kernel_rfl) (by kernel_rfl) (by kernel_rfl) (by kernel_rfl) (fun _ _ _ h => h) (by kernel_rfl) (fun _ _ => by kernel_rfl) hH1 ?_
    refine held_take (i := 17) (o := { dst := some 47, op := Op.move (Operand.tmp 46), type := 4, pos := "law.go:27", after := #[{ on := 16, ground := Ground.data }, { on := 13, ground := Ground.chain }], guard := none }) (v := .bool true) (by kernel_rfl) (by kernel_rfl) (by kernel_rfl) (by kernel_rfl) (fun _ _ _ h => h) (by kernel_rfl) (fun _ _ => by kernel_rfl) hH1 ?_
    refine held_callX (i := 18) (o := { dst := some 48, op := Op.call { callee := Callee.value (Operand.func 7), args := #[], argTypes := #[] }, type := 4, pos := "law.go:27", after := #[{ on := 17, ground := Ground.chain }, { on := 17, ground := Ground.guard }], guard := some (17, true) }) (F := 7) (vs := #[]) (by kernel_rfl) (by kernel_rfl) (by kernel_rfl) (fun _ => by kernel_rfl) (awake_any _ hH1.keeps) ?_
    rintro e w2 ⟨rfl, hb2⟩
    have hH2 := hH1.on hb2
    refine ⟨.bool true, rfl, hH2, ?_⟩
    refine held_take (i := 19) (o := { dst := some 49, op := Op.pick (Operand.tmp 47) (Operand.tmp 48) (Operand.const (Value.bool false)), type := 4, pos := "law.go:27", after := #[{ on := 17, ground := Ground.data }, { on := 18, ground := Ground.data }], guard := none }) (v := .bool true) (by kernel_rfl) (by kernel_rfl) (by kernel_rfl) (by kernel_rfl) (fun _ _ _ h => h) (by kernel_rfl) (fun _ _ => by kernel_rfl) hH2 ?_
    refine held_do (i := 20) (o := { dst := some 4, op := Op.assign (Operand.tmp 49), type := 4, pos := "law.go:27", after := #[{ on := 19, ground := Ground.data }, { on := 18, ground := Ground.chain }, { on := 0, ground := Ground.phase }, { on := 1, ground := Ground.phase }, { on := 2, ground := Ground.phase }, { on := 3, ground := Ground.phase }, { on := 4, ground := Ground.phase }, { on := 5, ground := Ground.phase }, { on := 6, ground := Ground.phase }, { on := 7, ground := Ground.phase }, { on := 8, ground := Ground.phase }, { on := 9, ground := Ground.phase }, { on := 10, ground := Ground.phase }, { on := 11, ground := Ground.phase }, { on := 12, ground := Ground.phase }, { on := 13, ground := Ground.phase }, { on := 14, ground := Ground.phase }, { on := 15, ground := Ground.phase }, { on := 16, ground := Ground.phase }, { on := 17, ground := Ground.phase }, { on := 18, ground := Ground.phase }, { on := 19, ground := Ground.phase }], guard := none }) (v := .bool true) (by kernel_rfl) (by kernel_rfl) (by kernel_rfl) (by kernel_rfl) hH2 ?_
    refine wpAnyH_done (by kernel_rfl) ?_ _
    simp only [Act.put, List.setIfInBounds_toArray, List.set_cons_zero, List.set_cons_succ]
    go_wp2
    go_ret
    exact ⟨rfl, hH2.below⟩
  | true =>
    rw [hr] at C8 C9
    have C12 := fun w hk => text_right k n l w hk (HR.out hr)
    have C13 := fun w => refText_right k n l w (HR.out hr)
    have C14 := fun w => code_right k n l w (HR.out hr)
    have C15 := fun w => refCode_right k n l w (HR.out hr)
    generalize Vl.text k n l = tx at *
    generalize Vl.code k n l = cd at *
    clear HR hr
    go_enter Tryd.func3, Tryd.ntmps3
    go_wp2_with fail
    refine wp_region_held_drew (S := fun W => TS w k n l k' n' l' W) (by kernel_rfl) (H0.on (Below.refl _ _).drew) (fun hG0 => ?_)
    refine held_take (i := 0) (o := { dst := some 16, op := Op.load 23 (Operand.tmp 2), type := 23, pos := "law.go:24", after := #[], guard := none }) (v := valV k n l) (by kernel_rfl) (by kernel_rfl) (by kernel_rfl) (by kernel_rfl) (fun _ _ _ h => h) (by kernel_rfl) (fun _ h => exec_ldV rfl (by kernel_rfl) h.a) hG0 ?_
    refine held_take (i := 2) (o := { dst := some 18, op := Op.load 23 (Operand.tmp 2), type := 23, pos := "law.go:24", after := #[], guard := none }) (v := valV k n l) (by kernel_rfl) (by kernel_rfl) (by kernel_rfl) (by kernel_rfl) (fun _ _ _ h => h) (by kernel_rfl) (fun _ h => exec_ldV rfl (by kernel_rfl) h.a) hG0 ?_
    refine held_callX (i := 1) (o := { dst := some 17, op := Op.call { callee := Callee.value (Operand.func 8), args := #[Operand.tmp 16], argTypes := #[23] }, type := 4, pos := "law.go:24", after := #[{ on := 0, ground := Ground.data }], guard := none }) (F := 8) (vs := #[valV k n l]) (by kernel_rfl) (by kernel_rfl) (by kernel_rfl) (fun _ => by kernel_rfl) (C8 _) ?_
    rintro e u1 ⟨rfl, hb1⟩
    have hG1 := hG0.on hb1
    refine ⟨.bool true, rfl, hG1, ?_⟩
    refine held_callX (i := 3) (o := { dst := some 19, op := Op.call { callee := Callee.value (Operand.func 9), args := #[Operand.tmp 18], argTypes := #[23] }, type := 4, pos := "law.go:24", after := #[{ on := 2, ground := Ground.data }, { on := 1, ground := Ground.chain }], guard := none }) (F := 9) (vs := #[valV k n l]) (by kernel_rfl) (by kernel_rfl) (by kernel_rfl) (fun _ => by kernel_rfl) (C9 _) ?_
    rintro e u2 ⟨rfl, hb2⟩
    have hG2 := hG1.on hb2
    refine ⟨.bool true, rfl, hG2, ?_⟩
    refine held_take (i := 4) (o := { dst := some 20, op := Op.binOp BinOp.neq 4 (Operand.tmp 17) (Operand.tmp 19) 4, type := 4, pos := "law.go:24", after := #[{ on := 1, ground := Ground.data }, { on := 3, ground := Ground.data }], guard := none }) (v := .bool false) (by kernel_rfl) (by kernel_rfl) (by kernel_rfl) (by kernel_rfl) (fun _ _ _ h => h) (by kernel_rfl) (fun W _ => exec_bin rfl (by kernel_rfl) (by kernel_rfl) (fun _ => by kernel_rfl) (neqb_same true) W) hG2 ?_
    refine held_take (i := 5) (o := { dst := some 21, op := Op.move (Operand.tmp 20), type := 4, pos := "law.go:24", after := #[{ on := 4, ground := Ground.data }, { on := 3, ground := Ground.chain }], guard := none }) (v := .bool false) (by kernel_rfl) (by kernel_rfl) (by kernel_rfl) (by kernel_rfl) (fun _ _ _ h => h) (by kernel_rfl) (fun _ _ => by kernel_rfl) hG2 ?_
    refine held_take (i := 6) (o := { dst := some 22, op := Op.load 23 (Operand.tmp 2), type := 23, pos := "law.go:24", after := #[{ on := 5, ground := Ground.guard }], guard := some (5, false) }) (v := valV k n l) (by kernel_rfl) (by kernel_rfl) (by kernel_rfl) (by kernel_rfl) (fun _ _ _ h => h) (by kernel_rfl) (fun _ h => exec_ldV rfl (by kernel_rfl) h.a) hG2 ?_
    refine held_take (i := 7) (o := { dst := some 23, op := Op.load 23 (Operand.tmp 3), type := 23, pos := "law.go:24", after := #[{ on := 5, ground := Ground.guard }], guard := some (5, false) }) (v := valV k' n' l') (by kernel_rfl) (by kernel_rfl) (by kernel_rfl) (by kernel_rfl) (fun _ _ _ h => h) (by kernel_rfl) (fun _ h => exec_ldV rfl (by kernel_rfl) h.b) hG2 ?_
    refine held_take (i := 9) (o := { dst := some 25, op := Op.load 23 (Operand.tmp 2), type := 23, pos := "law.go:24", after := #[{ on := 5, ground := Ground.guard }], guard := some (5, false) }) (v := valV k n l) (by kernel_rfl) (by kernel_rfl) (by kernel_rfl) (by kernel_rfl) (fun _ _ _ h => h) (by kernel_rfl) (fun _ h => exec_ldV rfl (by kernel_rfl) h.a) hG2 ?_
    refine held_take (i := 10) (o := { dst := some 26, op := Op.load 23 (Operand.tmp 3), type := 23, pos := "law.go:24", after := #[{ on := 5, ground := Ground.guard }], guard := some (5, false) }) (v := valV k' n' l') (by kernel_rfl) (by kernel_rfl) (by kernel_rfl) (by kernel_rfl) (fun _ _ _ h => h) (by kernel_rfl) (fun _ h => exec_ldV rfl (by kernel_rfl) h.b) hG2 ?_
    refine held_callX (i := 8) (o := { dst := some 24, op := Op.call { callee := Callee.value (Operand.func 10), args := #[Operand.tmp 22, Operand.tmp 23], argTypes := #[23, 23] }, type := 3, pos := "law.go:24", after := #[{ on := 6, ground := Ground.data }, { on := 7, ground := Ground.data }, { on := 5, ground := Ground.chain }, { on := 5, ground := Ground.guard }], guard := some (5, false) }) (F := 10) (vs := #[valV k n l, valV k' n' l']) (by kernel_rfl) (by kernel_rfl) (by kernel_rfl) (fun _ => by kernel_rfl) (C10 _) ?_
    rintro e u3 ⟨rfl, hb3⟩
    have hG3 := hG2.on hb3
    refine ⟨.int .i64 z, rfl, hG3, ?_⟩
    refine held_callX (i := 11) (o := { dst := some 27, op := Op.call { callee := Callee.value (Operand.func 11), args := #[Operand.tmp 25, Operand.tmp 26], argTypes := #[23, 23] }, type := 3, pos := "law.go:24", after := #[{ on := 9, ground := Ground.data }, { on := 10, ground := Ground.data }, { on := 8, ground := Ground.chain }, { on := 5, ground := Ground.guard }], guard := some (5, false) }) (F := 11) (vs := #[valV k n l, valV k' n' l']) (by kernel_rfl) (by kernel_rfl) (by kernel_rfl) (fun _ => by kernel_rfl) (C11 _) ?_
    rintro e u4 ⟨rfl, hb4⟩
    have hG4 := hG3.on hb4
    refine ⟨.int .i64 z, rfl, hG4, ?_⟩
    refine held_take (i := 12) (o := { dst := some 28, op := Op.binOp BinOp.neq 3 (Operand.tmp 24) (Operand.tmp 27) 3, type := 4, pos := "law.go:24", after := #[{ on := 8, ground := Ground.data }, { on := 11, ground := Ground.data }, { on := 5, ground := Ground.guard }], guard := some (5, false) }) (v := .bool false) (by kernel_rfl) (by kernel_rfl) (by kernel_rfl) (by kernel_rfl) (fun _ _ _ h => h) (by kernel_rfl) (fun W _ => exec_bin rfl (by kernel_rfl) (by kernel_rfl) (fun _ => by kernel_rfl) (neqi_same z) W) hG4 ?_
    refine held_take (i := 13) (o := { dst := some 29, op := Op.pick (Operand.tmp 21) (Operand.const (Value.bool true)) (Operand.tmp 28), type := 4, pos := "law.go:24", after := #[{ on := 5, ground := Ground.data }, { on := 12, ground := Ground.data }], guard := none }) (v := .bool false) (by kernel_rfl) (by kernel_rfl) (by kernel_rfl) (by kernel_rfl) (fun _ _ _ h => h) (by kernel_rfl) (fun _ _ => by kernel_rfl) hG4 ?_
    refine wpAnyH_done (by kernel_rfl) ?_ _
    simp only [Act.put, List.setIfInBounds_toArray, List.set_cons_zero, List.set_cons_succ]
    go_wp2_with fail
    refine wp_region_held_drew (S := fun W => TS w k n l k' n' l' W) (by kernel_rfl) (hG4.on (Below.refl _ _).drew) (fun hH0 => ?_)
    refine held_take (i := 0) (o := { dst := some 30, op := Op.load 23 (Operand.tmp 2), type := 23, pos := "law.go:27", after := #[], guard := none }) (v := valV k n l) (by kernel_rfl) (by kernel_rfl) (by kernel_rfl) (by kernel_rfl) (fun _ _ _ h => h) (by kernel_rfl) (fun _ h => exec_ldV rfl (by kernel_rfl) h.a) hH0 ?_
    refine held_callX (i := 1) (o := { dst := some 31, op := Op.call { callee := Callee.value (Operand.func 9), args := #[Operand.tmp 30], argTypes := #[23] }, type := 4, pos := "law.go:27", after := #[{ on := 0, ground := Ground.data }], guard := none }) (F := 9) (vs := #[valV k n l]) (by kernel_rfl) (by kernel_rfl) (by kernel_rfl) (fun _ => by kernel_rfl) (C9 _) ?_
    rintro e w1 ⟨rfl, hb1⟩
    have hH1 := hH0.on hb1
    refine ⟨.bool true, rfl, hH1, ?_⟩
    refine held_take (i := 2) (o := { dst := some 32, op := Op.unOp UnOp.not 4 (Operand.tmp 31), type := 4, pos := "law.go:27", after := #[{ on := 1, ground := Ground.data }], guard := none }) (v := .bool false) (by kernel_rfl) (by kernel_rfl) (by kernel_rfl) (by kernel_rfl) (fun _ _ _ h => h) (by kernel_rfl) (fun W _ => exec_un rfl (by kernel_rfl) (not_of true) W) hH1 ?_
    refine held_take (i := 3) (o := { dst := some 33, op := Op.move (Operand.tmp 32), type := 4, pos := "law.go:27", after := #[{ on := 2, ground := Ground.data }, { on := 1, ground := Ground.chain }], guard := none }) (v := .bool false) (by kernel_rfl) (by kernel_rfl) (by kernel_rfl) (by kernel_rfl) (fun _ _ _ h => h) (by kernel_rfl) (fun _ _ => by kernel_rfl) hH1 ?_
    refine held_take (i := 4) (o := { dst := some 34, op := Op.load 23 (Operand.tmp 2), type := 23, pos := "law.go:27", after := #[{ on := 3, ground := Ground.guard }], guard := some (3, false) }) (v := valV k n l) (by kernel_rfl) (by kernel_rfl) (by kernel_rfl) (by kernel_rfl) (fun _ _ _ h => h) (by kernel_rfl) (fun _ h => exec_ldV rfl (by kernel_rfl) h.a) hH1 ?_
    refine held_take (i := 6) (o := { dst := some 36, op := Op.load 23 (Operand.tmp 2), type := 23, pos := "law.go:27", after := #[{ on := 3, ground := Ground.guard }], guard := some (3, false) }) (v := valV k n l) (by kernel_rfl) (by kernel_rfl) (by kernel_rfl) (by kernel_rfl) (fun _ _ _ h => h) (by kernel_rfl) (fun _ h => exec_ldV rfl (by kernel_rfl) h.a) hH1 ?_
    refine held_callX (i := 5) (o := { dst := some 35, op := Op.call { callee := Callee.value (Operand.func 12), args := #[Operand.tmp 34], argTypes := #[23] }, type := 9, pos := "law.go:27", after := #[{ on := 4, ground := Ground.data }, { on := 3, ground := Ground.chain }, { on := 3, ground := Ground.guard }], guard := some (3, false) }) (F := 12) (vs := #[valV k n l]) (by kernel_rfl) (by kernel_rfl) (by kernel_rfl) (fun _ => by kernel_rfl) (C12 _ hH1.keeps) ?_
    rintro e w2 ⟨rfl, hb2⟩
    have hH2 := hH1.on hb2
    refine ⟨.string ⟨tx.toArray⟩, rfl, hH2, ?_⟩
    refine held_callX (i := 7) (o := { dst := some 37, op := Op.call { callee := Callee.value (Operand.func 13), args := #[Operand.tmp 36], argTypes := #[23] }, type := 9, pos := "law.go:27", after := #[{ on := 6, ground := Ground.data }, { on := 5, ground := Ground.chain }, { on := 3, ground := Ground.guard }], guard := some (3, false) }) (F := 13) (vs := #[valV k n l]) (by kernel_rfl) (by kernel_rfl) (by kernel_rfl) (fun _ => by kernel_rfl) (C13 _) ?_
    rintro e w3 ⟨rfl, hb3⟩
    have hH3 := hH2.on hb3
    refine ⟨.string ⟨tx.toArray⟩, rfl, hH3, ?_⟩
    refine held_take (i := 8) (o := { dst := some 38, op := Op.binOp BinOp.eql 9 (Operand.tmp 35) (Operand.tmp 37) 9, type := 4, pos := "law.go:27", after := #[{ on := 5, ground := Ground.data }, { on := 7, ground := Ground.data }, { on := 3, ground := Ground.guard }], guard := some (3, false) }) (v := .bool true) (by kernel_rfl) (by kernel_rfl) (by kernel_rfl) (by kernel_rfl) (fun _ _ _ h => h) (by kernel_rfl) (fun W _ => exec_bin rfl (by kernel_rfl) (by kernel_rfl) (fun _ => by kernel_rfl) (eqs_same (⟨tx.toArray⟩)) W) hH3 ?_
    refine held_take (i := 9) (o := { dst := some 39, op := Op.move (Operand.tmp 38), type := 4, pos := "law.go:27", after := #[{ on := 8, ground := Ground.data }, { on := 7, ground := Ground.chain }, { on := 3, ground := Ground.guard }], guard := some (3, false) }) (v := .bool true) (by kernel_rfl) (by kernel_rfl) (by kernel_rfl) (by kernel_rfl) (fun _ _ _ h => h) (by kernel_rfl) (fun _ _ => by kernel_rfl) hH3 ?_
    refine held_take (i := 10) (o := { dst := some 40, op := Op.load 23 (Operand.tmp 2), type := 23, pos := "law.go:27", after := #[{ on := 9, ground := Ground.guard }], guard := some (9, true) }) (v := valV k n l) (by kernel_rfl) (by kernel_rfl) (by kernel_rfl) (by kernel_rfl) (fun _ _ _ h => h) (by kernel_rfl) (fun _ h => exec_ldV rfl (by kernel_rfl) h.a) hH3 ?_
    refine held_take (i := 12) (o := { dst := some 42, op := Op.load 23 (Operand.tmp 2), type := 23, pos := "law.go:27", after := #[{ on := 9, ground := Ground.guard }], guard := some (9, true) }) (v := valV k n l) (by kernel_rfl) (by kernel_rfl) (by kernel_rfl) (by kernel_rfl) (fun _ _ _ h => h) (by kernel_rfl) (fun _ h => exec_ldV rfl (by kernel_rfl) h.a) hH3 ?_
    refine held_callX (i := 11) (o := { dst := some 41, op := Op.call { callee := Callee.value (Operand.func 14), args := #[Operand.tmp 40], argTypes := #[23] }, type := 9, pos := "law.go:27", after := #[{ on := 10, ground := Ground.data }, { on := 9, ground := Ground.chain }, { on := 9, ground := Ground.guard }], guard := some (9, true) }) (F := 14) (vs := #[valV k n l]) (by kernel_rfl) (by kernel_rfl) (by kernel_rfl) (fun _ => by kernel_rfl) (C14 _) ?_
    rintro e w4 ⟨rfl, hb4⟩
    have hH4 := hH3.on hb4
    refine ⟨.string ⟨cd.toArray⟩, rfl, hH4, ?_⟩
    refine held_callX (i := 13) (o := { dst := some 43, op := Op.call { callee := Callee.value (Operand.func 15), args := #[Operand.tmp 42], argTypes := #[23] }, type := 9, pos := "law.go:27", after := #[{ on := 12, ground := Ground.data }, { on := 11, ground := Ground.chain }, { on := 9, ground := Ground.guard }], guard := some (9, true) }) (F := 15) (vs := #[valV k n l]) (by kernel_rfl) (by kernel_rfl) (by kernel_rfl) (fun _ => by kernel_rfl) (C15 _) ?_
    rintro e w5 ⟨rfl, hb5⟩
    have hH5 := hH4.on hb5
    refine ⟨.string ⟨cd.toArray⟩, rfl, hH5, ?_⟩
    refine held_take (i := 14) (o := { dst := some 44, op := Op.binOp BinOp.eql 9 (Operand.tmp 41) (Operand.tmp 43) 9, type := 4, pos := "law.go:27", after := #[{ on := 11, ground := Ground.data }, { on := 13, ground := Ground.data }, { on := 9, ground := Ground.guard }], guard := some (9, true) }) (v := .bool true) (by kernel_rfl) (by kernel_rfl) (by kernel_rfl) (by kernel_rfl) (fun _ _ _ h => h) (by kernel_rfl) (fun W _ => exec_bin rfl (by kernel_rfl) (by kernel_rfl) (fun _ => by kernel_rfl) (eqs_same (⟨cd.toArray⟩)) W) hH5 ?_
    refine held_take (i := 15) (o := { dst := some 45, op := Op.pick (Operand.tmp 39) (Operand.tmp 44) (Operand.const (Value.bool false)), type := 4, pos := "law.go:27", after := #[{ on := 9, ground := Ground.data }, { on := 14, ground := Ground.data }, { on := 3, ground := Ground.guard }], guard := some (3, false) }) (v := .bool true) (by kernel_rfl) (by kernel_rfl) (by kernel_rfl) (by kernel_rfl) (fun _ _ _ h => h) (by kernel_rfl) (fun _ _ => by kernel_rfl) hH5 ?_
    refine held_take (i := 16) (o := { dst := some 46, op := Op.pick (Operand.tmp 33) (Operand.const (Value.bool true)) (Operand.tmp 45), type := 4, pos := "law.go:27", after := #[{ on := 3, ground := Ground.data }, { on := 15, ground := Ground.data }], guard := none }) (v := .bool true) (by kernel_rfl) (by kernel_rfl) (by kernel_rfl) (by kernel_rfl) (fun _ _ _ h => h) (by kernel_rfl) (fun _ _ => by kernel_rfl) hH5 ?_
    refine held_take (i := 17) (o := { dst := some 47, op := Op.move (Operand.tmp 46), type := 4, pos := "law.go:27", after := #[{ on := 16, ground := Ground.data }, { on := 13, ground := Ground.chain }], guard := none }) (v := .bool true) (by kernel_rfl) (by kernel_rfl) (by kernel_rfl) (by kernel_rfl) (fun _ _ _ h => h) (by kernel_rfl) (fun _ _ => by kernel_rfl) hH5 ?_
    refine held_callX (i := 18) (o := { dst := some 48, op := Op.call { callee := Callee.value (Operand.func 7), args := #[], argTypes := #[] }, type := 4, pos := "law.go:27", after := #[{ on := 17, ground := Ground.chain }, { on := 17, ground := Ground.guard }], guard := some (17, true) }) (F := 7) (vs := #[]) (by kernel_rfl) (by kernel_rfl) (by kernel_rfl) (fun _ => by kernel_rfl) (awake_any _ hH5.keeps) ?_
    rintro e w6 ⟨rfl, hb6⟩
    have hH6 := hH5.on hb6
    refine ⟨.bool true, rfl, hH6, ?_⟩
    refine held_take (i := 19) (o := { dst := some 49, op := Op.pick (Operand.tmp 47) (Operand.tmp 48) (Operand.const (Value.bool false)), type := 4, pos := "law.go:27", after := #[{ on := 17, ground := Ground.data }, { on := 18, ground := Ground.data }], guard := none }) (v := .bool true) (by kernel_rfl) (by kernel_rfl) (by kernel_rfl) (by kernel_rfl) (fun _ _ _ h => h) (by kernel_rfl) (fun _ _ => by kernel_rfl) hH6 ?_
    refine held_do (i := 20) (o := { dst := some 4, op := Op.assign (Operand.tmp 49), type := 4, pos := "law.go:27", after := #[{ on := 19, ground := Ground.data }, { on := 18, ground := Ground.chain }, { on := 0, ground := Ground.phase }, { on := 1, ground := Ground.phase }, { on := 2, ground := Ground.phase }, { on := 3, ground := Ground.phase }, { on := 4, ground := Ground.phase }, { on := 5, ground := Ground.phase }, { on := 6, ground := Ground.phase }, { on := 7, ground := Ground.phase }, { on := 8, ground := Ground.phase }, { on := 9, ground := Ground.phase }, { on := 10, ground := Ground.phase }, { on := 11, ground := Ground.phase }, { on := 12, ground := Ground.phase }, { on := 13, ground := Ground.phase }, { on := 14, ground := Ground.phase }, { on := 15, ground := Ground.phase }, { on := 16, ground := Ground.phase }, { on := 17, ground := Ground.phase }, { on := 18, ground := Ground.phase }, { on := 19, ground := Ground.phase }], guard := none }) (v := .bool true) (by kernel_rfl) (by kernel_rfl) (by kernel_rfl) (by kernel_rfl) hH6 ?_
    refine wpAnyH_done (by kernel_rfl) ?_ _
    simp only [Act.put, List.setIfInBounds_toArray, List.set_cons_zero, List.set_cons_succ]
    go_wp2
    go_ret
    exact ⟨rfl, hH6.below⟩
end Go.Proofs.YthphoclfoejbfaaDoor
