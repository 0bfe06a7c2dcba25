/- The walk of the statement ValueRow. -/
import Derived.Test.YthphoclfoejbfaaDoorAwake
import Derived.Test.YthphoclfoejbfaaDoorComp
namespace Go.Proofs.YthphoclfoejbfaaDoor
open Go.RowKit

/-- What holds while the law is walked. -/
structure RS (w : World) (k n : Int) (l : List UInt8) (k' n' : Int) (l' : List UInt8) (k2 n2 : Int) (l2 : List UInt8) (W : World) : Prop where
  a : VAt W w.heap.size k n l
  b : VAt W (w.heap.size + 1) k' n' l'
  c : VAt W (w.heap.size + 1 + 1) k2 n2 l2
  keeps : Keeps W
  below : Below w.heap.size w W
theorem RS.on {w : World} {k n : Int} {l : List UInt8} {k' n' : Int} {l' : List UInt8} {k2 n2 : Int} {l2 : List UInt8} {W W' : World} (h : RS w k n l k' n' l' k2 n2 l2 W) (hb : Below W.heap.size W W') : RS w k n l k' n' l' k2 n2 l2 W' :=
  ⟨h.a.on hb, h.b.on hb, h.c.on hb, h.keeps.on hb, bchain h.below hb⟩

set_option maxRecDepth 20000 in
set_option maxHeartbeats 4000000 in
theorem valueRow_walk (k n : Int) (l : List UInt8) (k' n' : Int) (l' : List UInt8) (k2 n2 : Int) (l2 : List UInt8) (w : World) (hk : Keeps w) :
    Calls Tryd.prog 6 #[valV k n l, valV k' n' l', valV k2 n2 l2] w fun e w' => e = .returned (.bool true) ∧ Below w.heap.size w w' := by
  have H0 : RS w k n l k' n' l' k2 n2 l2 (((w.alloc (valO k n l)).alloc (valO k' n' l')).alloc (valO k2 n2 l2)) := by
    have h := VAt.new3 w k n l k' n' l' k2 n2 l2
    have hb : Below w.heap.size w (((w.alloc (valO k n l)).alloc (valO k' n' l')).alloc (valO k2 n2 l2)) := bchain (below_new2 w _ _) (below_new _ _)
    exact ⟨h.1, h.2.1, h.2.2, hk.on hb, hb⟩
  by_cases hlen : 200 < l.length ∨ 200 < l'.length ∨ 200 < l2.length
  · have D : (200 : Int) < (l.length : Int) ∨ (¬ (200 : Int) < (l.length : Int) ∧ (200 : Int) < (l'.length : Int)) ∨ (¬ (200 : Int) < (l.length : Int) ∧ ¬ (200 : Int) < (l'.length : Int) ∧ (200 : Int) < (l2.length : Int)) := by omega
    clear hlen
    rcases D with d1 | ⟨d1, d2⟩ | ⟨d1, d2, d3⟩
    all_goals
      go_enter Tryd.func6, Tryd.ntmps6
      go_wp2_with (go_at_call 7; refine (awake_any _ H0.keeps).mono ?_; rintro e w1 ⟨rfl, hb1⟩)
      go_ret
      exact ⟨rfl, bchain H0.below hb1⟩
  have d1 : ¬ (200 : Int) < (l.length : Int) := by omega
  have d2 : ¬ (200 : Int) < (l'.length : Int) := by omega
  have d3 : ¬ (200 : Int) < (l2.length : Int) := by omega
  have Cab := comp_any k n l k' n' l'
  have Cbc := comp_any k' n' l' k2 n2 l2
  have Cac := comp_any k n l k2 n2 l2
  have Cba := comp_any k' n' l' k n l
  rw [Vl.comp_turn] at Cba
  have hz := Vl.comp_zero (k := k) (n := n) (l := l) (k' := k') (n' := n') (l' := l')
  have E : ∀ W, (binOp .eql 23 (valV k n l) (valV k' n' l')).run Tryd.prog W = .ok (.bool (Vl.comp k n l k' n' l' == 0)) W := fun W => by
    rw [eql_val]
    congr 2
    rw [Bool.eq_iff_iff, decide_eq_true_eq, beq_iff_eq]
    exact hz.symm
  have ht := Vl.comp_trans (k := k) (n := n) (l := l) (k' := k') (n' := n') (l' := l') (k'' := k2) (n'' := n2) (l'' := l2)
  have hc := Vl.comp_cases k n l k' n' l'
  generalize Vl.comp k n l k' n' l' = ab at *
  generalize Vl.comp k' n' l' k2 n2 l2 = bc at *
  generalize Vl.comp k n l k2 n2 l2 = ac at *
  have hw : IntKind.i64.wrap (-ab) = -ab := wrap_i64 (by omega) (by omega)
  have D : 0 < ab ∨ (¬ 0 < ab ∧ 0 < bc) ∨ (¬ 0 < ab ∧ ¬ 0 < bc ∧ ac ≤ 0) := by omega
  have lo : -1 ≤ ab := by omega
  have hi : ab ≤ 1 := by omega
  have eb : ((ab == 0) == (ab == 0)) = true := by simp
  clear hz ht hc hlen
  go_enter Tryd.func6, Tryd.ntmps6
  go_wp2_with fail
  refine wp_region_held_drew (S := fun W => RS w k n l k' n' l' k2 n2 l2 W) (by kernel_rfl) (H0.on (Below.refl _ _).drew) (fun hH0 => ?_)
  refine held_take (i := 0) (o := { dst := some 27, op := Op.load 23 (Operand.tmp 3), type := 23, pos := "law.go:73", after := #[], guard := none }) (v := valV k n l) (by kernel_rfl) (by kernel_rfl) (by kernel_rfl) (by kernel_rfl) (fun _ _ _ h => h) (by kernel_rfl) (fun _ h => exec_ldV rfl (by kernel_rfl) h.a) hH0 ?_
  refine held_take (i := 1) (o := { dst := some 28, op := Op.load 23 (Operand.tmp 4), type := 23, pos := "law.go:73", after := #[], guard := none }) (v := valV k' n' l') (by kernel_rfl) (by kernel_rfl) (by kernel_rfl) (by kernel_rfl) (fun _ _ _ h => h) (by kernel_rfl) (fun _ h => exec_ldV rfl (by kernel_rfl) h.b) hH0 ?_
  refine held_take (i := 3) (o := { dst := some 30, op := Op.load 23 (Operand.tmp 4), type := 23, pos := "law.go:73", after := #[], guard := none }) (v := valV k' n' l') (by kernel_rfl) (by kernel_rfl) (by kernel_rfl) (by kernel_rfl) (fun _ _ _ h => h) (by kernel_rfl) (fun _ h => exec_ldV rfl (by kernel_rfl) h.b) hH0 ?_
  refine held_take (i := 4) (o := { dst := some 31, op := Op.load 23 (Operand.tmp 5), type := 23, pos := "law.go:73", after := #[], guard := none }) (v := valV k2 n2 l2) (by kernel_rfl) (by kernel_rfl) (by kernel_rfl) (by kernel_rfl) (fun _ _ _ h => h) (by kernel_rfl) (fun _ h => exec_ldV rfl (by kernel_rfl) h.c) hH0 ?_
  refine held_take (i := 6) (o := { dst := some 33, op := Op.load 23 (Operand.tmp 3), type := 23, pos := "law.go:73", after := #[], guard := none }) (v := valV k n l) (by kernel_rfl) (by kernel_rfl) (by kernel_rfl) (by kernel_rfl) (fun _ _ _ h => h) (by kernel_rfl) (fun _ h => exec_ldV rfl (by kernel_rfl) h.a) hH0 ?_
  refine held_take (i := 7) (o := { dst := some 34, op := Op.load 23 (Operand.tmp 5), type := 23, pos := "law.go:73", after := #[], guard := none }) (v := valV k2 n2 l2) (by kernel_rfl) (by kernel_rfl) (by kernel_rfl) (by kernel_rfl) (fun _ _ _ h => h) (by kernel_rfl) (fun _ h => exec_ldV rfl (by kernel_rfl) h.c) hH0 ?_
  refine held_callX (i := 2) (o := { dst := some 29, op := Op.call { callee := Callee.value (Operand.func 10), args := #[Operand.tmp 27, Operand.tmp 28], argTypes := #[23, 23] }, type := 3, pos := "law.go:73", after := #[{ on := 0, ground := Ground.data }, { on := 1, ground := Ground.data }], guard := none }) (F := 10) (vs := #[valV k n l, valV k' n' l']) (by kernel_rfl) (by kernel_rfl) (by kernel_rfl) (fun _ => by kernel_rfl) (Cab _) ?_
  rintro e w1 ⟨rfl, hb1⟩
  have hH1 := hH0.on hb1
  refine ⟨.int .i64 ab, rfl, hH1, ?_⟩
  refine held_callX (i := 5) (o := { dst := some 32, op := Op.call { callee := Callee.value (Operand.func 10), args := #[Operand.tmp 30, Operand.tmp 31], argTypes := #[23, 23] }, type := 3, pos := "law.go:73", after := #[{ on := 3, ground := Ground.data }, { on := 4, ground := Ground.data }, { on := 2, ground := Ground.chain }], guard := none }) (F := 10) (vs := #[valV k' n' l', valV k2 n2 l2]) (by kernel_rfl) (by kernel_rfl) (by kernel_rfl) (fun _ => by kernel_rfl) (Cbc _) ?_
  rintro e w2 ⟨rfl, hb2⟩
  have hH2 := hH1.on hb2
  refine ⟨.int .i64 bc, rfl, hH2, ?_⟩
  refine held_callX (i := 8) (o := { dst := some 35, op := Op.call { callee := Callee.value (Operand.func 10), args := #[Operand.tmp 33, Operand.tmp 34], argTypes := #[23, 23] }, type := 3, pos := "law.go:73", after := #[{ on := 6, ground := Ground.data }, { on := 7, ground := Ground.data }, { on := 5, ground := Ground.chain }], guard := none }) (F := 10) (vs := #[valV k n l, valV k2 n2 l2]) (by kernel_rfl) (by kernel_rfl) (by kernel_rfl) (fun _ => by kernel_rfl) (Cac _) ?_
  rintro e w3 ⟨rfl, hb3⟩
  have hH3 := hH2.on hb3
  refine ⟨.int .i64 ac, rfl, hH3, ?_⟩
  refine held_do (i := 9) (o := { dst := some 7, op := Op.assign (Operand.tmp 29), type := 3, pos := "law.go:73", after := #[{ on := 2, ground := Ground.data }, { on := 8, ground := Ground.chain }, { on := 0, ground := Ground.phase }, { on := 1, ground := Ground.phase }, { on := 2, ground := Ground.phase }, { on := 3, ground := Ground.textOnly Departure.lateStores }, { on := 4, ground := Ground.textOnly Departure.lateStores }, { on := 5, ground := Ground.textOnly Departure.lateStoresUnsure }, { on := 6, ground := Ground.textOnly Departure.lateStores }, { on := 7, ground := Ground.textOnly Departure.lateStores }, { on := 8, ground := Ground.textOnly Departure.lateStoresUnsure }], guard := none }) (v := .int .i64 ab) (by kernel_rfl) (by kernel_rfl) (by kernel_rfl) (by kernel_rfl) hH3 ?_
  refine held_do (i := 10) (o := { dst := some 8, op := Op.assign (Operand.tmp 32), type := 3, pos := "law.go:73", after := #[{ on := 5, ground := Ground.data }, { on := 9, ground := Ground.chain }, { on := 0, ground := Ground.phase }, { on := 1, ground := Ground.phase }, { on := 2, ground := Ground.phase }, { on := 3, ground := Ground.phase }, { on := 4, ground := Ground.phase }, { on := 5, ground := Ground.phase }, { on := 6, ground := Ground.textOnly Departure.lateStores }, { on := 7, ground := Ground.textOnly Departure.lateStores }, { on := 8, ground := Ground.textOnly Departure.lateStoresUnsure }, { on := 9, ground := Ground.phase }], guard := none }) (v := .int .i64 bc) (by kernel_rfl) (by kernel_rfl) (by kernel_rfl) (by kernel_rfl) hH3 ?_
  refine held_do (i := 11) (o := { dst := some 9, op := Op.assign (Operand.tmp 35), type := 3, pos := "law.go:73", after := #[{ on := 8, ground := Ground.data }, { on := 10, ground := Ground.chain }, { on := 0, ground := Ground.phase }, { on := 1, ground := Ground.phase }, { on := 2, ground := Ground.phase }, { on := 3, ground := Ground.phase }, { on := 4, ground := Ground.phase }, { on := 5, ground := Ground.phase }, { on := 6, ground := Ground.phase }, { on := 7, ground := Ground.phase }, { on := 8, ground := Ground.phase }, { on := 9, ground := Ground.phase }, { on := 10, ground := Ground.phase }], guard := none }) (v := .int .i64 ac) (by kernel_rfl) (by kernel_rfl) (by kernel_rfl) (by kernel_rfl) hH3 ?_
  refine wpAnyH_done (by kernel_rfl) ?_ _
  simp only [Act.put, List.setIfInBounds_toArray, List.set_cons_zero, List.set_cons_succ]
  have c0 := hH3.a.c0
  have c1 := hH3.a.c1
  have c2 := hH3.a.c2
  have b0 := hH3.b.c0
  have b1 := hH3.b.c1
  have b2 := hH3.b.c2
  rcases D with D1 | ⟨D1, D2⟩ | ⟨D1, D2, D3⟩
  all_goals
    go_wp2_with (first
      | (go_at_call 10; (with_reducible refine (Cba w3).mono ?_); rintro e w4 ⟨rfl, hb4⟩; have H4 := hH3.on hb4; have c0 := H4.a.c0; have c1 := H4.a.c1; have c2 := H4.a.c2; have b0 := H4.b.c0; have b1 := H4.b.c1; have b2 := H4.b.c2)
      | (go_at_call 7; (with_reducible refine (awake_any w4 H4.keeps).mono ?_); rintro e w5 ⟨rfl, hb5⟩))
    go_ret
    exact ⟨rfl, bchain H4.below hb5⟩
end Go.Proofs.YthphoclfoejbfaaDoor
