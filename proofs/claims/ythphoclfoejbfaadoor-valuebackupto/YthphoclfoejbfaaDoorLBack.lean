/- The walk of the statement ValueBack, at texts of bounded length. -/
import Derived.Test.YthphoclfoejbfaaDoorRead
import Derived.Test.YthphoclfoejbfaaDoorLTells
namespace Go.Proofs.YthphoclfoejbfaaDoor
open Go.RowKit

theorem end_ok {w : World} {b : Nat} (h : Rd w b [] 0) : Calls Tryd.prog 20 #[.pointer (some ⟨b, 0, none⟩)] w fun e w' => e = .returned (.int .i64 0) ∧ Below w.heap.size w w' := by
  go_enter Tryd.func20, Tryd.ntmps20
  go_wp2_with fail
  refine (left_rd h).mono ?_
  rintro e w' ⟨rfl, rfl⟩
  rw [if_pos rfl]
  go_wp2_with fail
  refine (fault_rd h).mono ?_
  rintro e w' ⟨rfl, rfl⟩
  go_wp2
  go_ret
  exact ⟨rfl, Below.refl _ _⟩
theorem eqE (w : World) : (binOp .eql 29 (.int .i64 0) (.int .i64 0)).run Tryd.prog w = .ok (.bool true) w := by go_simp
theorem eqv_same (k n : Int) (l : List UInt8) (w : World) : (binOp .eql 23 (valV k n l) (valV k n l)).run Tryd.prog w = .ok (.bool true) w := by rw [eql_val]; simp
theorem open_list (l : List UInt8) (w : World) : Calls Tryd.prog 18 #[.string ⟨l.toArray⟩] w fun e w' => ∃ b, e = .returned (.pointer (some ⟨b, 0, none⟩)) ∧ w.heap.size ≤ b ∧ Rd w' b l 0 ∧ Below w.heap.size w w' := open_rd ⟨l.toArray⟩ w

/-- What holds while the last statement is told: both values, what was parsed, what was read, the reader. -/
structure BS (w : World) (k n : Int) (l : List UInt8) (k' n' : Int) (l' : List UInt8) (bx br bz : Nat) (W : World) : Prop where
  a : VAt W w.heap.size k n l
  b : VAt W (w.heap.size + 1) k' n' l'
  x : VAt W bx k n l
  z : VAt W bz k n l
  rd : Rd W br [] 0
  keeps : Keeps W
  below : Below w.heap.size w W
theorem BS.on {w : World} {k n : Int} {l : List UInt8} {k' n' : Int} {l' : List UInt8} {bx br bz : Nat} {W W' : World} (h : BS w k n l k' n' l' bx br bz W) (hb : Below W.heap.size W W') : BS w k n l k' n' l' bx br bz W' :=
  ⟨h.a.on hb, h.b.on hb, h.x.on hb, h.z.on hb, h.rd.on hb, h.keeps.on hb, bchain h.below hb⟩

set_option maxRecDepth 20000 in
set_option maxHeartbeats 4000000 in
theorem valueBack_walk (k n : Int) (l : List UInt8) (k' n' : Int) (l' : List UInt8) (w : World) (hk : Keeps w) (hl : l.length ≤ 2000000) (hl' : l'.length ≤ 2000000) :
    Calls Tryd.prog 5 #[valV k n l, valV k' n' l'] w fun e w' => e = .returned (.bool true) ∧ Below w.heap.size w w' := by
  have H0 := TS.start w k n l k' n' l' hk
  have C9a := fun w => refRight_any k n l w hl
  have C9b := fun w => refRight_any k' n' l' w hl'
  cases hr : Vl.right k n l with
  | false =>
    rw [hr] at C9a
    clear hr C9b
    go_enter Tryd.func5, Tryd.ntmps5
    go_wp2_with (first
      | (go_at_call 9; (with_reducible refine (C9a _).mono ?_); rintro e w1 ⟨rfl, hb1⟩; have H1 := H0.on hb1)
      | (go_at_call 7; (with_reducible refine (awake_any w1 H1.keeps).mono ?_); rintro e w2 ⟨rfl, hb2⟩))
    go_ret
    exact ⟨rfl, bchain H1.below hb2⟩
  | true =>
    rw [hr] at C9a
    have hR := Vl.right_iff.1 hr
    cases hr' : Vl.right k' n' l' with
    | false =>
      rw [hr'] at C9b
      clear hr hr' hR
      go_enter Tryd.func5, Tryd.ntmps5
      go_wp2_with (first
        | (go_at_call 9; first | ((with_reducible refine (C9b w1).mono ?_); rintro e w2 ⟨rfl, hb2⟩; have H2 := H1.on hb2) | ((with_reducible refine (C9a _).mono ?_); rintro e w1 ⟨rfl, hb1⟩; have H1 := H0.on hb1; have c0 := H1.b.c0; have c1 := H1.b.c1; have c2 := H1.b.c2))
        | (go_at_call 7; (with_reducible refine (awake_any w2 H2.keeps).mono ?_); rintro e w3 ⟨rfl, hb3⟩))
      go_ret
      exact ⟨rfl, bchain H2.below hb3⟩
    | true =>
      rw [hr'] at C9b
      have hR' := Vl.right_iff.1 hr'
      have htl := Vl.text_len hR
      have C12a := fun w hk => text_right k n l w hk hR
      have C12b := fun w hk => text_right k' n' l' w hk hR'
      have C16 := fun w hk => parse_some (Vl.text k n l) k n l w hk (by omega) (Vl.pars_yes hR)
      have C14 := fun w => code_right k n l w hR
      have hcl : (Vl.code k n l).length ≤ 1000000 := by
        have h1 := hR.len; have h2 := hR.kind; have h3 := hR.amount
        have h4 := Vl.fold_le h3.1 h3.2
        have e1 := Pk.enc_len9 (n := k.toNat) (by omega)
        have e2 := Pk.enc_len9 (n := l.length) (by omega)
        have e3 := Pk.enc_len9 (n := (Vl.fold n).toNat) (by omega)
        unfold Vl.code
        rw [List.length_append]
        split
        · rw [List.length_append]; omega
        · omega
      have C18 := open_list (Vl.code k n l)
      have C19 : ∀ (W : World) (b : Nat), Rd W b (Vl.code k n l) 0 → Calls Tryd.prog 19 #[.pointer (some ⟨b, 0, none⟩)] W fun e w' => e = .returned (valV k n l) ∧ Rd w' b [] 0 ∧ But b W w' := fun W b h => read_ok (rest := []) hR (by rw [List.append_nil]; exact h) (by rw [List.append_nil]; exact hcl)
      have E54 : ∀ W, (binOp .eql 23 (valV k n l) (valV k' n' l')).run Tryd.prog W = .ok (.bool (decide (Vl.text k n l = Vl.text k' n' l'))) W := fun W => by
        rw [eql_val]
        congr 2
        rw [Bool.eq_iff_iff, decide_eq_true_eq, decide_eq_true_eq]
        exact ⟨fun ⟨h1, h2, h3⟩ => by rw [h1, h2, h3], fun h => Vl.text_inj hR hR' h⟩
      have E51 := eqs_val (Vl.text k n l) (Vl.text k' n' l')
      generalize Vl.code k n l = cd at *
      generalize decide (Vl.text k n l = Vl.text k' n' l') = q at *
      generalize Vl.text k n l = tx at *
      generalize Vl.text k' n' l' = ty at *
      clear hr hr' hR hR' htl hcl
      go_enter Tryd.func5, Tryd.ntmps5
      go_wp2_with (first
        | (go_at_call 9; first | ((with_reducible refine (C9b w1).mono ?_); rintro e w2 ⟨rfl, hb2⟩; have H2 := H1.on hb2; have c0 := H2.a.c0; have c1 := H2.a.c1; have c2 := H2.a.c2) | ((with_reducible refine (C9a _).mono ?_); rintro e w1 ⟨rfl, hb1⟩; have H1 := H0.on hb1; have c0 := H1.b.c0; have c1 := H1.b.c1; have c2 := H1.b.c2))
        | (go_at_call 12; (with_reducible refine (C12a w2 H2.keeps).mono ?_); rintro e w3 ⟨rfl, hb3⟩; have H3 := H2.on hb3)
        | (go_at_call 16; (with_reducible refine (C16 w3 H3.keeps).mono ?_); rintro e w4 ⟨rfl, hb4⟩; have H4 := (H3.on hb4).on (below_new w4 (valO k n l)); have X4 := VAt.new w4 k n l; have c0 := H4.a.c0; have c1 := H4.a.c1; have c2 := H4.a.c2)
        | (go_at_call 14; (refine (C14 _).mono ?_); rintro e w5 ⟨rfl, hb5⟩; have H5 := H4.on hb5; have X5 := X4.on hb5)
        | (go_at_call 18; (with_reducible refine (C18 w5).mono ?_); rintro e w6 ⟨br, rfl, hbr, hrd, hb6⟩; have H6 := H5.on hb6; have X6 := X5.on hb6)
        | (go_at_call 19; (with_reducible refine (C19 w6 br hrd).mono ?_); rintro e w7 ⟨rfl, hrd7, hb7⟩))
      have la := H5.a.lt
      have lb := H5.b.lt
      have lx := X5.lt
      have s0 := H5.below.size
      have s6 := hb6.size
      have H7 : BS w k n l k' n' l' w4.heap.size br w7.heap.size (w7.alloc (valO k n l)) := by
        have hB : Below w.heap.size w w7 := H6.below.trans (hb7.below (by omega) (by omega))
        have hB' := bchain hB (below_new w7 (valO k n l))
        exact ⟨(H6.a.but hb7 (by omega)).on (below_new _ _), (H6.b.but hb7 (by omega)).on (below_new _ _), (X6.but hb7 (by omega)).on (below_new _ _), VAt.new w7 k n l, hrd7.new _, hk.on hB', hB'⟩
      clear H0 H1 H2 H3 H4 H5 H6 X4 X5 X6 hb1 hb2 hb3 hb4 hb5 hb6 hb7 C9a C9b C16 C14 C18 C19 hrd hrd7 la lb lx s0 s6
      refine wp_region_held_drew (S := fun W => BS w k n l k' n' l' w4.heap.size br w7.heap.size W) (by kernel_rfl) (H7.on (Below.refl _ _).drew) (fun hH0 => ?_)
      refine held_take (i := 0) (o := { dst := some 29, op := Op.move (Operand.tmp 6), type := 29, pos := "law.go:65", after := #[], guard := none }) (v := .int .i64 0) (by kernel_rfl) (by kernel_rfl) (by kernel_rfl) (by kernel_rfl) (fun _ _ _ h => h) (by kernel_rfl) (fun _ _ => by kernel_rfl) hH0 ?_
      refine held_take (i := 1) (o := { dst := some 30, op := Op.binOp BinOp.eql 29 (Operand.tmp 29) (Operand.const (Value.int IntKind.i64 0)) 29, type := 4, pos := "law.go:65", after := #[{ on := 0, ground := Ground.data }], guard := none }) (v := .bool true) (by kernel_rfl) (by kernel_rfl) (by kernel_rfl) (by kernel_rfl) (fun _ _ _ h => h) (by kernel_rfl) (fun W _ => exec_bin rfl (by kernel_rfl) (by kernel_rfl) (fun _ => by kernel_rfl) (eqE) W) hH0 ?_
      refine held_take (i := 2) (o := { dst := some 31, op := Op.move (Operand.tmp 30), type := 4, pos := "law.go:65", after := #[{ on := 1, ground := Ground.data }], guard := none }) (v := .bool true) (by kernel_rfl) (by kernel_rfl) (by kernel_rfl) (by kernel_rfl) (fun _ _ _ h => h) (by kernel_rfl) (fun _ _ => by kernel_rfl) hH0 ?_
      refine held_take (i := 3) (o := { dst := some 32, op := Op.load 23 (Operand.tmp 5), type := 23, pos := "law.go:65", after := #[{ on := 2, ground := Ground.guard }], guard := some (2, true) }) (v := valV k n l) (by kernel_rfl) (by kernel_rfl) (by kernel_rfl) (by kernel_rfl) (fun _ _ _ h => h) (by kernel_rfl) (fun _ h => exec_ldV rfl (by kernel_rfl) h.x) hH0 ?_
      refine held_take (i := 4) (o := { dst := some 33, op := Op.load 23 (Operand.tmp 2), type := 23, pos := "law.go:65", after := #[{ on := 2, ground := Ground.guard }], guard := some (2, true) }) (v := valV k n l) (by kernel_rfl) (by kernel_rfl) (by kernel_rfl) (by kernel_rfl) (fun _ _ _ h => h) (by kernel_rfl) (fun _ h => exec_ldV rfl (by kernel_rfl) h.a) hH0 ?_
      refine held_take (i := 5) (o := { dst := some 34, op := Op.binOp BinOp.eql 23 (Operand.tmp 32) (Operand.tmp 33) 23, type := 4, pos := "law.go:65", after := #[{ on := 3, ground := Ground.data }, { on := 4, ground := Ground.data }, { on := 2, ground := Ground.guard }], guard := some (2, true) }) (v := .bool true) (by kernel_rfl) (by kernel_rfl) (by kernel_rfl) (by kernel_rfl) (fun _ _ _ h => h) (by kernel_rfl) (fun W _ => exec_bin rfl (by kernel_rfl) (by kernel_rfl) (fun _ => by kernel_rfl) (eqv_same k n l) W) hH0 ?_
      refine held_take (i := 6) (o := { dst := some 35, op := Op.pick (Operand.tmp 31) (Operand.tmp 34) (Operand.const (Value.bool false)), type := 4, pos := "law.go:65", after := #[{ on := 2, ground := Ground.data }, { on := 5, ground := Ground.data }], guard := none }) (v := .bool true) (by kernel_rfl) (by kernel_rfl) (by kernel_rfl) (by kernel_rfl) (fun _ _ _ h => h) (by kernel_rfl) (fun _ _ => by kernel_rfl) hH0 ?_
      refine held_take (i := 7) (o := { dst := some 36, op := Op.move (Operand.tmp 35), type := 4, pos := "law.go:65", after := #[{ on := 6, ground := Ground.data }, { on := 2, ground := Ground.chain }], guard := none }) (v := .bool true) (by kernel_rfl) (by kernel_rfl) (by kernel_rfl) (by kernel_rfl) (fun _ _ _ h => h) (by kernel_rfl) (fun _ _ => by kernel_rfl) hH0 ?_
      refine held_take (i := 8) (o := { dst := some 37, op := Op.load 23 (Operand.tmp 8), type := 23, pos := "law.go:65", after := #[{ on := 7, ground := Ground.guard }], guard := some (7, true) }) (v := valV k n l) (by kernel_rfl) (by kernel_rfl) (by kernel_rfl) (by kernel_rfl) (fun _ _ _ h => h) (by kernel_rfl) (fun _ h => exec_ldV rfl (by kernel_rfl) h.z) hH0 ?_
      refine held_take (i := 9) (o := { dst := some 38, op := Op.load 23 (Operand.tmp 2), type := 23, pos := "law.go:65", after := #[{ on := 7, ground := Ground.guard }], guard := some (7, true) }) (v := valV k n l) (by kernel_rfl) (by kernel_rfl) (by kernel_rfl) (by kernel_rfl) (fun _ _ _ h => h) (by kernel_rfl) (fun _ h => exec_ldV rfl (by kernel_rfl) h.a) hH0 ?_
      refine held_take (i := 10) (o := { dst := some 39, op := Op.binOp BinOp.eql 23 (Operand.tmp 37) (Operand.tmp 38) 23, type := 4, pos := "law.go:65", after := #[{ on := 8, ground := Ground.data }, { on := 9, ground := Ground.data }, { on := 7, ground := Ground.guard }], guard := some (7, true) }) (v := .bool true) (by kernel_rfl) (by kernel_rfl) (by kernel_rfl) (by kernel_rfl) (fun _ _ _ h => h) (by kernel_rfl) (fun W _ => exec_bin rfl (by kernel_rfl) (by kernel_rfl) (fun _ => by kernel_rfl) (eqv_same k n l) W) hH0 ?_
      refine held_take (i := 11) (o := { dst := some 40, op := Op.pick (Operand.tmp 36) (Operand.tmp 39) (Operand.const (Value.bool false)), type := 4, pos := "law.go:65", after := #[{ on := 7, ground := Ground.data }, { on := 10, ground := Ground.data }], guard := none }) (v := .bool true) (by kernel_rfl) (by kernel_rfl) (by kernel_rfl) (by kernel_rfl) (fun _ _ _ h => h) (by kernel_rfl) (fun _ _ => by kernel_rfl) hH0 ?_
      refine held_take (i := 12) (o := { dst := some 41, op := Op.move (Operand.tmp 40), type := 4, pos := "law.go:65", after := #[{ on := 11, ground := Ground.data }, { on := 7, ground := Ground.chain }], guard := none }) (v := .bool true) (by kernel_rfl) (by kernel_rfl) (by kernel_rfl) (by kernel_rfl) (fun _ _ _ h => h) (by kernel_rfl) (fun _ _ => by kernel_rfl) hH0 ?_
      refine held_take (i := 13) (o := { dst := some 42, op := Op.move (Operand.tmp 7), type := 35, pos := "law.go:65", after := #[{ on := 12, ground := Ground.guard }], guard := some (12, true) }) (v := .pointer (some ⟨br, 0, none⟩)) (by kernel_rfl) (by kernel_rfl) (by kernel_rfl) (by kernel_rfl) (fun _ _ _ h => h) (by kernel_rfl) (fun _ _ => by kernel_rfl) hH0 ?_
      refine held_callX (i := 14) (o := { dst := some 43, op := Op.call { callee := Callee.value (Operand.func 20), args := #[Operand.tmp 42], argTypes := #[35] }, type := 29, pos := "law.go:65", after := #[{ on := 13, ground := Ground.data }, { on := 12, ground := Ground.chain }, { on := 12, ground := Ground.guard }], guard := some (12, true) }) (F := 20) (vs := #[.pointer (some ⟨br, 0, none⟩)]) (by kernel_rfl) (by kernel_rfl) (by kernel_rfl) (fun _ => by kernel_rfl) (end_ok hH0.rd) ?_
      rintro e u1 ⟨rfl, hb1⟩
      have hH1 := hH0.on hb1
      refine ⟨.int .i64 0, rfl, hH1, ?_⟩
      refine held_take (i := 15) (o := { dst := some 44, op := Op.binOp BinOp.eql 29 (Operand.tmp 43) (Operand.const (Value.int IntKind.i64 0)) 29, type := 4, pos := "law.go:65", after := #[{ on := 14, ground := Ground.data }, { on := 12, ground := Ground.guard }], guard := some (12, true) }) (v := .bool true) (by kernel_rfl) (by kernel_rfl) (by kernel_rfl) (by kernel_rfl) (fun _ _ _ h => h) (by kernel_rfl) (fun W _ => exec_bin rfl (by kernel_rfl) (by kernel_rfl) (fun _ => by kernel_rfl) (eqE) W) hH1 ?_
      refine held_take (i := 16) (o := { dst := some 45, op := Op.pick (Operand.tmp 41) (Operand.tmp 44) (Operand.const (Value.bool false)), type := 4, pos := "law.go:65", after := #[{ on := 12, ground := Ground.data }, { on := 15, ground := Ground.data }], guard := none }) (v := .bool true) (by kernel_rfl) (by kernel_rfl) (by kernel_rfl) (by kernel_rfl) (fun _ _ _ h => h) (by kernel_rfl) (fun _ _ => by kernel_rfl) hH1 ?_
      refine held_take (i := 17) (o := { dst := some 46, op := Op.move (Operand.tmp 45), type := 4, pos := "law.go:65", after := #[{ on := 16, ground := Ground.data }, { on := 14, ground := Ground.chain }], guard := none }) (v := .bool true) (by kernel_rfl) (by kernel_rfl) (by kernel_rfl) (by kernel_rfl) (fun _ _ _ h => h) (by kernel_rfl) (fun _ _ => by kernel_rfl) hH1 ?_
      refine held_take (i := 18) (o := { dst := some 47, op := Op.load 23 (Operand.tmp 2), type := 23, pos := "law.go:65", after := #[{ on := 17, ground := Ground.guard }], guard := some (17, true) }) (v := valV k n l) (by kernel_rfl) (by kernel_rfl) (by kernel_rfl) (by kernel_rfl) (fun _ _ _ h => h) (by kernel_rfl) (fun _ h => exec_ldV rfl (by kernel_rfl) h.a) hH1 ?_
      refine held_take (i := 20) (o := { dst := some 49, op := Op.load 23 (Operand.tmp 3), type := 23, pos := "law.go:65", after := #[{ on := 17, ground := Ground.guard }], guard := some (17, true) }) (v := valV k' n' l') (by kernel_rfl) (by kernel_rfl) (by kernel_rfl) (by kernel_rfl) (fun _ _ _ h => h) (by kernel_rfl) (fun _ h => exec_ldV rfl (by kernel_rfl) h.b) hH1 ?_
      refine held_take (i := 23) (o := { dst := some 52, op := Op.load 23 (Operand.tmp 2), type := 23, pos := "law.go:65", after := #[{ on := 17, ground := Ground.guard }], guard := some (17, true) }) (v := valV k n l) (by kernel_rfl) (by kernel_rfl) (by kernel_rfl) (by kernel_rfl) (fun _ _ _ h => h) (by kernel_rfl) (fun _ h => exec_ldV rfl (by kernel_rfl) h.a) hH1 ?_
      refine held_take (i := 24) (o := { dst := some 53, op := Op.load 23 (Operand.tmp 3), type := 23, pos := "law.go:65", after := #[{ on := 17, ground := Ground.guard }], guard := some (17, true) }) (v := valV k' n' l') (by kernel_rfl) (by kernel_rfl) (by kernel_rfl) (by kernel_rfl) (fun _ _ _ h => h) (by kernel_rfl) (fun _ h => exec_ldV rfl (by kernel_rfl) h.b) hH1 ?_
      refine held_take (i := 25) (o := { dst := some 54, op := Op.binOp BinOp.eql 23 (Operand.tmp 52) (Operand.tmp 53) 23, type := 4, pos := "law.go:65", after := #[{ on := 23, ground := Ground.data }, { on := 24, ground := Ground.data }, { on := 17, ground := Ground.guard }], guard := some (17, true) }) (v := .bool q) (by kernel_rfl) (by kernel_rfl) (by kernel_rfl) (by kernel_rfl) (fun _ _ _ h => h) (by kernel_rfl) (fun W _ => exec_bin rfl (by kernel_rfl) (by kernel_rfl) (fun _ => by kernel_rfl) (E54) W) hH1 ?_
      refine held_callX (i := 19) (o := { dst := some 48, op := Op.call { callee := Callee.value (Operand.func 12), args := #[Operand.tmp 47], argTypes := #[23] }, type := 9, pos := "law.go:65", after := #[{ on := 18, ground := Ground.data }, { on := 17, ground := Ground.chain }, { on := 17, ground := Ground.guard }], guard := some (17, true) }) (F := 12) (vs := #[valV k n l]) (by kernel_rfl) (by kernel_rfl) (by kernel_rfl) (fun _ => by kernel_rfl) (C12a _ hH1.keeps) ?_
      rintro e u2 ⟨rfl, hb2⟩
      have hH2 := hH1.on hb2
      refine ⟨.string ⟨tx.toArray⟩, rfl, hH2, ?_⟩
      refine held_callX (i := 21) (o := { dst := some 50, op := Op.call { callee := Callee.value (Operand.func 12), args := #[Operand.tmp 49], argTypes := #[23] }, type := 9, pos := "law.go:65", after := #[{ on := 20, ground := Ground.data }, { on := 19, ground := Ground.chain }, { on := 17, ground := Ground.guard }], guard := some (17, true) }) (F := 12) (vs := #[valV k' n' l']) (by kernel_rfl) (by kernel_rfl) (by kernel_rfl) (fun _ => by kernel_rfl) (C12b _ hH2.keeps) ?_
      rintro e u3 ⟨rfl, hb3⟩
      have hH3 := hH2.on hb3
      refine ⟨.string ⟨ty.toArray⟩, rfl, hH3, ?_⟩
      refine held_take (i := 22) (o := { dst := some 51, op := Op.binOp BinOp.eql 9 (Operand.tmp 48) (Operand.tmp 50) 9, type := 4, pos := "law.go:65", after := #[{ on := 19, ground := Ground.data }, { on := 21, ground := Ground.data }, { on := 17, ground := Ground.guard }], guard := some (17, true) }) (v := .bool q) (by kernel_rfl) (by kernel_rfl) (by kernel_rfl) (by kernel_rfl) (fun _ _ _ h => h) (by kernel_rfl) (fun W _ => exec_bin rfl (by kernel_rfl) (by kernel_rfl) (fun _ => by kernel_rfl) (E51) W) hH3 ?_
      refine held_take (i := 26) (o := { dst := some 55, op := Op.binOp BinOp.eql 4 (Operand.tmp 51) (Operand.tmp 54) 4, type := 4, pos := "law.go:65", after := #[{ on := 22, ground := Ground.data }, { on := 25, ground := Ground.data }, { on := 17, ground := Ground.guard }], guard := some (17, true) }) (v := .bool true) (by kernel_rfl) (by kernel_rfl) (by kernel_rfl) (by kernel_rfl) (fun _ _ _ h => h) (by kernel_rfl) (fun W _ => exec_bin rfl (by kernel_rfl) (by kernel_rfl) (fun _ => by kernel_rfl) (eqb_same q) W) hH3 ?_
      refine held_take (i := 27) (o := { dst := some 56, op := Op.pick (Operand.tmp 46) (Operand.tmp 55) (Operand.const (Value.bool false)), type := 4, pos := "law.go:65", after := #[{ on := 17, ground := Ground.data }, { on := 26, ground := Ground.data }], guard := none }) (v := .bool true) (by kernel_rfl) (by kernel_rfl) (by kernel_rfl) (by kernel_rfl) (fun _ _ _ h => h) (by kernel_rfl) (fun _ _ => by kernel_rfl) hH3 ?_
      refine held_take (i := 28) (o := { dst := some 57, op := Op.move (Operand.tmp 56), type := 4, pos := "law.go:65", after := #[{ on := 27, ground := Ground.data }, { on := 21, ground := Ground.chain }], guard := none }) (v := .bool true) (by kernel_rfl) (by kernel_rfl) (by kernel_rfl) (by kernel_rfl) (fun _ _ _ h => h) (by kernel_rfl) (fun _ _ => by kernel_rfl) hH3 ?_
      refine held_callX (i := 29) (o := { dst := some 58, op := Op.call { callee := Callee.value (Operand.func 7), args := #[], argTypes := #[] }, type := 4, pos := "law.go:65", after := #[{ on := 28, ground := Ground.chain }, { on := 28, ground := Ground.guard }], guard := some (28, true) }) (F := 7) (vs := #[]) (by kernel_rfl) (by kernel_rfl) (by kernel_rfl) (fun _ => by kernel_rfl) (awake_any _ hH3.keeps) ?_
      rintro e u4 ⟨rfl, hb4⟩
      have hH4 := hH3.on hb4
      refine ⟨.bool true, rfl, hH4, ?_⟩
      refine held_take (i := 30) (o := { dst := some 59, op := Op.pick (Operand.tmp 57) (Operand.tmp 58) (Operand.const (Value.bool false)), type := 4, pos := "law.go:65", after := #[{ on := 28, ground := Ground.data }, { on := 29, ground := Ground.data }], guard := none }) (v := .bool true) (by kernel_rfl) (by kernel_rfl) (by kernel_rfl) (by kernel_rfl) (fun _ _ _ h => h) (by kernel_rfl) (fun _ _ => by kernel_rfl) hH4 ?_
      refine held_do (i := 31) (o := { dst := some 4, op := Op.assign (Operand.tmp 59), type := 4, pos := "law.go:65", after := #[{ on := 30, ground := Ground.data }, { on := 29, ground := Ground.chain }, { on := 0, ground := Ground.phase }, { on := 1, ground := Ground.phase }, { on := 2, ground := Ground.phase }, { on := 3, ground := Ground.phase }, { on := 4, ground := Ground.phase }, { on := 5, ground := Ground.phase }, { on := 6, ground := Ground.phase }, { on := 7, ground := Ground.phase }, { on := 8, ground := Ground.phase }, { on := 9, ground := Ground.phase }, { on := 10, ground := Ground.phase }, { on := 11, ground := Ground.phase }, { on := 12, ground := Ground.phase }, { on := 13, ground := Ground.phase }, { on := 14, ground := Ground.phase }, { on := 15, ground := Ground.phase }, { on := 16, ground := Ground.phase }, { on := 17, ground := Ground.phase }, { on := 18, ground := Ground.phase }, { on := 19, ground := Ground.phase }, { on := 20, ground := Ground.phase }, { on := 21, ground := Ground.phase }, { on := 22, ground := Ground.phase }, { on := 23, ground := Ground.phase }, { on := 24, ground := Ground.phase }, { on := 25, ground := Ground.phase }, { on := 26, ground := Ground.phase }, { on := 27, ground := Ground.phase }, { on := 28, ground := Ground.phase }, { on := 29, ground := Ground.phase }, { on := 30, ground := Ground.phase }], guard := none }) (v := .bool true) (by kernel_rfl) (by kernel_rfl) (by kernel_rfl) (by kernel_rfl) hH4 ?_
      refine wpAnyH_done (by kernel_rfl) ?_ _
      simp only [Act.put, List.setIfInBounds_toArray, List.set_cons_zero, List.set_cons_succ]
      go_wp2
      go_ret
      exact ⟨rfl, hH4.below⟩
end Go.Proofs.YthphoclfoejbfaaDoor
