/- The walk of the statement TallyTells. -/
import Derived.Test.YtpheljlnlbiieaaLJoins
namespace Go.Proofs.Ytpheljlnlbiieaa
open Go.RowKit Go.Shelf
set_option linter.unusedVariables false

/-- What holds while the last statement is told: the counts, the one, both raised ones. -/
structure TS (w : World) (v : Value) (l : List U) (u : U) (b c : Nat) (x : U) (W : World) : Prop where
  row : cntsIn W v l
  var : CAt W ⟨w.heap.size, 0, none⟩ u
  fst : CAt W ⟨b, 0, none⟩ x
  snd : CAt W ⟨c, 0, none⟩ x
  below : Below w.heap.size w W
theorem TS.on {w : World} {v : Value} {l : List U} {u : U} {b c : Nat} {x : U} {W W' : World} (h : TS w v l u b c x W) (hb : Below W.heap.size W W') : TS w v l u b c x W' := ⟨h.row.on hb, h.var.on hb, h.fst.on hb, h.snd.on hb, bchain h.below hb⟩
theorem eqc_same (x : U) (w : World) : (binOp .eql 26 (uV x) (uV x)).run Try.prog w = .ok (.bool true) w := by rw [eql_cnt]; simp

set_option maxRecDepth 20000 in
set_option maxHeartbeats 4000000 in
theorem tallyTells_walk (v : Value) (l : List U) (u : U) (w : World) (hv : cntsIn w v l) :
    Calls Try.prog 3 #[v, uV u] w fun e w' => e = .returned (.bool true) ∧ Below w.heap.size w w' := by
  obtain ⟨W0, hW0⟩ : ∃ W0, W0 = w.alloc (.cells #[.int .i64 u.1.1, .int .i64 u.1.2, .int .i64 u.2] 26) := ⟨_, rfl⟩
  have hB0 : Below w.heap.size w W0 := by rw [hW0]; exact below_new _ _
  have hu0 : CAt W0 ⟨w.heap.size, 0, none⟩ u := by rw [hW0]; exact CAt.new w u
  by_cases hlen : l.length ≤ 100
  rotate_left
  · obtain ⟨ao, c, rfl, _, _, h9⟩ := hv
    clear h9
    generalize l.length = n at *
    have hn1 : (100 : Int) < (n : Int) := by omega
    go_enter Try.func3, Try.ntmps3
    go_wp2_with (go_at_call 9; rw [← hW0]; refine (awake_any _).mono ?_; rintro e w1 ⟨rfl, hb1⟩)
    go_ret
    exact ⟨rfl, bchain hB0 hb1⟩
  have C10 := fun W (h : Below w.heap.size w W) => right_cnts v l W (hv.on h) (by omega)
  have C11 := fun W (h : Below w.heap.size w W) => refRight_cnts v l W (hv.on h) (by omega)
  cases hq : Ct.right l with
  | false =>
    rw [hq] at C10 C11
    obtain ⟨ao, c, rfl, _, _, h9⟩ := hv
    clear h9
    generalize l.length = n at *
    have hn1 : ¬ (100 : Int) < (n : Int) := by omega
    go_enter Try.func3, Try.ntmps3
    go_wp2_with (first
      | (go_at_call 10; rw [← hW0]; (with_reducible refine (C10 W0 hB0).mono ?_); rintro e w1 ⟨rfl, hb1⟩; have B1 := bchain hB0 hb1)
      | (go_at_call 11; first | ((with_reducible refine (C11 w1 B1).mono ?_); rintro e w2 ⟨rfl, hb2⟩; have B2 := bchain B1 hb2) | ((with_reducible refine (C11 w2 B2).mono ?_); rintro e w3 ⟨rfl, hb3⟩; have B3 := bchain B2 hb3))
      | (go_at_call 9; refine (awake_any _).mono ?_; rintro e w4 ⟨rfl, hb4⟩))
    go_ret
    exact ⟨rfl, bchain B3 hb4⟩
  | true =>
    rw [hq] at C10 C11
    have hp := Ct.right_iff.1 hq
    have C12 := fun W (h : Below w.heap.size w W) => raise_any v l u.1 W (hv.on h) (by omega) hp
    have C13 := fun W (h : Below w.heap.size w W) => refRaise_any v l u.1 W (hv.on h) (by omega) hp
    have C14 := fun W (h : cntsIn W v l) => get_any v l u.1 W h (by omega) hp
    have C15 := fun W (h : cntsIn W v l) => refGet_any v l u.1 W (by omega) h
    have C16 := fun W (h : cntsIn W v l) => seen_any v l u.1 W h (by omega) hp
    have C17 := fun W (h : cntsIn W v l) => refSeen_any v l u.1 W h (by omega) hp
    have C19 := fun W (h : cntsIn W v l) => put_any v l u W h (by omega) hp
    have C20 := fun W (h : cntsIn W v l) => refPut_any v l u W h (by omega) hp
    have lp := Ct.put_len l u
    have C18 := fun W (r s : Value) (h : cntsIn W r (Ct.put l u)) (k : cntsIn W s (Ct.put l u)) => refSame_any r s _ _ W (by omega) h k
    simp only [decide_true] at C18
    have HV : Hid (cntsIn w v l) := hv
    clear hp hq lp
    generalize Ct.put l u = pl at *
    generalize seenZ (Ct.get l u.1) = sq at *
    generalize Ct.get l u.1 = z at *
    generalize hx : (raised l u.1).1 = x at *
    generalize hc : (raised l u.1).2 = c at *
    clear hx hc
    obtain ⟨ao, cap, hvv, _, _, h9⟩ := hv
    clear h9
    obtain ⟨n, hn0⟩ : ∃ n, n = l.length := ⟨_, rfl⟩
    rw [← hn0] at hvv hlen
    clear hn0
    have hn1 : ¬ (100 : Int) < (n : Int) := by omega
    subst hvv
    go_enter Try.func3, Try.ntmps3
    go_wp2_with (first
      | (go_at_call 10; rw [← hW0]; (with_reducible refine (C10 W0 hB0).mono ?_); rintro e w1 ⟨rfl, hb1⟩; have B1 := bchain hB0 hb1)
      | (go_at_call 11; first | ((with_reducible refine (C11 w1 B1).mono ?_); rintro e w2 ⟨rfl, hb2⟩; have B2 := bchain B1 hb2) | ((with_reducible refine (C11 w2 B2).mono ?_); rintro e w3 ⟨rfl, hb3⟩; have B3 := bchain B2 hb3; have hu3 := ((hu0.on hb1).on hb2).on hb3; have c0 := hu3.1; have c1 := hu3.2.1; have c2 := hu3.2.2))
      | (go_at_call 12; (with_reducible refine (C12 w3 B3).mono ?_); rintro e w4 ⟨rfl, hb4⟩; have B4 := bchain B3 hb4; have hx4 := CAt.new w4 x; have hu4 := ((((hu0.on hb1).on hb2).on hb3).on hb4).on (below_new w4 (.cells #[.int .i64 x.1.1, .int .i64 x.1.2, .int .i64 x.2] 26)); have c0 := hu4.1; have c1 := hu4.2.1; have c2 := hu4.2.2)
      | (go_at_call 13; (with_reducible refine (C13 (w4.alloc (.cells #[.int .i64 x.1.1, .int .i64 x.1.2, .int .i64 x.2] 26)) (bchain B4 (below_new _ _))).mono ?_); rintro e w5 ⟨rfl, hb5⟩; have B5 := bchain (bchain B4 (below_new _ _)) hb5))
    have hTS : TS w (.slice ao n cap) l u w4.heap.size w5.heap.size x (w5.alloc (.cells #[.int .i64 x.1.1, .int .i64 x.1.2, .int .i64 x.2] 26)).drew := ⟨((HV.out.on B5).on (below_new _ _)).on (Below.refl _ _).drew, (((((((hu0.on hb1).on hb2).on hb3).on hb4).on (below_new _ _)).on hb5).on (below_new _ _)).on (Below.refl _ _).drew, ((hx4.on hb5).on (below_new _ _)).on (Below.refl _ _).drew, (CAt.new w5 x).on (Below.refl _ _).drew, (bchain B5 (below_new _ _)).drew⟩
    refine wp_region_held_drew (S := fun W => TS w (.slice ao n cap) l u w4.heap.size w5.heap.size x W) (by kernel_rfl) (hTS) (fun hH0 => ?_)
    refine held_take (i := 0) (o := { dst := some 36, op := Op.move (Operand.tmp 0), type := 22, pos := "law.go:34", after := #[], guard := none }) (v := .slice ao n cap) (by kernel_rfl) (by kernel_rfl) (by kernel_rfl) (by kernel_rfl) (fun _ _ _ h => h) (by kernel_rfl) (fun _ _ => by kernel_rfl) hH0 ?_
    refine held_take (i := 1) (o := { dst := some 37, op := Op.fieldAddr 26 (Operand.tmp 3) 0, type := 0, pos := "law.go:34", after := #[], guard := none }) (v := .pointer (some ⟨w.heap.size, 0, none⟩)) (by kernel_rfl) (by kernel_rfl) (by kernel_rfl) (by kernel_rfl) (fun _ _ _ h => h) (by kernel_rfl) (fun W _ => exec_fld0 (p := ⟨w.heap.size, 0, none⟩) rfl (by kernel_rfl) W) hH0 ?_
    refine held_take (i := 2) (o := { dst := some 38, op := Op.load 24 (Operand.tmp 37), type := 24, pos := "law.go:34", after := #[{ on := 1, ground := Ground.data }], guard := none }) (v := dV u.1) (by kernel_rfl) (by kernel_rfl) (by kernel_rfl) (by kernel_rfl) (fun _ _ _ h => h) (by kernel_rfl) (fun _ h => exec_ldD (p := ⟨w.heap.size, 0, none⟩) rfl (by kernel_rfl) h.var) hH0 ?_
    refine held_take (i := 4) (o := { dst := some 40, op := Op.move (Operand.tmp 0), type := 22, pos := "law.go:34", after := #[], guard := none }) (v := .slice ao n cap) (by kernel_rfl) (by kernel_rfl) (by kernel_rfl) (by kernel_rfl) (fun _ _ _ h => h) (by kernel_rfl) (fun _ _ => by kernel_rfl) hH0 ?_
    refine held_take (i := 5) (o := { dst := some 41, op := Op.fieldAddr 26 (Operand.tmp 3) 0, type := 0, pos := "law.go:34", after := #[], guard := none }) (v := .pointer (some ⟨w.heap.size, 0, none⟩)) (by kernel_rfl) (by kernel_rfl) (by kernel_rfl) (by kernel_rfl) (fun _ _ _ h => h) (by kernel_rfl) (fun W _ => exec_fld0 (p := ⟨w.heap.size, 0, none⟩) rfl (by kernel_rfl) W) hH0 ?_
    refine held_take (i := 6) (o := { dst := some 42, op := Op.load 24 (Operand.tmp 41), type := 24, pos := "law.go:34", after := #[{ on := 5, ground := Ground.data }], guard := none }) (v := dV u.1) (by kernel_rfl) (by kernel_rfl) (by kernel_rfl) (by kernel_rfl) (fun _ _ _ h => h) (by kernel_rfl) (fun _ h => exec_ldD (p := ⟨w.heap.size, 0, none⟩) rfl (by kernel_rfl) h.var) hH0 ?_
    refine held_callX (i := 3) (o := { dst := some 39, op := Op.call { callee := Callee.value (Operand.func 14), args := #[Operand.tmp 36, Operand.tmp 38], argTypes := #[22, 24] }, type := 3, pos := "law.go:34", after := #[{ on := 0, ground := Ground.data }, { on := 2, ground := Ground.data }], guard := none }) (F := 14) (vs := #[.slice ao n cap, dV u.1]) (by kernel_rfl) (by kernel_rfl) (by kernel_rfl) (fun _ => by kernel_rfl) (C14 _ hH0.row) ?_
    rintro e v1 ⟨rfl, hb1⟩
    have hH1 := hH0.on hb1
    refine ⟨.int .i64 z, rfl, hH1, ?_⟩
    refine held_callX (i := 7) (o := { dst := some 43, op := Op.call { callee := Callee.value (Operand.func 15), args := #[Operand.tmp 40, Operand.tmp 42], argTypes := #[22, 24] }, type := 3, pos := "law.go:34", after := #[{ on := 4, ground := Ground.data }, { on := 6, ground := Ground.data }, { on := 3, ground := Ground.chain }], guard := none }) (F := 15) (vs := #[.slice ao n cap, dV u.1]) (by kernel_rfl) (by kernel_rfl) (by kernel_rfl) (fun _ => by kernel_rfl) (C15 _ hH1.row) ?_
    rintro e v2 ⟨rfl, hb2⟩
    have hH2 := hH1.on hb2
    refine ⟨.int .i64 z, rfl, hH2, ?_⟩
    refine held_take (i := 8) (o := { dst := some 44, op := Op.binOp BinOp.eql 3 (Operand.tmp 39) (Operand.tmp 43) 3, type := 4, pos := "law.go:34", after := #[{ on := 3, ground := Ground.data }, { on := 7, ground := Ground.data }], guard := none }) (v := .bool true) (by kernel_rfl) (by kernel_rfl) (by kernel_rfl) (by kernel_rfl) (fun _ _ _ h => h) (by kernel_rfl) (fun W _ => exec_bin rfl (by kernel_rfl) (by kernel_rfl) (fun _ => by kernel_rfl) (eqi_same (z)) W) hH2 ?_
    refine held_take (i := 9) (o := { dst := some 45, op := Op.move (Operand.tmp 44), type := 4, pos := "law.go:34", after := #[{ on := 8, ground := Ground.data }, { on := 7, ground := Ground.chain }], guard := none }) (v := .bool true) (by kernel_rfl) (by kernel_rfl) (by kernel_rfl) (by kernel_rfl) (fun _ _ _ h => h) (by kernel_rfl) (fun _ _ => by kernel_rfl) hH2 ?_
    refine held_take (i := 10) (o := { dst := some 46, op := Op.move (Operand.tmp 0), type := 22, pos := "law.go:34", after := #[{ on := 9, ground := Ground.guard }], guard := some (9, true) }) (v := .slice ao n cap) (by kernel_rfl) (by kernel_rfl) (by kernel_rfl) (by kernel_rfl) (fun _ _ _ h => h) (by kernel_rfl) (fun _ _ => by kernel_rfl) hH2 ?_
    refine held_take (i := 11) (o := { dst := some 47, op := Op.fieldAddr 26 (Operand.tmp 3) 0, type := 0, pos := "law.go:34", after := #[{ on := 9, ground := Ground.guard }], guard := some (9, true) }) (v := .pointer (some ⟨w.heap.size, 0, none⟩)) (by kernel_rfl) (by kernel_rfl) (by kernel_rfl) (by kernel_rfl) (fun _ _ _ h => h) (by kernel_rfl) (fun W _ => exec_fld0 (p := ⟨w.heap.size, 0, none⟩) rfl (by kernel_rfl) W) hH2 ?_
    refine held_take (i := 12) (o := { dst := some 48, op := Op.load 24 (Operand.tmp 47), type := 24, pos := "law.go:34", after := #[{ on := 11, ground := Ground.data }, { on := 9, ground := Ground.guard }], guard := some (9, true) }) (v := dV u.1) (by kernel_rfl) (by kernel_rfl) (by kernel_rfl) (by kernel_rfl) (fun _ _ _ h => h) (by kernel_rfl) (fun _ h => exec_ldD (p := ⟨w.heap.size, 0, none⟩) rfl (by kernel_rfl) h.var) hH2 ?_
    refine held_take (i := 14) (o := { dst := some 50, op := Op.move (Operand.tmp 0), type := 22, pos := "law.go:34", after := #[{ on := 9, ground := Ground.guard }], guard := some (9, true) }) (v := .slice ao n cap) (by kernel_rfl) (by kernel_rfl) (by kernel_rfl) (by kernel_rfl) (fun _ _ _ h => h) (by kernel_rfl) (fun _ _ => by kernel_rfl) hH2 ?_
    refine held_take (i := 15) (o := { dst := some 51, op := Op.fieldAddr 26 (Operand.tmp 3) 0, type := 0, pos := "law.go:34", after := #[{ on := 9, ground := Ground.guard }], guard := some (9, true) }) (v := .pointer (some ⟨w.heap.size, 0, none⟩)) (by kernel_rfl) (by kernel_rfl) (by kernel_rfl) (by kernel_rfl) (fun _ _ _ h => h) (by kernel_rfl) (fun W _ => exec_fld0 (p := ⟨w.heap.size, 0, none⟩) rfl (by kernel_rfl) W) hH2 ?_
    refine held_take (i := 16) (o := { dst := some 52, op := Op.load 24 (Operand.tmp 51), type := 24, pos := "law.go:34", after := #[{ on := 15, ground := Ground.data }, { on := 9, ground := Ground.guard }], guard := some (9, true) }) (v := dV u.1) (by kernel_rfl) (by kernel_rfl) (by kernel_rfl) (by kernel_rfl) (fun _ _ _ h => h) (by kernel_rfl) (fun _ h => exec_ldD (p := ⟨w.heap.size, 0, none⟩) rfl (by kernel_rfl) h.var) hH2 ?_
    refine held_callX (i := 13) (o := { dst := some 49, op := Op.call { callee := Callee.value (Operand.func 16), args := #[Operand.tmp 46, Operand.tmp 48], argTypes := #[22, 24] }, type := 4, pos := "law.go:34", after := #[{ on := 10, ground := Ground.data }, { on := 12, ground := Ground.data }, { on := 9, ground := Ground.chain }, { on := 9, ground := Ground.guard }], guard := some (9, true) }) (F := 16) (vs := #[.slice ao n cap, dV u.1]) (by kernel_rfl) (by kernel_rfl) (by kernel_rfl) (fun _ => by kernel_rfl) (C16 _ hH2.row) ?_
    rintro e v3 ⟨rfl, hb3⟩
    have hH3 := hH2.on hb3
    refine ⟨.bool sq, rfl, hH3, ?_⟩
    refine held_callX (i := 17) (o := { dst := some 53, op := Op.call { callee := Callee.value (Operand.func 17), args := #[Operand.tmp 50, Operand.tmp 52], argTypes := #[22, 24] }, type := 4, pos := "law.go:34", after := #[{ on := 14, ground := Ground.data }, { on := 16, ground := Ground.data }, { on := 13, ground := Ground.chain }, { on := 9, ground := Ground.guard }], guard := some (9, true) }) (F := 17) (vs := #[.slice ao n cap, dV u.1]) (by kernel_rfl) (by kernel_rfl) (by kernel_rfl) (fun _ => by kernel_rfl) (C17 _ hH3.row) ?_
    rintro e v4 ⟨rfl, hb4⟩
    have hH4 := hH3.on hb4
    refine ⟨.bool sq, rfl, hH4, ?_⟩
    refine held_take (i := 18) (o := { dst := some 54, op := Op.binOp BinOp.eql 4 (Operand.tmp 49) (Operand.tmp 53) 4, type := 4, pos := "law.go:34", after := #[{ on := 13, ground := Ground.data }, { on := 17, ground := Ground.data }, { on := 9, ground := Ground.guard }], guard := some (9, true) }) (v := .bool true) (by kernel_rfl) (by kernel_rfl) (by kernel_rfl) (by kernel_rfl) (fun _ _ _ h => h) (by kernel_rfl) (fun W _ => exec_bin rfl (by kernel_rfl) (by kernel_rfl) (fun _ => by kernel_rfl) (eqb_same (sq)) W) hH4 ?_
    refine held_take (i := 19) (o := { dst := some 55, op := Op.pick (Operand.tmp 45) (Operand.tmp 54) (Operand.const (Value.bool false)), type := 4, pos := "law.go:34", after := #[{ on := 9, ground := Ground.data }, { on := 18, ground := Ground.data }], guard := none }) (v := .bool true) (by kernel_rfl) (by kernel_rfl) (by kernel_rfl) (by kernel_rfl) (fun _ _ _ h => h) (by kernel_rfl) (fun _ _ => by kernel_rfl) hH4 ?_
    refine held_take (i := 20) (o := { dst := some 56, op := Op.move (Operand.tmp 55), type := 4, pos := "law.go:34", after := #[{ on := 19, ground := Ground.data }, { on := 17, ground := Ground.chain }], guard := none }) (v := .bool true) (by kernel_rfl) (by kernel_rfl) (by kernel_rfl) (by kernel_rfl) (fun _ _ _ h => h) (by kernel_rfl) (fun _ _ => by kernel_rfl) hH4 ?_
    refine held_take (i := 21) (o := { dst := some 57, op := Op.move (Operand.tmp 0), type := 22, pos := "law.go:34", after := #[{ on := 20, ground := Ground.guard }], guard := some (20, true) }) (v := .slice ao n cap) (by kernel_rfl) (by kernel_rfl) (by kernel_rfl) (by kernel_rfl) (fun _ _ _ h => h) (by kernel_rfl) (fun _ _ => by kernel_rfl) hH4 ?_
    refine held_take (i := 22) (o := { dst := some 58, op := Op.load 26 (Operand.tmp 3), type := 26, pos := "law.go:34", after := #[{ on := 20, ground := Ground.guard }], guard := some (20, true) }) (v := uV u) (by kernel_rfl) (by kernel_rfl) (by kernel_rfl) (by kernel_rfl) (fun _ _ _ h => h) (by kernel_rfl) (fun _ h => exec_ldU rfl (by kernel_rfl) h.var) hH4 ?_
    refine held_take (i := 24) (o := { dst := some 60, op := Op.move (Operand.tmp 0), type := 22, pos := "law.go:34", after := #[{ on := 20, ground := Ground.guard }], guard := some (20, true) }) (v := .slice ao n cap) (by kernel_rfl) (by kernel_rfl) (by kernel_rfl) (by kernel_rfl) (fun _ _ _ h => h) (by kernel_rfl) (fun _ _ => by kernel_rfl) hH4 ?_
    refine held_take (i := 25) (o := { dst := some 61, op := Op.load 26 (Operand.tmp 3), type := 26, pos := "law.go:34", after := #[{ on := 20, ground := Ground.guard }], guard := some (20, true) }) (v := uV u) (by kernel_rfl) (by kernel_rfl) (by kernel_rfl) (by kernel_rfl) (fun _ _ _ h => h) (by kernel_rfl) (fun _ h => exec_ldU rfl (by kernel_rfl) h.var) hH4 ?_
    refine held_callX (i := 23) (o := { dst := some 59, op := Op.call { callee := Callee.value (Operand.func 19), args := #[Operand.tmp 57, Operand.tmp 58], argTypes := #[22, 26] }, type := 22, pos := "law.go:34", after := #[{ on := 21, ground := Ground.data }, { on := 22, ground := Ground.data }, { on := 20, ground := Ground.chain }, { on := 20, ground := Ground.guard }], guard := some (20, true) }) (F := 19) (vs := #[.slice ao n cap, uV u]) (by kernel_rfl) (by kernel_rfl) (by kernel_rfl) (fun _ => by kernel_rfl) (C19 _ hH4.row) ?_
    rintro e v5 ⟨r5, rfl, own5, hb5⟩
    have hH5 := hH4.on hb5
    refine ⟨r5, rfl, hH5, ?_⟩
    refine held_callX (i := 26) (o := { dst := some 62, op := Op.call { callee := Callee.value (Operand.func 20), args := #[Operand.tmp 60, Operand.tmp 61], argTypes := #[22, 26] }, type := 22, pos := "law.go:34", after := #[{ on := 24, ground := Ground.data }, { on := 25, ground := Ground.data }, { on := 23, ground := Ground.chain }, { on := 20, ground := Ground.guard }], guard := some (20, true) }) (F := 20) (vs := #[.slice ao n cap, uV u]) (by kernel_rfl) (by kernel_rfl) (by kernel_rfl) (fun _ => by kernel_rfl) (C20 _ hH5.row) ?_
    rintro e v6 ⟨r6, rfl, hr6, hb6⟩
    have hH6 := hH5.on hb6
    refine ⟨r6, rfl, hH6, ?_⟩
    refine held_callX (i := 27) (o := { dst := some 63, op := Op.call { callee := Callee.value (Operand.func 18), args := #[Operand.tmp 59, Operand.tmp 62], argTypes := #[22, 22] }, type := 4, pos := "law.go:34", after := #[{ on := 23, ground := Ground.data }, { on := 26, ground := Ground.data }, { on := 26, ground := Ground.chain }, { on := 20, ground := Ground.guard }], guard := some (20, true) }) (F := 18) (vs := #[r5, r6]) (by kernel_rfl) (by kernel_rfl) (by kernel_rfl) (fun _ => by kernel_rfl) (C18 _ _ _ ((cntsIn_own own5).on hb6) hr6) ?_
    rintro e v7 ⟨rfl, hb7⟩
    have hH7 := hH6.on hb7
    refine ⟨.bool true, rfl, hH7, ?_⟩
    refine held_take (i := 28) (o := { dst := some 64, op := Op.pick (Operand.tmp 56) (Operand.tmp 63) (Operand.const (Value.bool false)), type := 4, pos := "law.go:34", after := #[{ on := 20, ground := Ground.data }, { on := 27, ground := Ground.data }], guard := none }) (v := .bool true) (by kernel_rfl) (by kernel_rfl) (by kernel_rfl) (by kernel_rfl) (fun _ _ _ h => h) (by kernel_rfl) (fun _ _ => by kernel_rfl) hH7 ?_
    refine held_take (i := 29) (o := { dst := some 65, op := Op.move (Operand.tmp 64), type := 4, pos := "law.go:34", after := #[{ on := 28, ground := Ground.data }, { on := 27, ground := Ground.chain }], guard := none }) (v := .bool true) (by kernel_rfl) (by kernel_rfl) (by kernel_rfl) (by kernel_rfl) (fun _ _ _ h => h) (by kernel_rfl) (fun _ _ => by kernel_rfl) hH7 ?_
    refine held_take (i := 30) (o := { dst := some 66, op := Op.load 26 (Operand.tmp 5), type := 26, pos := "law.go:34", after := #[{ on := 29, ground := Ground.guard }], guard := some (29, true) }) (v := uV x) (by kernel_rfl) (by kernel_rfl) (by kernel_rfl) (by kernel_rfl) (fun _ _ _ h => h) (by kernel_rfl) (fun _ h => exec_ldU rfl (by kernel_rfl) h.fst) hH7 ?_
    refine held_take (i := 31) (o := { dst := some 67, op := Op.load 26 (Operand.tmp 7), type := 26, pos := "law.go:34", after := #[{ on := 29, ground := Ground.guard }], guard := some (29, true) }) (v := uV x) (by kernel_rfl) (by kernel_rfl) (by kernel_rfl) (by kernel_rfl) (fun _ _ _ h => h) (by kernel_rfl) (fun _ h => exec_ldU rfl (by kernel_rfl) h.snd) hH7 ?_
    refine held_take (i := 32) (o := { dst := some 68, op := Op.binOp BinOp.eql 26 (Operand.tmp 66) (Operand.tmp 67) 26, type := 4, pos := "law.go:34", after := #[{ on := 30, ground := Ground.data }, { on := 31, ground := Ground.data }, { on := 29, ground := Ground.guard }], guard := some (29, true) }) (v := .bool true) (by kernel_rfl) (by kernel_rfl) (by kernel_rfl) (by kernel_rfl) (fun _ _ _ h => h) (by kernel_rfl) (fun W _ => exec_bin rfl (by kernel_rfl) (by kernel_rfl) (fun _ => by kernel_rfl) (eqc_same x) W) hH7 ?_
    refine held_take (i := 33) (o := { dst := some 69, op := Op.pick (Operand.tmp 65) (Operand.tmp 68) (Operand.const (Value.bool false)), type := 4, pos := "law.go:34", after := #[{ on := 29, ground := Ground.data }, { on := 32, ground := Ground.data }], guard := none }) (v := .bool true) (by kernel_rfl) (by kernel_rfl) (by kernel_rfl) (by kernel_rfl) (fun _ _ _ h => h) (by kernel_rfl) (fun _ _ => by kernel_rfl) hH7 ?_
    refine held_take (i := 34) (o := { dst := some 70, op := Op.move (Operand.tmp 69), type := 4, pos := "law.go:34", after := #[{ on := 33, ground := Ground.data }, { on := 29, ground := Ground.chain }], guard := none }) (v := .bool true) (by kernel_rfl) (by kernel_rfl) (by kernel_rfl) (by kernel_rfl) (fun _ _ _ h => h) (by kernel_rfl) (fun _ _ => by kernel_rfl) hH7 ?_
    refine held_take (i := 35) (o := { dst := some 71, op := Op.move (Operand.tmp 6), type := 29, pos := "law.go:34", after := #[{ on := 34, ground := Ground.guard }], guard := some (34, true) }) (v := .int .i64 c) (by kernel_rfl) (by kernel_rfl) (by kernel_rfl) (by kernel_rfl) (fun _ _ _ h => h) (by kernel_rfl) (fun _ _ => by kernel_rfl) hH7 ?_
    refine held_take (i := 36) (o := { dst := some 72, op := Op.move (Operand.tmp 8), type := 3, pos := "law.go:34", after := #[{ on := 34, ground := Ground.guard }], guard := some (34, true) }) (v := .int .i64 c) (by kernel_rfl) (by kernel_rfl) (by kernel_rfl) (by kernel_rfl) (fun _ _ _ h => h) (by kernel_rfl) (fun _ _ => by kernel_rfl) hH7 ?_
    refine held_take (i := 37) (o := { dst := some 73, op := Op.binOp BinOp.eql 3 (Operand.tmp 71) (Operand.tmp 72) 3, type := 4, pos := "law.go:34", after := #[{ on := 35, ground := Ground.data }, { on := 36, ground := Ground.data }, { on := 34, ground := Ground.guard }], guard := some (34, true) }) (v := .bool true) (by kernel_rfl) (by kernel_rfl) (by kernel_rfl) (by kernel_rfl) (fun _ _ _ h => h) (by kernel_rfl) (fun W _ => exec_bin rfl (by kernel_rfl) (by kernel_rfl) (fun _ => by kernel_rfl) (eqi_same (c)) W) hH7 ?_
    refine held_take (i := 38) (o := { dst := some 74, op := Op.pick (Operand.tmp 70) (Operand.tmp 73) (Operand.const (Value.bool false)), type := 4, pos := "law.go:34", after := #[{ on := 34, ground := Ground.data }, { on := 37, ground := Ground.data }], guard := none }) (v := .bool true) (by kernel_rfl) (by kernel_rfl) (by kernel_rfl) (by kernel_rfl) (fun _ _ _ h => h) (by kernel_rfl) (fun _ _ => by kernel_rfl) hH7 ?_
    refine held_take (i := 39) (o := { dst := some 75, op := Op.move (Operand.tmp 74), type := 4, pos := "law.go:34", after := #[{ on := 38, ground := Ground.data }, { on := 34, ground := Ground.chain }], guard := none }) (v := .bool true) (by kernel_rfl) (by kernel_rfl) (by kernel_rfl) (by kernel_rfl) (fun _ _ _ h => h) (by kernel_rfl) (fun _ _ => by kernel_rfl) hH7 ?_
    refine held_callX (i := 40) (o := { dst := some 76, op := Op.call { callee := Callee.value (Operand.func 9), args := #[], argTypes := #[] }, type := 4, pos := "law.go:34", after := #[{ on := 39, ground := Ground.chain }, { on := 39, ground := Ground.guard }], guard := some (39, true) }) (F := 9) (vs := #[]) (by kernel_rfl) (by kernel_rfl) (by kernel_rfl) (fun _ => by kernel_rfl) (awake_any _) ?_
    rintro e v8 ⟨rfl, hb8⟩
    have hH8 := hH7.on hb8
    refine ⟨.bool true, rfl, hH8, ?_⟩
    refine held_take (i := 41) (o := { dst := some 77, op := Op.pick (Operand.tmp 75) (Operand.tmp 76) (Operand.const (Value.bool false)), type := 4, pos := "law.go:34", after := #[{ on := 39, ground := Ground.data }, { on := 40, ground := Ground.data }], guard := none }) (v := .bool true) (by kernel_rfl) (by kernel_rfl) (by kernel_rfl) (by kernel_rfl) (fun _ _ _ h => h) (by kernel_rfl) (fun _ _ => by kernel_rfl) hH8 ?_
    refine held_do (i := 42) (o := { dst := some 4, op := Op.assign (Operand.tmp 77), type := 4, pos := "law.go:34", after := #[{ on := 41, ground := Ground.data }, { on := 40, ground := Ground.chain }, { on := 0, ground := Ground.phase }, { on := 1, ground := Ground.phase }, { on := 2, ground := Ground.phase }, { on := 3, ground := Ground.phase }, { on := 4, ground := Ground.phase }, { on := 5, ground := Ground.phase }, { on := 6, ground := Ground.phase }, { on := 7, ground := Ground.phase }, { on := 8, ground := Ground.phase }, { on := 9, ground := Ground.phase }, { on := 10, ground := Ground.phase }, { on := 11, ground := Ground.phase }, { on := 12, ground := Ground.phase }, { on := 13, ground := Ground.phase }, { on := 14, ground := Ground.phase }, { on := 15, ground := Ground.phase }, { on := 16, ground := Ground.phase }, { on := 17, ground := Ground.phase }, { on := 18, ground := Ground.phase }, { on := 19, ground := Ground.phase }, { on := 20, ground := Ground.phase }, { on := 21, ground := Ground.phase }, { on := 22, ground := Ground.phase }, { on := 23, ground := Ground.phase }, { on := 24, ground := Ground.phase }, { on := 25, ground := Ground.phase }, { on := 26, ground := Ground.phase }, { on := 27, ground := Ground.phase }, { on := 28, ground := Ground.phase }, { on := 29, ground := Ground.phase }, { on := 30, ground := Ground.phase }, { on := 31, ground := Ground.phase }, { on := 32, ground := Ground.phase }, { on := 33, ground := Ground.phase }, { on := 34, ground := Ground.phase }, { on := 35, ground := Ground.phase }, { on := 36, ground := Ground.phase }, { on := 37, ground := Ground.phase }, { on := 38, ground := Ground.phase }, { on := 39, ground := Ground.phase }, { on := 40, ground := Ground.phase }, { on := 41, ground := Ground.phase }], guard := none }) (v := .bool true) (by kernel_rfl) (by kernel_rfl) (by kernel_rfl) (by kernel_rfl) hH8 ?_
    refine wpAnyH_done (by kernel_rfl) ?_ _
    simp only [Act.put, List.setIfInBounds_toArray, List.set_cons_zero, List.set_cons_succ]
    go_wp2
    go_ret
    exact ⟨rfl, hH8.below⟩
end Go.Proofs.Ytpheljlnlbiieaa
