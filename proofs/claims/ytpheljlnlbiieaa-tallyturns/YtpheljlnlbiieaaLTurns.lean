/- The walk of the statement TallyTurns. -/
import Derived.Test.YtpheljlnlbiieaaLDeltas
namespace Go.Proofs.Ytpheljlnlbiieaa
open Go.RowKit Go.Shelf
set_option linter.unusedVariables false

/-- What holds while the last statement is told. -/
structure US (w : World) (v : Value) (l : List U) (vm : Value) (m : List U) (d o : D) (W : World) : Prop where
  row : cntsIn W v l
  new : cntsIn W vm m
  dot : DAt W w.heap.size d
  oth : DAt W (w.heap.size + 1) o
  below : Below w.heap.size w W
theorem US.on {w : World} {v : Value} {l : List U} {vm : Value} {m : List U} {d o : D} {W W' : World} (h : US w v l vm m d o W) (hb : Below W.heap.size W W') : US w v l vm m d o W' := ⟨h.row.on hb, h.new.on hb, h.dot.on hb, h.oth.on hb, bchain h.below hb⟩
theorem neqb_not (q : Bool) (w : World) : (binOp .neq 4 (.bool (!q)) (.bool q)).run Try.prog w = .ok (.bool true) w := by cases q <;> go_simp
theorem eqd_is {x y : D} {q : Bool} (h : decide (x = y) = q) (w : World) : (binOp .eql 24 (dV x) (dV y)).run Try.prog w = .ok (.bool q) w := by rw [eql_dot, h]

set_option maxRecDepth 20000 in
set_option maxHeartbeats 4000000 in
theorem tallyTurns_walk (v : Value) (l : List U) (d o : D) (w : World) (hv : cntsIn w v l) :
    Calls Try.prog 7 #[v, dV d, dV o] w fun e w' => e = .returned (.bool true) ∧ Below w.heap.size w w' := by
  obtain ⟨W0, hW0⟩ : ∃ W0, W0 = (w.alloc (.cells #[.int .i64 d.1, .int .i64 d.2] 24)).alloc (.cells #[.int .i64 o.1, .int .i64 o.2] 24) := ⟨_, rfl⟩
  have hB0 : Below w.heap.size w W0 := by rw [hW0]; exact below_new2 _ _ _
  have hd0 : DAt W0 w.heap.size d := by rw [hW0]; exact (DAt.new w d).on (below_new _ _)
  have ho0 : DAt W0 (w.heap.size + 1) o := by rw [hW0]; have h := DAt.new (w.alloc (.cells #[.int .i64 d.1, .int .i64 d.2] 24)) o; simpa using h
  have HG := good_any v l W0 (hv.on hB0)
  have HR : ∀ W, Calls Try.prog 27 #[dV d] W fun e w' => e = .returned (.bool (Dt.right d.1 d.2)) ∧ Below W.heap.size W w' := refRight_any d.1 d.2
  cases qa : goodU l with
  | false =>
    rw [qa] at HG
    clear hv HR
    go_enter Try.func7, Try.ntmps7
    go_wp2_with (first | (go_at_call 21; rw [← hW0]; (with_reducible refine HG.mono ?_); rintro e w1 ⟨rfl, hb1⟩) | (go_at_call 9; refine (awake_any _).mono ?_; rintro e w2 ⟨rfl, hb2⟩))
    go_ret
    exact ⟨rfl, bchain hB0 (bchain hb1 hb2)⟩
  | true =>
    rw [qa] at HG
    obtain ⟨la, sa⟩ := goodU_iff.1 qa
    cases qd : Dt.right d.1 d.2 with
    | false =>
      simp only [qd] at HR
      clear hv
      go_enter Try.func7, Try.ntmps7
      go_wp2_with (first | (go_at_call 21; rw [← hW0]; (with_reducible refine HG.mono ?_); rintro e w1 ⟨rfl, hb1⟩; obtain ⟨c0, c1⟩ := hd0.on hb1) | (go_at_call 27; refine (HR w1).mono ?_; rintro e w2 ⟨rfl, hb2⟩) | (go_at_call 9; refine (awake_any _).mono ?_; rintro e w3 ⟨rfl, hb3⟩))
      go_ret
      exact ⟨rfl, bchain hB0 (bchain (bchain hb1 hb2) hb3)⟩
    | true =>
      simp only [qd] at HR
      have hr := Ct.get_range sa d
      have C12 := fun W (h : Below w.heap.size w W) => raise_any v l d W (hv.on h) (by omega) sa
      have G := fun W (h : cntsIn W v l) => get_any v l d W h (by omega) sa
      have HV : Hid (cntsIn w v l) := hv
      by_cases hz : 64 ≤ Ct.get l d
      · have hz64 : Ct.get l d = 64 := by omega
        have er : raised l d = (((0, 0), 0), 14) := by unfold raised; rw [qd, if_pos rfl, if_pos hz]
        simp only [er] at C12
        rw [hz64] at G
        have heq := eqc_same ((0, 0), 0)
        clear hv er hz hz64 hr qd qa sa la
        go_enter Try.func7, Try.ntmps7
        go_wp2_with (first
          | (go_at_call 21; rw [← hW0]; (with_reducible refine HG.mono ?_); rintro e w1 ⟨rfl, hb1⟩; have B1 := bchain hB0 hb1; obtain ⟨c0, c1⟩ := hd0.on hb1)
          | (go_at_call 27; refine (HR w1).mono ?_; rintro e w2 ⟨rfl, hb2⟩; have B2 := bchain B1 hb2; obtain ⟨c0, c1⟩ := (hd0.on hb1).on hb2)
          | (go_at_call 12; (with_reducible refine (C12 w2 B2).mono ?_); rintro e w3 ⟨rfl, hb3⟩; have B3 := bchain B2 hb3; have hd3 := (((hd0.on hb1).on hb2).on hb3).on (below_new w3 (.cells #[.int .i64 0, .int .i64 0, .int .i64 0] 26)); obtain ⟨c0, c1⟩ := hd3; have B4 := bchain B3 (below_new w3 (.cells #[.int .i64 0, .int .i64 0, .int .i64 0] 26)))
          | (go_at_call 14; (with_reducible refine (G _ (HV.out.on B4)).mono ?_); rintro e w5 ⟨rfl, hb5⟩; have B5 := bchain B4 hb5; obtain ⟨x0, x1, x2⟩ := (CAt.new w3 ((0, 0), 0)).on hb5)
          | (go_at_call 9; refine (awake_any _).mono ?_; rintro e w6 ⟨rfl, hb6⟩))
        go_ret
        exact ⟨rfl, bchain B5 hb6⟩
      · have er : raised l d = ((d, Ct.get l d + 1), 0) := by unfold raised; rw [qd, if_pos rfl, if_neg hz]
        simp only [er] at C12
        have hok : Ct.ok (d, Ct.get l d + 1) = true := Ct.ok_iff.2 ⟨qd, by simp only; omega⟩
        have hgd : Ct.get (Ct.put l (d, Ct.get l d + 1)) d = Ct.get l d + 1 := by rw [Ct.get_put sa, if_pos ⟨hok, rfl⟩]; simp only; omega
        have hgo : decide (o = d) = false → Ct.get (Ct.put l (d, Ct.get l d + 1)) o = Ct.get l o := fun h => by rw [Ct.get_put sa, if_neg (fun k => of_decide_eq_false h k.2.symm)]
        have sm := Ct.put_std sa (d, Ct.get l d + 1)
        have lm := Ct.put_len l (d, Ct.get l d + 1)
        have C19 := fun W (h : cntsIn W v l) => put_any v l (d, Ct.get l d + 1) W h (by omega) sa
        have S1 := fun W (r : Value) (h : cntsIn W r (Ct.put l (d, Ct.get l d + 1))) => seen_any r _ d W h (by omega) sm
        rw [hgd, seenZ_not] at S1
        have S2 := fun W (h : cntsIn W v l) => seen_any v l d W h (by omega) sa
        have G1 := fun W (r : Value) (h : cntsIn W r (Ct.put l (d, Ct.get l d + 1))) => get_any r _ d W h (by omega) sm
        rw [hgd] at G1
        have Go1 := fun W (r : Value) (h : cntsIn W r (Ct.put l (d, Ct.get l d + 1))) => get_any r _ o W h (by omega) sm
        have Go2 := fun W (h : cntsIn W v l) => get_any v l o W h (by omega) sa
        obtain ⟨q, hq⟩ : ∃ q, decide (o = d) = q := ⟨_, rfl⟩
        rw [hq] at hgo
        have hz64 : Ct.get l d < 64 := by omega
        clear hv er hok hgd sm lm qd qa sa la hz
        generalize hm : Ct.put l (d, Ct.get l d + 1) = m at *
        clear hm
        generalize Ct.get m o = zm at *
        generalize Ct.get l o = zo at *
        generalize seenZ (Ct.get l d) = sq at *
        generalize Ct.get l d = z at *
        have hadd := add_one_fits z hr.1 hr.2
        obtain ⟨x, hx⟩ : ∃ x : U, x = (d, z + 1) := ⟨_, rfl⟩
        rw [← hx] at C19
        have C12' : ∀ W, Below w.heap.size w W → Calls Try.prog 12 #[v, dV d] W fun e w' => e = .returned (.tuple #[uV x, .int .i64 0]) ∧ Below W.heap.size W w' := fun W h => by rw [hx]; exact C12 W h
        clear C12 hx
        go_enter Try.func7, Try.ntmps7
        go_wp2_with (first
          | (go_at_call 21; rw [← hW0]; (with_reducible refine HG.mono ?_); rintro e w1 ⟨rfl, hb1⟩; have B1 := bchain hB0 hb1; obtain ⟨c0, c1⟩ := hd0.on hb1)
          | (go_at_call 27; refine (HR w1).mono ?_; rintro e w2 ⟨rfl, hb2⟩; have B2 := bchain B1 hb2; obtain ⟨c0, c1⟩ := (hd0.on hb1).on hb2)
          | (go_at_call 12; (with_reducible refine (C12' w2 B2).mono ?_); rintro e w3 ⟨rfl, hb3⟩; have B3 := bchain B2 hb3; have B4 := bchain B3 (below_new w3 (.cells #[.int .i64 x.1.1, .int .i64 x.1.2, .int .i64 x.2] 26)); obtain ⟨x0, x1, x2⟩ := CAt.new w3 x)
          | (go_at_call 19; (with_reducible refine (C19 _ (HV.out.on B4)).mono ?_); rintro e w5 ⟨r5, rfl, own5, hb5⟩; have B5 := bchain B4 hb5))
        have hUS : US w v l r5 m d o w5.drew := ⟨(HV.out.on B5).on (Below.refl _ _).drew, (cntsIn_own own5).on (Below.refl _ _).drew, (((((hd0.on hb1).on hb2).on hb3).on (below_new _ _)).on hb5).on (Below.refl _ _).drew, (((((ho0.on hb1).on hb2).on hb3).on (below_new _ _)).on hb5).on (Below.refl _ _).drew, B5.drew⟩
        cases q with
        | false =>
          refine wp_region_held_drew (S := fun W => US w v l r5 m d o W) (by kernel_rfl) (hUS) (fun hH0 => ?_)
          refine held_take (i := 0) (o := { dst := some 46, op := Op.move (Operand.tmp 9), type := 22, pos := "law.go:74", after := #[], guard := none }) (v := r5) (by kernel_rfl) (by kernel_rfl) (by kernel_rfl) (by kernel_rfl) (fun _ _ _ h => h) (by kernel_rfl) (fun _ _ => by kernel_rfl) hH0 ?_
          refine held_take (i := 1) (o := { dst := some 47, op := Op.load 24 (Operand.tmp 4), type := 24, pos := "law.go:74", after := #[], guard := none }) (v := dV d) (by kernel_rfl) (by kernel_rfl) (by kernel_rfl) (by kernel_rfl) (fun _ _ _ h => h) (by kernel_rfl) (fun _ h => exec_ldd rfl (by kernel_rfl) h.dot) hH0 ?_
          refine held_take (i := 3) (o := { dst := some 49, op := Op.move (Operand.tmp 0), type := 22, pos := "law.go:74", after := #[], guard := none }) (v := v) (by kernel_rfl) (by kernel_rfl) (by kernel_rfl) (by kernel_rfl) (fun _ _ _ h => h) (by kernel_rfl) (fun _ _ => by kernel_rfl) hH0 ?_
          refine held_take (i := 4) (o := { dst := some 50, op := Op.load 24 (Operand.tmp 4), type := 24, pos := "law.go:74", after := #[], guard := none }) (v := dV d) (by kernel_rfl) (by kernel_rfl) (by kernel_rfl) (by kernel_rfl) (fun _ _ _ h => h) (by kernel_rfl) (fun _ h => exec_ldd rfl (by kernel_rfl) h.dot) hH0 ?_
          refine held_callX (i := 2) (o := { dst := some 48, op := Op.call { callee := Callee.value (Operand.func 16), args := #[Operand.tmp 46, Operand.tmp 47], argTypes := #[22, 24] }, type := 4, pos := "law.go:74", after := #[{ on := 0, ground := Ground.data }, { on := 1, ground := Ground.data }], guard := none }) (F := 16) (vs := #[r5, dV d]) (by kernel_rfl) (by kernel_rfl) (by kernel_rfl) (fun _ => by kernel_rfl) (S1 _ _ hH0.new) ?_
          rintro e v1 ⟨rfl, hb1⟩
          have hH1 := hH0.on hb1
          refine ⟨.bool (!sq), rfl, hH1, ?_⟩
          refine held_callX (i := 5) (o := { dst := some 51, op := Op.call { callee := Callee.value (Operand.func 16), args := #[Operand.tmp 49, Operand.tmp 50], argTypes := #[22, 24] }, type := 4, pos := "law.go:74", after := #[{ on := 3, ground := Ground.data }, { on := 4, ground := Ground.data }, { on := 2, ground := Ground.chain }], guard := none }) (F := 16) (vs := #[v, dV d]) (by kernel_rfl) (by kernel_rfl) (by kernel_rfl) (fun _ => by kernel_rfl) (S2 _ hH1.row) ?_
          rintro e v2 ⟨rfl, hb2⟩
          have hH2 := hH1.on hb2
          refine ⟨.bool sq, rfl, hH2, ?_⟩
          refine held_take (i := 6) (o := { dst := some 52, op := Op.binOp BinOp.neq 4 (Operand.tmp 48) (Operand.tmp 51) 4, type := 4, pos := "law.go:74", after := #[{ on := 2, ground := Ground.data }, { on := 5, ground := Ground.data }], guard := none }) (v := .bool true) (by kernel_rfl) (by kernel_rfl) (by kernel_rfl) (by kernel_rfl) (fun _ _ _ h => h) (by kernel_rfl) (fun W _ => exec_bin rfl (by kernel_rfl) (by kernel_rfl) (fun _ => by kernel_rfl) (neqb_not sq) W) hH2 ?_
          refine held_take (i := 7) (o := { dst := some 53, op := Op.move (Operand.tmp 52), type := 4, pos := "law.go:74", after := #[{ on := 6, ground := Ground.data }, { on := 5, ground := Ground.chain }], guard := none }) (v := .bool true) (by kernel_rfl) (by kernel_rfl) (by kernel_rfl) (by kernel_rfl) (fun _ _ _ h => h) (by kernel_rfl) (fun _ _ => by kernel_rfl) hH2 ?_
          refine held_take (i := 8) (o := { dst := some 54, op := Op.load 24 (Operand.tmp 5), type := 24, pos := "law.go:74", after := #[{ on := 7, ground := Ground.guard }], guard := some (7, true) }) (v := dV o) (by kernel_rfl) (by kernel_rfl) (by kernel_rfl) (by kernel_rfl) (fun _ _ _ h => h) (by kernel_rfl) (fun _ h => exec_ldd rfl (by kernel_rfl) h.oth) hH2 ?_
          refine held_take (i := 9) (o := { dst := some 55, op := Op.load 24 (Operand.tmp 4), type := 24, pos := "law.go:74", after := #[{ on := 7, ground := Ground.guard }], guard := some (7, true) }) (v := dV d) (by kernel_rfl) (by kernel_rfl) (by kernel_rfl) (by kernel_rfl) (fun _ _ _ h => h) (by kernel_rfl) (fun _ h => exec_ldd rfl (by kernel_rfl) h.dot) hH2 ?_
          refine held_take (i := 10) (o := { dst := some 56, op := Op.binOp BinOp.eql 24 (Operand.tmp 54) (Operand.tmp 55) 24, type := 4, pos := "law.go:74", after := #[{ on := 8, ground := Ground.data }, { on := 9, ground := Ground.data }, { on := 7, ground := Ground.guard }], guard := some (7, true) }) (v := .bool false) (by kernel_rfl) (by kernel_rfl) (by kernel_rfl) (by kernel_rfl) (fun _ _ _ h => h) (by kernel_rfl) (fun W _ => exec_bin rfl (by kernel_rfl) (by kernel_rfl) (fun _ => by kernel_rfl) (eqd_is hq) W) hH2 ?_
          refine held_take (i := 11) (o := { dst := some 57, op := Op.move (Operand.tmp 56), type := 4, pos := "law.go:74", after := #[{ on := 10, ground := Ground.data }, { on := 7, ground := Ground.chain }, { on := 7, ground := Ground.guard }], guard := some (7, true) }) (v := .bool false) (by kernel_rfl) (by kernel_rfl) (by kernel_rfl) (by kernel_rfl) (fun _ _ _ h => h) (by kernel_rfl) (fun _ _ => by kernel_rfl) hH2 ?_
          refine held_take (i := 12) (o := { dst := some 58, op := Op.move (Operand.tmp 9), type := 22, pos := "law.go:74", after := #[{ on := 11, ground := Ground.guard }], guard := some (11, false) }) (v := r5) (by kernel_rfl) (by kernel_rfl) (by kernel_rfl) (by kernel_rfl) (fun _ _ _ h => h) (by kernel_rfl) (fun _ _ => by kernel_rfl) hH2 ?_
          refine held_take (i := 13) (o := { dst := some 59, op := Op.load 24 (Operand.tmp 5), type := 24, pos := "law.go:74", after := #[{ on := 11, ground := Ground.guard }], guard := some (11, false) }) (v := dV o) (by kernel_rfl) (by kernel_rfl) (by kernel_rfl) (by kernel_rfl) (fun _ _ _ h => h) (by kernel_rfl) (fun _ h => exec_ldd rfl (by kernel_rfl) h.oth) hH2 ?_
          refine held_take (i := 15) (o := { dst := some 61, op := Op.move (Operand.tmp 0), type := 22, pos := "law.go:74", after := #[{ on := 11, ground := Ground.guard }], guard := some (11, false) }) (v := v) (by kernel_rfl) (by kernel_rfl) (by kernel_rfl) (by kernel_rfl) (fun _ _ _ h => h) (by kernel_rfl) (fun _ _ => by kernel_rfl) hH2 ?_
          refine held_take (i := 16) (o := { dst := some 62, op := Op.load 24 (Operand.tmp 5), type := 24, pos := "law.go:74", after := #[{ on := 11, ground := Ground.guard }], guard := some (11, false) }) (v := dV o) (by kernel_rfl) (by kernel_rfl) (by kernel_rfl) (by kernel_rfl) (fun _ _ _ h => h) (by kernel_rfl) (fun _ h => exec_ldd rfl (by kernel_rfl) h.oth) hH2 ?_
          refine held_callX (i := 14) (o := { dst := some 60, op := Op.call { callee := Callee.value (Operand.func 14), args := #[Operand.tmp 58, Operand.tmp 59], argTypes := #[22, 24] }, type := 3, pos := "law.go:74", after := #[{ on := 12, ground := Ground.data }, { on := 13, ground := Ground.data }, { on := 11, ground := Ground.chain }, { on := 11, ground := Ground.guard }], guard := some (11, false) }) (F := 14) (vs := #[r5, dV o]) (by kernel_rfl) (by kernel_rfl) (by kernel_rfl) (fun _ => by kernel_rfl) (Go1 _ _ hH2.new) ?_
          rintro e v3 ⟨rfl, hb3⟩
          have hH3 := hH2.on hb3
          refine ⟨.int .i64 zm, rfl, hH3, ?_⟩
          refine held_callX (i := 17) (o := { dst := some 63, op := Op.call { callee := Callee.value (Operand.func 14), args := #[Operand.tmp 61, Operand.tmp 62], argTypes := #[22, 24] }, type := 3, pos := "law.go:74", after := #[{ on := 15, ground := Ground.data }, { on := 16, ground := Ground.data }, { on := 14, ground := Ground.chain }, { on := 11, ground := Ground.guard }], guard := some (11, false) }) (F := 14) (vs := #[v, dV o]) (by kernel_rfl) (by kernel_rfl) (by kernel_rfl) (fun _ => by kernel_rfl) (Go2 _ hH3.row) ?_
          rintro e v4 ⟨rfl, hb4⟩
          have hH4 := hH3.on hb4
          refine ⟨.int .i64 zo, rfl, hH4, ?_⟩
          refine held_take (i := 18) (o := { dst := some 64, op := Op.binOp BinOp.eql 3 (Operand.tmp 60) (Operand.tmp 63) 3, type := 4, pos := "law.go:74", after := #[{ on := 14, ground := Ground.data }, { on := 17, ground := Ground.data }, { on := 11, ground := Ground.guard }], guard := some (11, false) }) (v := .bool true) (by kernel_rfl) (by kernel_rfl) (by kernel_rfl) (by kernel_rfl) (fun _ _ _ h => h) (by kernel_rfl) (fun W _ => exec_bin rfl (by kernel_rfl) (by kernel_rfl) (fun _ => by kernel_rfl) (eqi_yes (hgo rfl) 3 (Or.inl rfl)) W) hH4 ?_
          refine held_take (i := 19) (o := { dst := some 65, op := Op.pick (Operand.tmp 57) (Operand.const (Value.bool true)) (Operand.tmp 64), type := 4, pos := "law.go:74", after := #[{ on := 11, ground := Ground.data }, { on := 18, ground := Ground.data }, { on := 7, ground := Ground.guard }], guard := some (7, true) }) (v := .bool true) (by kernel_rfl) (by kernel_rfl) (by kernel_rfl) (by kernel_rfl) (fun _ _ _ h => h) (by kernel_rfl) (fun _ _ => by kernel_rfl) hH4 ?_
          refine held_take (i := 20) (o := { dst := some 66, op := Op.pick (Operand.tmp 53) (Operand.tmp 65) (Operand.const (Value.bool false)), type := 4, pos := "law.go:74", after := #[{ on := 7, ground := Ground.data }, { on := 19, ground := Ground.data }], guard := none }) (v := .bool true) (by kernel_rfl) (by kernel_rfl) (by kernel_rfl) (by kernel_rfl) (fun _ _ _ h => h) (by kernel_rfl) (fun _ _ => by kernel_rfl) hH4 ?_
          refine held_take (i := 21) (o := { dst := some 67, op := Op.move (Operand.tmp 66), type := 4, pos := "law.go:74", after := #[{ on := 20, ground := Ground.data }, { on := 17, ground := Ground.chain }], guard := none }) (v := .bool true) (by kernel_rfl) (by kernel_rfl) (by kernel_rfl) (by kernel_rfl) (fun _ _ _ h => h) (by kernel_rfl) (fun _ _ => by kernel_rfl) hH4 ?_
          refine held_take (i := 22) (o := { dst := some 68, op := Op.move (Operand.tmp 9), type := 22, pos := "law.go:74", after := #[{ on := 21, ground := Ground.guard }], guard := some (21, true) }) (v := r5) (by kernel_rfl) (by kernel_rfl) (by kernel_rfl) (by kernel_rfl) (fun _ _ _ h => h) (by kernel_rfl) (fun _ _ => by kernel_rfl) hH4 ?_
          refine held_take (i := 23) (o := { dst := some 69, op := Op.load 24 (Operand.tmp 4), type := 24, pos := "law.go:74", after := #[{ on := 21, ground := Ground.guard }], guard := some (21, true) }) (v := dV d) (by kernel_rfl) (by kernel_rfl) (by kernel_rfl) (by kernel_rfl) (fun _ _ _ h => h) (by kernel_rfl) (fun _ h => exec_ldd rfl (by kernel_rfl) h.dot) hH4 ?_
          refine held_take (i := 25) (o := { dst := some 71, op := Op.move (Operand.tmp 0), type := 22, pos := "law.go:74", after := #[{ on := 21, ground := Ground.guard }], guard := some (21, true) }) (v := v) (by kernel_rfl) (by kernel_rfl) (by kernel_rfl) (by kernel_rfl) (fun _ _ _ h => h) (by kernel_rfl) (fun _ _ => by kernel_rfl) hH4 ?_
          refine held_take (i := 26) (o := { dst := some 72, op := Op.load 24 (Operand.tmp 4), type := 24, pos := "law.go:74", after := #[{ on := 21, ground := Ground.guard }], guard := some (21, true) }) (v := dV d) (by kernel_rfl) (by kernel_rfl) (by kernel_rfl) (by kernel_rfl) (fun _ _ _ h => h) (by kernel_rfl) (fun _ h => exec_ldd rfl (by kernel_rfl) h.dot) hH4 ?_
          refine held_callX (i := 24) (o := { dst := some 70, op := Op.call { callee := Callee.value (Operand.func 14), args := #[Operand.tmp 68, Operand.tmp 69], argTypes := #[22, 24] }, type := 3, pos := "law.go:74", after := #[{ on := 22, ground := Ground.data }, { on := 23, ground := Ground.data }, { on := 21, ground := Ground.chain }, { on := 21, ground := Ground.guard }], guard := some (21, true) }) (F := 14) (vs := #[r5, dV d]) (by kernel_rfl) (by kernel_rfl) (by kernel_rfl) (fun _ => by kernel_rfl) (G1 _ _ hH4.new) ?_
          rintro e v5 ⟨rfl, hb5⟩
          have hH5 := hH4.on hb5
          refine ⟨.int .i64 (z + 1), rfl, hH5, ?_⟩
          refine held_callX (i := 27) (o := { dst := some 73, op := Op.call { callee := Callee.value (Operand.func 14), args := #[Operand.tmp 71, Operand.tmp 72], argTypes := #[22, 24] }, type := 3, pos := "law.go:74", after := #[{ on := 25, ground := Ground.data }, { on := 26, ground := Ground.data }, { on := 24, ground := Ground.chain }, { on := 21, ground := Ground.guard }], guard := some (21, true) }) (F := 14) (vs := #[v, dV d]) (by kernel_rfl) (by kernel_rfl) (by kernel_rfl) (fun _ => by kernel_rfl) (G _ hH5.row) ?_
          rintro e v6 ⟨rfl, hb6⟩
          have hH6 := hH5.on hb6
          refine ⟨.int .i64 z, rfl, hH6, ?_⟩
          refine held_take (i := 28) (o := { dst := some 74, op := Op.binOp BinOp.add 3 (Operand.tmp 73) (Operand.const (Value.int IntKind.i64 1)) 3, type := 3, pos := "law.go:74", after := #[{ on := 27, ground := Ground.data }, { on := 21, ground := Ground.guard }], guard := some (21, true) }) (v := .int .i64 (z + 1)) (by kernel_rfl) (by kernel_rfl) (by kernel_rfl) (by kernel_rfl) (fun _ _ _ h => h) (by kernel_rfl) (fun W _ => exec_bin rfl (by kernel_rfl) (by kernel_rfl) (fun _ => by kernel_rfl) (hadd) W) hH6 ?_
          refine held_take (i := 29) (o := { dst := some 75, op := Op.binOp BinOp.eql 3 (Operand.tmp 70) (Operand.tmp 74) 3, type := 4, pos := "law.go:74", after := #[{ on := 24, ground := Ground.data }, { on := 28, ground := Ground.data }, { on := 21, ground := Ground.guard }], guard := some (21, true) }) (v := .bool true) (by kernel_rfl) (by kernel_rfl) (by kernel_rfl) (by kernel_rfl) (fun _ _ _ h => h) (by kernel_rfl) (fun W _ => exec_bin rfl (by kernel_rfl) (by kernel_rfl) (fun _ => by kernel_rfl) (eqi_yes (a := z + 1) (b := z + 1) rfl 3 (Or.inl rfl)) W) hH6 ?_
          refine held_take (i := 30) (o := { dst := some 76, op := Op.pick (Operand.tmp 67) (Operand.tmp 75) (Operand.const (Value.bool false)), type := 4, pos := "law.go:74", after := #[{ on := 21, ground := Ground.data }, { on := 29, ground := Ground.data }], guard := none }) (v := .bool true) (by kernel_rfl) (by kernel_rfl) (by kernel_rfl) (by kernel_rfl) (fun _ _ _ h => h) (by kernel_rfl) (fun _ _ => by kernel_rfl) hH6 ?_
          refine held_take (i := 31) (o := { dst := some 77, op := Op.move (Operand.tmp 76), type := 4, pos := "law.go:74", after := #[{ on := 30, ground := Ground.data }, { on := 27, ground := Ground.chain }], guard := none }) (v := .bool true) (by kernel_rfl) (by kernel_rfl) (by kernel_rfl) (by kernel_rfl) (fun _ _ _ h => h) (by kernel_rfl) (fun _ _ => by kernel_rfl) hH6 ?_
          refine held_callX (i := 32) (o := { dst := some 78, op := Op.call { callee := Callee.value (Operand.func 9), args := #[], argTypes := #[] }, type := 4, pos := "law.go:74", after := #[{ on := 31, ground := Ground.chain }, { on := 31, ground := Ground.guard }], guard := some (31, true) }) (F := 9) (vs := #[]) (by kernel_rfl) (by kernel_rfl) (by kernel_rfl) (fun _ => by kernel_rfl) (awake_any _) ?_
          rintro e v7 ⟨rfl, hb7⟩
          have hH7 := hH6.on hb7
          refine ⟨.bool true, rfl, hH7, ?_⟩
          refine held_take (i := 33) (o := { dst := some 79, op := Op.pick (Operand.tmp 77) (Operand.tmp 78) (Operand.const (Value.bool false)), type := 4, pos := "law.go:74", after := #[{ on := 31, ground := Ground.data }, { on := 32, ground := Ground.data }], guard := none }) (v := .bool true) (by kernel_rfl) (by kernel_rfl) (by kernel_rfl) (by kernel_rfl) (fun _ _ _ h => h) (by kernel_rfl) (fun _ _ => by kernel_rfl) hH7 ?_
          refine held_do (i := 34) (o := { dst := some 6, op := Op.assign (Operand.tmp 79), type := 4, pos := "law.go:74", after := #[{ on := 33, ground := Ground.data }, { on := 32, ground := Ground.chain }, { on := 0, ground := Ground.phase }, { on := 1, ground := Ground.phase }, { on := 2, ground := Ground.phase }, { on := 3, ground := Ground.phase }, { on := 4, ground := Ground.phase }, { on := 5, ground := Ground.phase }, { on := 6, ground := Ground.phase }, { on := 7, ground := Ground.phase }, { on := 8, ground := Ground.phase }, { on := 9, ground := Ground.phase }, { on := 10, ground := Ground.phase }, { on := 11, ground := Ground.phase }, { on := 12, ground := Ground.phase }, { on := 13, ground := Ground.phase }, { on := 14, ground := Ground.phase }, { on := 15, ground := Ground.phase }, { on := 16, ground := Ground.phase }, { on := 17, ground := Ground.phase }, { on := 18, ground := Ground.phase }, { on := 19, ground := Ground.phase }, { on := 20, ground := Ground.phase }, { on := 21, ground := Ground.phase }, { on := 22, ground := Ground.phase }, { on := 23, ground := Ground.phase }, { on := 24, ground := Ground.phase }, { on := 25, ground := Ground.phase }, { on := 26, ground := Ground.phase }, { on := 27, ground := Ground.phase }, { on := 28, ground := Ground.phase }, { on := 29, ground := Ground.phase }, { on := 30, ground := Ground.phase }, { on := 31, ground := Ground.phase }, { on := 32, ground := Ground.phase }, { on := 33, ground := Ground.phase }], guard := none }) (v := .bool true) (by kernel_rfl) (by kernel_rfl) (by kernel_rfl) (by kernel_rfl) hH7 ?_
          refine wpAnyH_done (by kernel_rfl) ?_ _
          simp only [Act.put, List.setIfInBounds_toArray, List.set_cons_zero, List.set_cons_succ]
          go_wp2
          go_ret
          exact ⟨rfl, hH7.below⟩
        | true =>
          refine wp_region_held_drew (S := fun W => US w v l r5 m d o W) (by kernel_rfl) (hUS) (fun hH0 => ?_)
          refine held_take (i := 0) (o := { dst := some 46, op := Op.move (Operand.tmp 9), type := 22, pos := "law.go:74", after := #[], guard := none }) (v := r5) (by kernel_rfl) (by kernel_rfl) (by kernel_rfl) (by kernel_rfl) (fun _ _ _ h => h) (by kernel_rfl) (fun _ _ => by kernel_rfl) hH0 ?_
          refine held_take (i := 1) (o := { dst := some 47, op := Op.load 24 (Operand.tmp 4), type := 24, pos := "law.go:74", after := #[], guard := none }) (v := dV d) (by kernel_rfl) (by kernel_rfl) (by kernel_rfl) (by kernel_rfl) (fun _ _ _ h => h) (by kernel_rfl) (fun _ h => exec_ldd rfl (by kernel_rfl) h.dot) hH0 ?_
          refine held_take (i := 3) (o := { dst := some 49, op := Op.move (Operand.tmp 0), type := 22, pos := "law.go:74", after := #[], guard := none }) (v := v) (by kernel_rfl) (by kernel_rfl) (by kernel_rfl) (by kernel_rfl) (fun _ _ _ h => h) (by kernel_rfl) (fun _ _ => by kernel_rfl) hH0 ?_
          refine held_take (i := 4) (o := { dst := some 50, op := Op.load 24 (Operand.tmp 4), type := 24, pos := "law.go:74", after := #[], guard := none }) (v := dV d) (by kernel_rfl) (by kernel_rfl) (by kernel_rfl) (by kernel_rfl) (fun _ _ _ h => h) (by kernel_rfl) (fun _ h => exec_ldd rfl (by kernel_rfl) h.dot) hH0 ?_
          refine held_callX (i := 2) (o := { dst := some 48, op := Op.call { callee := Callee.value (Operand.func 16), args := #[Operand.tmp 46, Operand.tmp 47], argTypes := #[22, 24] }, type := 4, pos := "law.go:74", after := #[{ on := 0, ground := Ground.data }, { on := 1, ground := Ground.data }], guard := none }) (F := 16) (vs := #[r5, dV d]) (by kernel_rfl) (by kernel_rfl) (by kernel_rfl) (fun _ => by kernel_rfl) (S1 _ _ hH0.new) ?_
          rintro e v1 ⟨rfl, hb1⟩
          have hH1 := hH0.on hb1
          refine ⟨.bool (!sq), rfl, hH1, ?_⟩
          refine held_callX (i := 5) (o := { dst := some 51, op := Op.call { callee := Callee.value (Operand.func 16), args := #[Operand.tmp 49, Operand.tmp 50], argTypes := #[22, 24] }, type := 4, pos := "law.go:74", after := #[{ on := 3, ground := Ground.data }, { on := 4, ground := Ground.data }, { on := 2, ground := Ground.chain }], guard := none }) (F := 16) (vs := #[v, dV d]) (by kernel_rfl) (by kernel_rfl) (by kernel_rfl) (fun _ => by kernel_rfl) (S2 _ hH1.row) ?_
          rintro e v2 ⟨rfl, hb2⟩
          have hH2 := hH1.on hb2
          refine ⟨.bool sq, rfl, hH2, ?_⟩
          refine held_take (i := 6) (o := { dst := some 52, op := Op.binOp BinOp.neq 4 (Operand.tmp 48) (Operand.tmp 51) 4, type := 4, pos := "law.go:74", after := #[{ on := 2, ground := Ground.data }, { on := 5, ground := Ground.data }], guard := none }) (v := .bool true) (by kernel_rfl) (by kernel_rfl) (by kernel_rfl) (by kernel_rfl) (fun _ _ _ h => h) (by kernel_rfl) (fun W _ => exec_bin rfl (by kernel_rfl) (by kernel_rfl) (fun _ => by kernel_rfl) (neqb_not sq) W) hH2 ?_
          refine held_take (i := 7) (o := { dst := some 53, op := Op.move (Operand.tmp 52), type := 4, pos := "law.go:74", after := #[{ on := 6, ground := Ground.data }, { on := 5, ground := Ground.chain }], guard := none }) (v := .bool true) (by kernel_rfl) (by kernel_rfl) (by kernel_rfl) (by kernel_rfl) (fun _ _ _ h => h) (by kernel_rfl) (fun _ _ => by kernel_rfl) hH2 ?_
          refine held_take (i := 8) (o := { dst := some 54, op := Op.load 24 (Operand.tmp 5), type := 24, pos := "law.go:74", after := #[{ on := 7, ground := Ground.guard }], guard := some (7, true) }) (v := dV o) (by kernel_rfl) (by kernel_rfl) (by kernel_rfl) (by kernel_rfl) (fun _ _ _ h => h) (by kernel_rfl) (fun _ h => exec_ldd rfl (by kernel_rfl) h.oth) hH2 ?_
          refine held_take (i := 9) (o := { dst := some 55, op := Op.load 24 (Operand.tmp 4), type := 24, pos := "law.go:74", after := #[{ on := 7, ground := Ground.guard }], guard := some (7, true) }) (v := dV d) (by kernel_rfl) (by kernel_rfl) (by kernel_rfl) (by kernel_rfl) (fun _ _ _ h => h) (by kernel_rfl) (fun _ h => exec_ldd rfl (by kernel_rfl) h.dot) hH2 ?_
          refine held_take (i := 10) (o := { dst := some 56, op := Op.binOp BinOp.eql 24 (Operand.tmp 54) (Operand.tmp 55) 24, type := 4, pos := "law.go:74", after := #[{ on := 8, ground := Ground.data }, { on := 9, ground := Ground.data }, { on := 7, ground := Ground.guard }], guard := some (7, true) }) (v := .bool true) (by kernel_rfl) (by kernel_rfl) (by kernel_rfl) (by kernel_rfl) (fun _ _ _ h => h) (by kernel_rfl) (fun W _ => exec_bin rfl (by kernel_rfl) (by kernel_rfl) (fun _ => by kernel_rfl) (eqd_is hq) W) hH2 ?_
          refine held_take (i := 11) (o := { dst := some 57, op := Op.move (Operand.tmp 56), type := 4, pos := "law.go:74", after := #[{ on := 10, ground := Ground.data }, { on := 7, ground := Ground.chain }, { on := 7, ground := Ground.guard }], guard := some (7, true) }) (v := .bool true) (by kernel_rfl) (by kernel_rfl) (by kernel_rfl) (by kernel_rfl) (fun _ _ _ h => h) (by kernel_rfl) (fun _ _ => by kernel_rfl) hH2 ?_
          refine held_skip (i := 12) (o := { dst := some 58, op := Op.move (Operand.tmp 9), type := 22, pos := "law.go:74", after := #[{ on := 11, ground := Ground.guard }], guard := some (11, false) }) (by kernel_rfl) (by kernel_rfl) (by kernel_rfl) (by kernel_rfl) (fun _ _ _ h => h) (by kernel_rfl) hH2 ?_
          refine held_skip (i := 13) (o := { dst := some 59, op := Op.load 24 (Operand.tmp 5), type := 24, pos := "law.go:74", after := #[{ on := 11, ground := Ground.guard }], guard := some (11, false) }) (by kernel_rfl) (by kernel_rfl) (by kernel_rfl) (by kernel_rfl) (fun _ _ _ h => h) (by kernel_rfl) hH2 ?_
          refine held_skip (i := 15) (o := { dst := some 61, op := Op.move (Operand.tmp 0), type := 22, pos := "law.go:74", after := #[{ on := 11, ground := Ground.guard }], guard := some (11, false) }) (by kernel_rfl) (by kernel_rfl) (by kernel_rfl) (by kernel_rfl) (fun _ _ _ h => h) (by kernel_rfl) hH2 ?_
          refine held_skip (i := 16) (o := { dst := some 62, op := Op.load 24 (Operand.tmp 5), type := 24, pos := "law.go:74", after := #[{ on := 11, ground := Ground.guard }], guard := some (11, false) }) (by kernel_rfl) (by kernel_rfl) (by kernel_rfl) (by kernel_rfl) (fun _ _ _ h => h) (by kernel_rfl) hH2 ?_
          refine held_skip (i := 14) (o := { dst := some 60, op := Op.call { callee := Callee.value (Operand.func 14), args := #[Operand.tmp 58, Operand.tmp 59], argTypes := #[22, 24] }, type := 3, pos := "law.go:74", after := #[{ on := 12, ground := Ground.data }, { on := 13, ground := Ground.data }, { on := 11, ground := Ground.chain }, { on := 11, ground := Ground.guard }], guard := some (11, false) }) (by kernel_rfl) (by kernel_rfl) (by kernel_rfl) (by kernel_rfl) (fun _ _ _ h => h) (by kernel_rfl) hH2 ?_
          refine held_skip (i := 17) (o := { dst := some 63, op := Op.call { callee := Callee.value (Operand.func 14), args := #[Operand.tmp 61, Operand.tmp 62], argTypes := #[22, 24] }, type := 3, pos := "law.go:74", after := #[{ on := 15, ground := Ground.data }, { on := 16, ground := Ground.data }, { on := 14, ground := Ground.chain }, { on := 11, ground := Ground.guard }], guard := some (11, false) }) (by kernel_rfl) (by kernel_rfl) (by kernel_rfl) (by kernel_rfl) (fun _ _ _ h => h) (by kernel_rfl) hH2 ?_
          refine held_skip (i := 18) (o := { dst := some 64, op := Op.binOp BinOp.eql 3 (Operand.tmp 60) (Operand.tmp 63) 3, type := 4, pos := "law.go:74", after := #[{ on := 14, ground := Ground.data }, { on := 17, ground := Ground.data }, { on := 11, ground := Ground.guard }], guard := some (11, false) }) (by kernel_rfl) (by kernel_rfl) (by kernel_rfl) (by kernel_rfl) (fun _ _ _ h => h) (by kernel_rfl) hH2 ?_
          refine held_take (i := 19) (o := { dst := some 65, op := Op.pick (Operand.tmp 57) (Operand.const (Value.bool true)) (Operand.tmp 64), type := 4, pos := "law.go:74", after := #[{ on := 11, ground := Ground.data }, { on := 18, ground := Ground.data }, { on := 7, ground := Ground.guard }], guard := some (7, true) }) (v := .bool true) (by kernel_rfl) (by kernel_rfl) (by kernel_rfl) (by kernel_rfl) (fun _ _ _ h => h) (by kernel_rfl) (fun _ _ => by kernel_rfl) hH2 ?_
          refine held_take (i := 20) (o := { dst := some 66, op := Op.pick (Operand.tmp 53) (Operand.tmp 65) (Operand.const (Value.bool false)), type := 4, pos := "law.go:74", after := #[{ on := 7, ground := Ground.data }, { on := 19, ground := Ground.data }], guard := none }) (v := .bool true) (by kernel_rfl) (by kernel_rfl) (by kernel_rfl) (by kernel_rfl) (fun _ _ _ h => h) (by kernel_rfl) (fun _ _ => by kernel_rfl) hH2 ?_
          refine held_take (i := 21) (o := { dst := some 67, op := Op.move (Operand.tmp 66), type := 4, pos := "law.go:74", after := #[{ on := 20, ground := Ground.data }, { on := 17, ground := Ground.chain }], guard := none }) (v := .bool true) (by kernel_rfl) (by kernel_rfl) (by kernel_rfl) (by kernel_rfl) (fun _ _ _ h => h) (by kernel_rfl) (fun _ _ => by kernel_rfl) hH2 ?_
          refine held_take (i := 22) (o := { dst := some 68, op := Op.move (Operand.tmp 9), type := 22, pos := "law.go:74", after := #[{ on := 21, ground := Ground.guard }], guard := some (21, true) }) (v := r5) (by kernel_rfl) (by kernel_rfl) (by kernel_rfl) (by kernel_rfl) (fun _ _ _ h => h) (by kernel_rfl) (fun _ _ => by kernel_rfl) hH2 ?_
          refine held_take (i := 23) (o := { dst := some 69, op := Op.load 24 (Operand.tmp 4), type := 24, pos := "law.go:74", after := #[{ on := 21, ground := Ground.guard }], guard := some (21, true) }) (v := dV d) (by kernel_rfl) (by kernel_rfl) (by kernel_rfl) (by kernel_rfl) (fun _ _ _ h => h) (by kernel_rfl) (fun _ h => exec_ldd rfl (by kernel_rfl) h.dot) hH2 ?_
          refine held_take (i := 25) (o := { dst := some 71, op := Op.move (Operand.tmp 0), type := 22, pos := "law.go:74", after := #[{ on := 21, ground := Ground.guard }], guard := some (21, true) }) (v := v) (by kernel_rfl) (by kernel_rfl) (by kernel_rfl) (by kernel_rfl) (fun _ _ _ h => h) (by kernel_rfl) (fun _ _ => by kernel_rfl) hH2 ?_
          refine held_take (i := 26) (o := { dst := some 72, op := Op.load 24 (Operand.tmp 4), type := 24, pos := "law.go:74", after := #[{ on := 21, ground := Ground.guard }], guard := some (21, true) }) (v := dV d) (by kernel_rfl) (by kernel_rfl) (by kernel_rfl) (by kernel_rfl) (fun _ _ _ h => h) (by kernel_rfl) (fun _ h => exec_ldd rfl (by kernel_rfl) h.dot) hH2 ?_
          refine held_callX (i := 24) (o := { dst := some 70, op := Op.call { callee := Callee.value (Operand.func 14), args := #[Operand.tmp 68, Operand.tmp 69], argTypes := #[22, 24] }, type := 3, pos := "law.go:74", after := #[{ on := 22, ground := Ground.data }, { on := 23, ground := Ground.data }, { on := 21, ground := Ground.chain }, { on := 21, ground := Ground.guard }], guard := some (21, true) }) (F := 14) (vs := #[r5, dV d]) (by kernel_rfl) (by kernel_rfl) (by kernel_rfl) (fun _ => by kernel_rfl) (G1 _ _ hH2.new) ?_
          rintro e v3 ⟨rfl, hb3⟩
          have hH3 := hH2.on hb3
          refine ⟨.int .i64 (z + 1), rfl, hH3, ?_⟩
          refine held_callX (i := 27) (o := { dst := some 73, op := Op.call { callee := Callee.value (Operand.func 14), args := #[Operand.tmp 71, Operand.tmp 72], argTypes := #[22, 24] }, type := 3, pos := "law.go:74", after := #[{ on := 25, ground := Ground.data }, { on := 26, ground := Ground.data }, { on := 24, ground := Ground.chain }, { on := 21, ground := Ground.guard }], guard := some (21, true) }) (F := 14) (vs := #[v, dV d]) (by kernel_rfl) (by kernel_rfl) (by kernel_rfl) (fun _ => by kernel_rfl) (G _ hH3.row) ?_
          rintro e v4 ⟨rfl, hb4⟩
          have hH4 := hH3.on hb4
          refine ⟨.int .i64 z, rfl, hH4, ?_⟩
          refine held_take (i := 28) (o := { dst := some 74, op := Op.binOp BinOp.add 3 (Operand.tmp 73) (Operand.const (Value.int IntKind.i64 1)) 3, type := 3, pos := "law.go:74", after := #[{ on := 27, ground := Ground.data }, { on := 21, ground := Ground.guard }], guard := some (21, true) }) (v := .int .i64 (z + 1)) (by kernel_rfl) (by kernel_rfl) (by kernel_rfl) (by kernel_rfl) (fun _ _ _ h => h) (by kernel_rfl) (fun W _ => exec_bin rfl (by kernel_rfl) (by kernel_rfl) (fun _ => by kernel_rfl) (hadd) W) hH4 ?_
          refine held_take (i := 29) (o := { dst := some 75, op := Op.binOp BinOp.eql 3 (Operand.tmp 70) (Operand.tmp 74) 3, type := 4, pos := "law.go:74", after := #[{ on := 24, ground := Ground.data }, { on := 28, ground := Ground.data }, { on := 21, ground := Ground.guard }], guard := some (21, true) }) (v := .bool true) (by kernel_rfl) (by kernel_rfl) (by kernel_rfl) (by kernel_rfl) (fun _ _ _ h => h) (by kernel_rfl) (fun W _ => exec_bin rfl (by kernel_rfl) (by kernel_rfl) (fun _ => by kernel_rfl) (eqi_yes (a := z + 1) (b := z + 1) rfl 3 (Or.inl rfl)) W) hH4 ?_
          refine held_take (i := 30) (o := { dst := some 76, op := Op.pick (Operand.tmp 67) (Operand.tmp 75) (Operand.const (Value.bool false)), type := 4, pos := "law.go:74", after := #[{ on := 21, ground := Ground.data }, { on := 29, ground := Ground.data }], guard := none }) (v := .bool true) (by kernel_rfl) (by kernel_rfl) (by kernel_rfl) (by kernel_rfl) (fun _ _ _ h => h) (by kernel_rfl) (fun _ _ => by kernel_rfl) hH4 ?_
          refine held_take (i := 31) (o := { dst := some 77, op := Op.move (Operand.tmp 76), type := 4, pos := "law.go:74", after := #[{ on := 30, ground := Ground.data }, { on := 27, ground := Ground.chain }], guard := none }) (v := .bool true) (by kernel_rfl) (by kernel_rfl) (by kernel_rfl) (by kernel_rfl) (fun _ _ _ h => h) (by kernel_rfl) (fun _ _ => by kernel_rfl) hH4 ?_
          refine held_callX (i := 32) (o := { dst := some 78, op := Op.call { callee := Callee.value (Operand.func 9), args := #[], argTypes := #[] }, type := 4, pos := "law.go:74", after := #[{ on := 31, ground := Ground.chain }, { on := 31, ground := Ground.guard }], guard := some (31, true) }) (F := 9) (vs := #[]) (by kernel_rfl) (by kernel_rfl) (by kernel_rfl) (fun _ => by kernel_rfl) (awake_any _) ?_
          rintro e v5 ⟨rfl, hb5⟩
          have hH5 := hH4.on hb5
          refine ⟨.bool true, rfl, hH5, ?_⟩
          refine held_take (i := 33) (o := { dst := some 79, op := Op.pick (Operand.tmp 77) (Operand.tmp 78) (Operand.const (Value.bool false)), type := 4, pos := "law.go:74", after := #[{ on := 31, ground := Ground.data }, { on := 32, ground := Ground.data }], guard := none }) (v := .bool true) (by kernel_rfl) (by kernel_rfl) (by kernel_rfl) (by kernel_rfl) (fun _ _ _ h => h) (by kernel_rfl) (fun _ _ => by kernel_rfl) hH5 ?_
          refine held_do (i := 34) (o := { dst := some 6, op := Op.assign (Operand.tmp 79), type := 4, pos := "law.go:74", after := #[{ on := 33, ground := Ground.data }, { on := 32, ground := Ground.chain }, { on := 0, ground := Ground.phase }, { on := 1, ground := Ground.phase }, { on := 2, ground := Ground.phase }, { on := 3, ground := Ground.phase }, { on := 4, ground := Ground.phase }, { on := 5, ground := Ground.phase }, { on := 6, ground := Ground.phase }, { on := 7, ground := Ground.phase }, { on := 8, ground := Ground.phase }, { on := 9, ground := Ground.phase }, { on := 10, ground := Ground.phase }, { on := 11, ground := Ground.phase }, { on := 12, ground := Ground.phase }, { on := 13, ground := Ground.phase }, { on := 14, ground := Ground.phase }, { on := 15, ground := Ground.phase }, { on := 16, ground := Ground.phase }, { on := 17, ground := Ground.phase }, { on := 18, ground := Ground.phase }, { on := 19, ground := Ground.phase }, { on := 20, ground := Ground.phase }, { on := 21, ground := Ground.phase }, { on := 22, ground := Ground.phase }, { on := 23, ground := Ground.phase }, { on := 24, ground := Ground.phase }, { on := 25, ground := Ground.phase }, { on := 26, ground := Ground.phase }, { on := 27, ground := Ground.phase }, { on := 28, ground := Ground.phase }, { on := 29, ground := Ground.phase }, { on := 30, ground := Ground.phase }, { on := 31, ground := Ground.phase }, { on := 32, ground := Ground.phase }, { on := 33, ground := Ground.phase }], guard := none }) (v := .bool true) (by kernel_rfl) (by kernel_rfl) (by kernel_rfl) (by kernel_rfl) hH5 ?_
          refine wpAnyH_done (by kernel_rfl) ?_ _
          simp only [Act.put, List.setIfInBounds_toArray, List.set_cons_zero, List.set_cons_succ]
          go_wp2
          go_ret
          exact ⟨rfl, hH5.below⟩
end Go.Proofs.Ytpheljlnlbiieaa
