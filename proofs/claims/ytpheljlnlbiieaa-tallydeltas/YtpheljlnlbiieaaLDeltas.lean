/- The walk of the statement TallyDeltas. -/
import Derived.Test.YtpheljlnlbiieaaLTells
namespace Go.Proofs.Ytpheljlnlbiieaa
open Go.RowKit Go.Shelf
set_option linter.unusedVariables false

/-- What holds while the last statement is told. -/
structure DS (w : World) (va vb vo vj : Value) (a b o j : List U) (d : D) (W : World) : Prop where
  fst : cntsIn W va a
  snd : cntsIn W vb b
  ovr : cntsIn W vo o
  jn : cntsIn W vj j
  dot : DAt W w.heap.size d
  below : Below w.heap.size w W
theorem DS.on {w : World} {va vb vo vj : Value} {a b o j : List U} {d : D} {W W' : World} (h : DS w va vb vo vj a b o j d W) (hb : Below W.heap.size W W') : DS w va vb vo vj a b o j d W' := ⟨h.fst.on hb, h.snd.on hb, h.ovr.on hb, h.jn.on hb, h.dot.on hb, bchain h.below hb⟩
theorem gtr_is {a b : Int} {q : Bool} (h : decide (b < a) = q) (w : World) : (binOp .gtr 3 (.int .i64 a) (.int .i64 b)).run Try.prog w = .ok (.bool q) w := by
  subst h
  by_cases e : b < a
  · rw [decide_eq_true e]; exact gtr_yes e w
  · rw [decide_eq_false e]; exact gtr_no (by omega) w
theorem over_empty (va vj : Value) (a j : List U) (w : World) (ha : cntsIn w va a) (hj : cntsIn w vj j) (hn : a.length ≤ 1000000) (hn' : j.length ≤ 1000000) (hp : Ct.Std j) (he : Ct.over a j = []) :
    Calls Try.prog 23 #[va, vj] w fun e w' => ∃ ao cap, e = .returned (.slice ao 0 cap) ∧ Below w.heap.size w w' := by
  refine (over_any va vj a j w ha hj hn hn' hp).mono ?_
  rintro e w1 ⟨r, rfl, hr, hb⟩
  rw [he] at hr
  obtain ⟨ao, c, rfl, _⟩ := hr
  exact ⟨ao, c, rfl, hb⟩

set_option maxRecDepth 20000 in
set_option maxHeartbeats 4000000 in
theorem tallyDeltas_walk (va : Value) (a : List U) (vb : Value) (b : List U) (d : D) (w : World) (ha : cntsIn w va a) (hb : cntsIn w vb b) :
    Calls Try.prog 6 #[va, vb, dV d] w fun e w' => e = .returned (.bool true) ∧ Below w.heap.size w w' := by
  obtain ⟨W0, hW0⟩ : ∃ W0, W0 = w.alloc (.cells #[.int .i64 d.1, .int .i64 d.2] 24) := ⟨_, rfl⟩
  have hB0 : Below w.heap.size w W0 := by rw [hW0]; exact below_new _ _
  have hd0 : DAt W0 w.heap.size d := by rw [hW0]; exact DAt.new w d
  have HGa := good_any va a W0 (ha.on hB0)
  have HGb := fun W (h : Below w.heap.size w W) => good_any vb b W (hb.on h)
  cases qa : goodU a with
  | false =>
    rw [qa] at HGa
    clear ha hb HGb
    go_enter Try.func6, Try.ntmps6
    go_wp2_with (first | (go_at_call 21; rw [← hW0]; (with_reducible refine HGa.mono ?_); rintro e w1 ⟨rfl, hb1⟩) | (go_at_call 9; refine (awake_any _).mono ?_; rintro e w2 ⟨rfl, hb2⟩))
    go_ret
    exact ⟨rfl, bchain hB0 (bchain hb1 hb2)⟩
  | true =>
    rw [qa] at HGa
    cases qb : goodU b with
    | false =>
      simp only [qb] at HGb
      clear ha hb
      go_enter Try.func6, Try.ntmps6
      go_wp2_with (first | (go_at_call 21; first | (rw [← hW0]; (with_reducible refine HGa.mono ?_); rintro e w1 ⟨rfl, hb1⟩) | ((with_reducible refine (HGb w1 (bchain hB0 hb1)).mono ?_); rintro e w2 ⟨rfl, hb2⟩)) | (go_at_call 9; refine (awake_any _).mono ?_; rintro e w3 ⟨rfl, hb3⟩))
      go_ret
      exact ⟨rfl, bchain (bchain (bchain hB0 hb1) hb2) hb3⟩
    | true =>
      simp only [qb] at HGb
      obtain ⟨la, sa⟩ := goodU_iff.1 qa
      obtain ⟨lb, sb⟩ := goodU_iff.1 qb
      have sj := Ct.join_std sa sb
      have so := Ct.over_std sa b
      have lj := Ct.join_length a b
      have lo : (Ct.over a b).length ≤ 100 := Nat.le_trans (List.length_filter_le _ _) la
      have hjo := Ct.join_over sa sb
      have hoj := Ct.over_join sa sb
      have hpos := Ct.over_pos sa sb d
      have hgj := Ct.get_join sa sb d
      have C23 := fun W (h : Below w.heap.size w W) => over_any va vb a b W (ha.on h) (hb.on h) (by omega) (by omega) sb
      have C22 := fun W (h : Below w.heap.size w W) => join_any va vb a b W (ha.on h) (hb.on h) (by omega)
      have C22b := fun W (vo : Value) (h : cntsIn W vb b) (k : cntsIn W vo (Ct.over a b)) => join_any vb vo b (Ct.over a b) W h k (by omega)
      rw [hjo] at C22b
      have C26 := fun W (r s : Value) (h : cntsIn W r (Ct.join a b)) (k : cntsIn W s (Ct.join a b)) => same_any r s _ _ W (by omega) h k
      simp only [decide_true] at C26
      have C23b := fun W (vj : Value) (h : cntsIn W va a) (k : cntsIn W vj (Ct.join a b)) => over_empty va vj a (Ct.join a b) W h k (by omega) (by omega) sj hoj
      have Go := fun W (v : Value) (h : cntsIn W v (Ct.over a b)) => get_any v _ d W h (by omega) so
      have Gj := fun W (v : Value) (h : cntsIn W v (Ct.join a b)) => get_any v _ d W h (by omega) sj
      have Ga := fun W (h : cntsIn W va a) => get_any va _ d W h (by omega) sa
      have Gb := fun W (h : cntsIn W vb b) => get_any vb _ d W h (by omega) sb
      have HA : Hid (cntsIn w va a ∧ cntsIn w vb b) := ⟨ha, hb⟩
      clear ha hb sj so lj lo sa sb la lb qa qb hjo hoj
      generalize hj9 : Ct.join a b = j at *
      generalize ho9 : Ct.over a b = o at *
      clear hj9 ho9
      generalize Ct.get o d = zo at *
      generalize Ct.get j d = zj at *
      generalize Ct.get a d = za at *
      generalize Ct.get b d = zb at *
      obtain ⟨q, hq⟩ : ∃ q, decide (zb < za) = q := ⟨_, rfl⟩
      rw [hq] at hpos
      go_enter Try.func6, Try.ntmps6
      go_wp2_with (first
        | (go_at_call 21; first | (rw [← hW0]; (with_reducible refine HGa.mono ?_); rintro e w1 ⟨rfl, hb1⟩; have B1 := bchain hB0 hb1) | ((with_reducible refine (HGb w1 B1).mono ?_); rintro e w2 ⟨rfl, hb2⟩; have B2 := bchain B1 hb2))
        | (go_at_call 23; (with_reducible refine (C23 w2 B2).mono ?_); rintro e w3 ⟨r3, rfl, hr3, hb3⟩; have B3 := bchain B2 hb3)
        | (go_at_call 22; (with_reducible refine (C22 w3 B3).mono ?_); rintro e w4 ⟨r4, rfl, own4, hb4⟩; have B4 := bchain B3 hb4))
      have hDS : DS w va vb r3 r4 a b o j d w4.drew := ⟨(HA.out.1.on B4).on (Below.refl _ _).drew, (HA.out.2.on B4).on (Below.refl _ _).drew, (hr3.on hb4).on (Below.refl _ _).drew, (cntsIn_own own4).on (Below.refl _ _).drew, ((((hd0.on hb1).on hb2).on hb3).on hb4).on (Below.refl _ _).drew, B4.drew⟩
      refine wp_region_held_drew (S := fun W => DS w va vb r3 r4 a b o j d W) (by kernel_rfl) (hDS) (fun hH0 => ?_)
      refine held_take (i := 0) (o := { dst := some 24, op := Op.move (Operand.tmp 1), type := 22, pos := "law.go:61", after := #[], guard := none }) (v := vb) (by kernel_rfl) (by kernel_rfl) (by kernel_rfl) (by kernel_rfl) (fun _ _ _ h => h) (by kernel_rfl) (fun _ _ => by kernel_rfl) hH0 ?_
      refine held_take (i := 1) (o := { dst := some 25, op := Op.move (Operand.tmp 7), type := 22, pos := "law.go:61", after := #[], guard := none }) (v := r3) (by kernel_rfl) (by kernel_rfl) (by kernel_rfl) (by kernel_rfl) (fun _ _ _ h => h) (by kernel_rfl) (fun _ _ => by kernel_rfl) hH0 ?_
      refine held_take (i := 3) (o := { dst := some 27, op := Op.move (Operand.tmp 8), type := 22, pos := "law.go:61", after := #[], guard := none }) (v := r4) (by kernel_rfl) (by kernel_rfl) (by kernel_rfl) (by kernel_rfl) (fun _ _ _ h => h) (by kernel_rfl) (fun _ _ => by kernel_rfl) hH0 ?_
      refine held_callX (i := 2) (o := { dst := some 26, op := Op.call { callee := Callee.value (Operand.func 22), args := #[Operand.tmp 24, Operand.tmp 25], argTypes := #[22, 22] }, type := 22, pos := "law.go:61", after := #[{ on := 0, ground := Ground.data }, { on := 1, ground := Ground.data }], guard := none }) (F := 22) (vs := #[vb, r3]) (by kernel_rfl) (by kernel_rfl) (by kernel_rfl) (fun _ => by kernel_rfl) (C22b _ _ hH0.snd hH0.ovr) ?_
      rintro e v1 ⟨r5, rfl, own5, hb1⟩
      have hH1 := hH0.on hb1
      refine ⟨r5, rfl, hH1, ?_⟩
      refine held_callX (i := 4) (o := { dst := some 28, op := Op.call { callee := Callee.value (Operand.func 26), args := #[Operand.tmp 26, Operand.tmp 27], argTypes := #[22, 22] }, type := 4, pos := "law.go:61", after := #[{ on := 2, ground := Ground.data }, { on := 3, ground := Ground.data }, { on := 2, ground := Ground.chain }], guard := none }) (F := 26) (vs := #[r5, r4]) (by kernel_rfl) (by kernel_rfl) (by kernel_rfl) (fun _ => by kernel_rfl) (C26 _ _ _ (cntsIn_own own5) hH1.jn) ?_
      rintro e v2 ⟨rfl, hb2⟩
      have hH2 := hH1.on hb2
      refine ⟨.bool true, rfl, hH2, ?_⟩
      refine held_take (i := 5) (o := { dst := some 29, op := Op.move (Operand.tmp 28), type := 4, pos := "law.go:61", after := #[{ on := 4, ground := Ground.data }, { on := 4, ground := Ground.chain }], guard := none }) (v := .bool true) (by kernel_rfl) (by kernel_rfl) (by kernel_rfl) (by kernel_rfl) (fun _ _ _ h => h) (by kernel_rfl) (fun _ _ => by kernel_rfl) hH2 ?_
      refine held_take (i := 6) (o := { dst := some 30, op := Op.move (Operand.tmp 0), type := 22, pos := "law.go:61", after := #[{ on := 5, ground := Ground.guard }], guard := some (5, true) }) (v := va) (by kernel_rfl) (by kernel_rfl) (by kernel_rfl) (by kernel_rfl) (fun _ _ _ h => h) (by kernel_rfl) (fun _ _ => by kernel_rfl) hH2 ?_
      refine held_take (i := 7) (o := { dst := some 31, op := Op.move (Operand.tmp 8), type := 22, pos := "law.go:61", after := #[{ on := 5, ground := Ground.guard }], guard := some (5, true) }) (v := r4) (by kernel_rfl) (by kernel_rfl) (by kernel_rfl) (by kernel_rfl) (fun _ _ _ h => h) (by kernel_rfl) (fun _ _ => by kernel_rfl) hH2 ?_
      refine held_callX (i := 8) (o := { dst := some 32, op := Op.call { callee := Callee.value (Operand.func 23), args := #[Operand.tmp 30, Operand.tmp 31], argTypes := #[22, 22] }, type := 22, pos := "law.go:61", after := #[{ on := 6, ground := Ground.data }, { on := 7, ground := Ground.data }, { on := 5, ground := Ground.chain }, { on := 5, ground := Ground.guard }], guard := some (5, true) }) (F := 23) (vs := #[va, r4]) (by kernel_rfl) (by kernel_rfl) (by kernel_rfl) (fun _ => by kernel_rfl) (C23b _ _ hH2.fst hH2.jn) ?_
      rintro e v3 ⟨ao8, c8, rfl, hb3⟩
      have hH3 := hH2.on hb3
      refine ⟨.slice ao8 0 c8, rfl, hH3, ?_⟩
      refine held_do (i := 9) (o := { dst := some 33, op := Op.call { callee := Callee.builtin Builtin.len, args := #[Operand.tmp 32], argTypes := #[22] }, type := 3, pos := "law.go:61", after := #[{ on := 8, ground := Ground.data }, { on := 5, ground := Ground.guard }], guard := some (5, true) }) (v := .int .i64 ((0 : Nat) : Int)) (by kernel_rfl) (by kernel_rfl) (by kernel_rfl) (by kernel_rfl) hH3 ?_
      refine held_take (i := 10) (o := { dst := some 34, op := Op.binOp BinOp.eql 3 (Operand.tmp 33) (Operand.const (Value.int IntKind.i64 0)) 3, type := 4, pos := "law.go:61", after := #[{ on := 9, ground := Ground.data }, { on := 5, ground := Ground.guard }], guard := some (5, true) }) (v := .bool true) (by kernel_rfl) (by kernel_rfl) (by kernel_rfl) (by kernel_rfl) (fun _ _ _ h => h) (by kernel_rfl) (fun W _ => exec_bin rfl (by kernel_rfl) (by kernel_rfl) (fun _ => by kernel_rfl) (eqi_yes (a := ((0 : Nat) : Int)) (b := 0) rfl 3 (Or.inl rfl)) W) hH3 ?_
      refine held_take (i := 11) (o := { dst := some 35, op := Op.pick (Operand.tmp 29) (Operand.tmp 34) (Operand.const (Value.bool false)), type := 4, pos := "law.go:61", after := #[{ on := 5, ground := Ground.data }, { on := 10, ground := Ground.data }], guard := none }) (v := .bool true) (by kernel_rfl) (by kernel_rfl) (by kernel_rfl) (by kernel_rfl) (fun _ _ _ h => h) (by kernel_rfl) (fun _ _ => by kernel_rfl) hH3 ?_
      refine held_take (i := 12) (o := { dst := some 36, op := Op.move (Operand.tmp 35), type := 4, pos := "law.go:61", after := #[{ on := 11, ground := Ground.data }, { on := 8, ground := Ground.chain }], guard := none }) (v := .bool true) (by kernel_rfl) (by kernel_rfl) (by kernel_rfl) (by kernel_rfl) (fun _ _ _ h => h) (by kernel_rfl) (fun _ _ => by kernel_rfl) hH3 ?_
      refine held_take (i := 13) (o := { dst := some 37, op := Op.move (Operand.tmp 7), type := 22, pos := "law.go:61", after := #[{ on := 12, ground := Ground.guard }], guard := some (12, true) }) (v := r3) (by kernel_rfl) (by kernel_rfl) (by kernel_rfl) (by kernel_rfl) (fun _ _ _ h => h) (by kernel_rfl) (fun _ _ => by kernel_rfl) hH3 ?_
      refine held_take (i := 14) (o := { dst := some 38, op := Op.load 24 (Operand.tmp 5), type := 24, pos := "law.go:61", after := #[{ on := 12, ground := Ground.guard }], guard := some (12, true) }) (v := dV d) (by kernel_rfl) (by kernel_rfl) (by kernel_rfl) (by kernel_rfl) (fun _ _ _ h => h) (by kernel_rfl) (fun _ h => exec_ldd rfl (by kernel_rfl) h.dot) hH3 ?_
      refine held_take (i := 17) (o := { dst := some 41, op := Op.move (Operand.tmp 0), type := 22, pos := "law.go:61", after := #[{ on := 12, ground := Ground.guard }], guard := some (12, true) }) (v := va) (by kernel_rfl) (by kernel_rfl) (by kernel_rfl) (by kernel_rfl) (fun _ _ _ h => h) (by kernel_rfl) (fun _ _ => by kernel_rfl) hH3 ?_
      refine held_take (i := 18) (o := { dst := some 42, op := Op.load 24 (Operand.tmp 5), type := 24, pos := "law.go:61", after := #[{ on := 12, ground := Ground.guard }], guard := some (12, true) }) (v := dV d) (by kernel_rfl) (by kernel_rfl) (by kernel_rfl) (by kernel_rfl) (fun _ _ _ h => h) (by kernel_rfl) (fun _ h => exec_ldd rfl (by kernel_rfl) h.dot) hH3 ?_
      refine held_take (i := 20) (o := { dst := some 44, op := Op.move (Operand.tmp 1), type := 22, pos := "law.go:61", after := #[{ on := 12, ground := Ground.guard }], guard := some (12, true) }) (v := vb) (by kernel_rfl) (by kernel_rfl) (by kernel_rfl) (by kernel_rfl) (fun _ _ _ h => h) (by kernel_rfl) (fun _ _ => by kernel_rfl) hH3 ?_
      refine held_take (i := 21) (o := { dst := some 45, op := Op.load 24 (Operand.tmp 5), type := 24, pos := "law.go:61", after := #[{ on := 12, ground := Ground.guard }], guard := some (12, true) }) (v := dV d) (by kernel_rfl) (by kernel_rfl) (by kernel_rfl) (by kernel_rfl) (fun _ _ _ h => h) (by kernel_rfl) (fun _ h => exec_ldd rfl (by kernel_rfl) h.dot) hH3 ?_
      refine held_callX (i := 15) (o := { dst := some 39, op := Op.call { callee := Callee.value (Operand.func 14), args := #[Operand.tmp 37, Operand.tmp 38], argTypes := #[22, 24] }, type := 3, pos := "law.go:61", after := #[{ on := 13, ground := Ground.data }, { on := 14, ground := Ground.data }, { on := 12, ground := Ground.chain }, { on := 12, ground := Ground.guard }], guard := some (12, true) }) (F := 14) (vs := #[r3, dV d]) (by kernel_rfl) (by kernel_rfl) (by kernel_rfl) (fun _ => by kernel_rfl) (Go _ _ hH3.ovr) ?_
      rintro e v4 ⟨rfl, hb4⟩
      have hH4 := hH3.on hb4
      refine ⟨.int .i64 zo, rfl, hH4, ?_⟩
      refine held_take (i := 16) (o := { dst := some 40, op := Op.binOp BinOp.gtr 3 (Operand.tmp 39) (Operand.const (Value.int IntKind.i64 0)) 3, type := 4, pos := "law.go:61", after := #[{ on := 15, ground := Ground.data }, { on := 12, ground := Ground.guard }], guard := some (12, true) }) (v := .bool q) (by kernel_rfl) (by kernel_rfl) (by kernel_rfl) (by kernel_rfl) (fun _ _ _ h => h) (by kernel_rfl) (fun W _ => exec_bin rfl (by kernel_rfl) (by kernel_rfl) (fun _ => by kernel_rfl) (gtr_is hpos) W) hH4 ?_
      refine held_callX (i := 19) (o := { dst := some 43, op := Op.call { callee := Callee.value (Operand.func 14), args := #[Operand.tmp 41, Operand.tmp 42], argTypes := #[22, 24] }, type := 3, pos := "law.go:61", after := #[{ on := 17, ground := Ground.data }, { on := 18, ground := Ground.data }, { on := 15, ground := Ground.chain }, { on := 12, ground := Ground.guard }], guard := some (12, true) }) (F := 14) (vs := #[va, dV d]) (by kernel_rfl) (by kernel_rfl) (by kernel_rfl) (fun _ => by kernel_rfl) (Ga _ hH4.fst) ?_
      rintro e v5 ⟨rfl, hb5⟩
      have hH5 := hH4.on hb5
      refine ⟨.int .i64 za, rfl, hH5, ?_⟩
      refine held_callX (i := 22) (o := { dst := some 46, op := Op.call { callee := Callee.value (Operand.func 14), args := #[Operand.tmp 44, Operand.tmp 45], argTypes := #[22, 24] }, type := 3, pos := "law.go:61", after := #[{ on := 20, ground := Ground.data }, { on := 21, ground := Ground.data }, { on := 19, ground := Ground.chain }, { on := 12, ground := Ground.guard }], guard := some (12, true) }) (F := 14) (vs := #[vb, dV d]) (by kernel_rfl) (by kernel_rfl) (by kernel_rfl) (fun _ => by kernel_rfl) (Gb _ hH5.snd) ?_
      rintro e v6 ⟨rfl, hb6⟩
      have hH6 := hH5.on hb6
      refine ⟨.int .i64 zb, rfl, hH6, ?_⟩
      refine held_take (i := 23) (o := { dst := some 47, op := Op.binOp BinOp.gtr 3 (Operand.tmp 43) (Operand.tmp 46) 3, type := 4, pos := "law.go:61", after := #[{ on := 19, ground := Ground.data }, { on := 22, ground := Ground.data }, { on := 12, ground := Ground.guard }], guard := some (12, true) }) (v := .bool q) (by kernel_rfl) (by kernel_rfl) (by kernel_rfl) (by kernel_rfl) (fun _ _ _ h => h) (by kernel_rfl) (fun W _ => exec_bin rfl (by kernel_rfl) (by kernel_rfl) (fun _ => by kernel_rfl) (gtr_is hq) W) hH6 ?_
      refine held_take (i := 24) (o := { dst := some 48, op := Op.binOp BinOp.eql 4 (Operand.tmp 40) (Operand.tmp 47) 4, type := 4, pos := "law.go:61", after := #[{ on := 16, ground := Ground.data }, { on := 23, ground := Ground.data }, { on := 12, ground := Ground.guard }], guard := some (12, true) }) (v := .bool true) (by kernel_rfl) (by kernel_rfl) (by kernel_rfl) (by kernel_rfl) (fun _ _ _ h => h) (by kernel_rfl) (fun W _ => exec_bin rfl (by kernel_rfl) (by kernel_rfl) (fun _ => by kernel_rfl) (eqb_same (q)) W) hH6 ?_
      refine held_take (i := 25) (o := { dst := some 49, op := Op.pick (Operand.tmp 36) (Operand.tmp 48) (Operand.const (Value.bool false)), type := 4, pos := "law.go:61", after := #[{ on := 12, ground := Ground.data }, { on := 24, ground := Ground.data }], guard := none }) (v := .bool true) (by kernel_rfl) (by kernel_rfl) (by kernel_rfl) (by kernel_rfl) (fun _ _ _ h => h) (by kernel_rfl) (fun _ _ => by kernel_rfl) hH6 ?_
      refine held_take (i := 26) (o := { dst := some 50, op := Op.move (Operand.tmp 49), type := 4, pos := "law.go:61", after := #[{ on := 25, ground := Ground.data }, { on := 22, ground := Ground.chain }], guard := none }) (v := .bool true) (by kernel_rfl) (by kernel_rfl) (by kernel_rfl) (by kernel_rfl) (fun _ _ _ h => h) (by kernel_rfl) (fun _ _ => by kernel_rfl) hH6 ?_
      refine held_take (i := 27) (o := { dst := some 51, op := Op.move (Operand.tmp 8), type := 22, pos := "law.go:61", after := #[{ on := 26, ground := Ground.guard }], guard := some (26, true) }) (v := r4) (by kernel_rfl) (by kernel_rfl) (by kernel_rfl) (by kernel_rfl) (fun _ _ _ h => h) (by kernel_rfl) (fun _ _ => by kernel_rfl) hH6 ?_
      refine held_take (i := 28) (o := { dst := some 52, op := Op.load 24 (Operand.tmp 5), type := 24, pos := "law.go:61", after := #[{ on := 26, ground := Ground.guard }], guard := some (26, true) }) (v := dV d) (by kernel_rfl) (by kernel_rfl) (by kernel_rfl) (by kernel_rfl) (fun _ _ _ h => h) (by kernel_rfl) (fun _ h => exec_ldd rfl (by kernel_rfl) h.dot) hH6 ?_
      refine held_take (i := 30) (o := { dst := some 54, op := Op.move (Operand.tmp 0), type := 22, pos := "law.go:61", after := #[{ on := 26, ground := Ground.guard }], guard := some (26, true) }) (v := va) (by kernel_rfl) (by kernel_rfl) (by kernel_rfl) (by kernel_rfl) (fun _ _ _ h => h) (by kernel_rfl) (fun _ _ => by kernel_rfl) hH6 ?_
      refine held_take (i := 31) (o := { dst := some 55, op := Op.load 24 (Operand.tmp 5), type := 24, pos := "law.go:61", after := #[{ on := 26, ground := Ground.guard }], guard := some (26, true) }) (v := dV d) (by kernel_rfl) (by kernel_rfl) (by kernel_rfl) (by kernel_rfl) (fun _ _ _ h => h) (by kernel_rfl) (fun _ h => exec_ldd rfl (by kernel_rfl) h.dot) hH6 ?_
      refine held_take (i := 33) (o := { dst := some 57, op := Op.move (Operand.tmp 1), type := 22, pos := "law.go:61", after := #[{ on := 26, ground := Ground.guard }], guard := some (26, true) }) (v := vb) (by kernel_rfl) (by kernel_rfl) (by kernel_rfl) (by kernel_rfl) (fun _ _ _ h => h) (by kernel_rfl) (fun _ _ => by kernel_rfl) hH6 ?_
      refine held_take (i := 34) (o := { dst := some 58, op := Op.load 24 (Operand.tmp 5), type := 24, pos := "law.go:61", after := #[{ on := 26, ground := Ground.guard }], guard := some (26, true) }) (v := dV d) (by kernel_rfl) (by kernel_rfl) (by kernel_rfl) (by kernel_rfl) (fun _ _ _ h => h) (by kernel_rfl) (fun _ h => exec_ldd rfl (by kernel_rfl) h.dot) hH6 ?_
      refine held_callX (i := 29) (o := { dst := some 53, op := Op.call { callee := Callee.value (Operand.func 14), args := #[Operand.tmp 51, Operand.tmp 52], argTypes := #[22, 24] }, type := 3, pos := "law.go:61", after := #[{ on := 27, ground := Ground.data }, { on := 28, ground := Ground.data }, { on := 26, ground := Ground.chain }, { on := 26, ground := Ground.guard }], guard := some (26, true) }) (F := 14) (vs := #[r4, dV d]) (by kernel_rfl) (by kernel_rfl) (by kernel_rfl) (fun _ => by kernel_rfl) (Gj _ _ hH6.jn) ?_
      rintro e v7 ⟨rfl, hb7⟩
      have hH7 := hH6.on hb7
      refine ⟨.int .i64 zj, rfl, hH7, ?_⟩
      refine held_callX (i := 32) (o := { dst := some 56, op := Op.call { callee := Callee.value (Operand.func 14), args := #[Operand.tmp 54, Operand.tmp 55], argTypes := #[22, 24] }, type := 3, pos := "law.go:61", after := #[{ on := 30, ground := Ground.data }, { on := 31, ground := Ground.data }, { on := 29, ground := Ground.chain }, { on := 26, ground := Ground.guard }], guard := some (26, true) }) (F := 14) (vs := #[va, dV d]) (by kernel_rfl) (by kernel_rfl) (by kernel_rfl) (fun _ => by kernel_rfl) (Ga _ hH7.fst) ?_
      rintro e v8 ⟨rfl, hb8⟩
      have hH8 := hH7.on hb8
      refine ⟨.int .i64 za, rfl, hH8, ?_⟩
      refine held_callX (i := 35) (o := { dst := some 59, op := Op.call { callee := Callee.value (Operand.func 14), args := #[Operand.tmp 57, Operand.tmp 58], argTypes := #[22, 24] }, type := 3, pos := "law.go:61", after := #[{ on := 33, ground := Ground.data }, { on := 34, ground := Ground.data }, { on := 32, ground := Ground.chain }, { on := 26, ground := Ground.guard }], guard := some (26, true) }) (F := 14) (vs := #[vb, dV d]) (by kernel_rfl) (by kernel_rfl) (by kernel_rfl) (fun _ => by kernel_rfl) (Gb _ hH8.snd) ?_
      rintro e v9 ⟨rfl, hb9⟩
      have hH9 := hH8.on hb9
      refine ⟨.int .i64 zb, rfl, hH9, ?_⟩
      refine held_do (i := 36) (o := { dst := some 60, op := Op.call { callee := Callee.builtin Builtin.max, args := #[Operand.tmp 56, Operand.tmp 59], argTypes := #[3, 3] }, type := 3, pos := "law.go:61", after := #[{ on := 32, ground := Ground.data }, { on := 35, ground := Ground.data }, { on := 26, ground := Ground.guard }], guard := some (26, true) }) (v := .int .i64 (max za zb)) (by kernel_rfl) (by kernel_rfl) (by kernel_rfl) (exec_max rfl (by kernel_rfl) (by kernel_rfl) _) hH9 ?_
      refine held_take (i := 37) (o := { dst := some 61, op := Op.binOp BinOp.eql 3 (Operand.tmp 53) (Operand.tmp 60) 3, type := 4, pos := "law.go:61", after := #[{ on := 29, ground := Ground.data }, { on := 36, ground := Ground.data }, { on := 26, ground := Ground.guard }], guard := some (26, true) }) (v := .bool true) (by kernel_rfl) (by kernel_rfl) (by kernel_rfl) (by kernel_rfl) (fun _ _ _ h => h) (by kernel_rfl) (fun W _ => exec_bin rfl (by kernel_rfl) (by kernel_rfl) (fun _ => by kernel_rfl) (eqi_yes hgj 3 (Or.inl rfl)) W) hH9 ?_
      refine held_take (i := 38) (o := { dst := some 62, op := Op.pick (Operand.tmp 50) (Operand.tmp 61) (Operand.const (Value.bool false)), type := 4, pos := "law.go:61", after := #[{ on := 26, ground := Ground.data }, { on := 37, ground := Ground.data }], guard := none }) (v := .bool true) (by kernel_rfl) (by kernel_rfl) (by kernel_rfl) (by kernel_rfl) (fun _ _ _ h => h) (by kernel_rfl) (fun _ _ => by kernel_rfl) hH9 ?_
      refine held_take (i := 39) (o := { dst := some 63, op := Op.move (Operand.tmp 62), type := 4, pos := "law.go:61", after := #[{ on := 38, ground := Ground.data }, { on := 35, ground := Ground.chain }], guard := none }) (v := .bool true) (by kernel_rfl) (by kernel_rfl) (by kernel_rfl) (by kernel_rfl) (fun _ _ _ h => h) (by kernel_rfl) (fun _ _ => by kernel_rfl) hH9 ?_
      refine held_callX (i := 40) (o := { dst := some 64, op := Op.call { callee := Callee.value (Operand.func 9), args := #[], argTypes := #[] }, type := 4, pos := "law.go:61", after := #[{ on := 39, ground := Ground.chain }, { on := 39, ground := Ground.guard }], guard := some (39, true) }) (F := 9) (vs := #[]) (by kernel_rfl) (by kernel_rfl) (by kernel_rfl) (fun _ => by kernel_rfl) (awake_any _) ?_
      rintro e v10 ⟨rfl, hb10⟩
      have hH10 := hH9.on hb10
      refine ⟨.bool true, rfl, hH10, ?_⟩
      refine held_take (i := 41) (o := { dst := some 65, op := Op.pick (Operand.tmp 63) (Operand.tmp 64) (Operand.const (Value.bool false)), type := 4, pos := "law.go:61", after := #[{ on := 39, ground := Ground.data }, { on := 40, ground := Ground.data }], guard := none }) (v := .bool true) (by kernel_rfl) (by kernel_rfl) (by kernel_rfl) (by kernel_rfl) (fun _ _ _ h => h) (by kernel_rfl) (fun _ _ => by kernel_rfl) hH10 ?_
      refine held_do (i := 42) (o := { dst := some 6, op := Op.assign (Operand.tmp 65), type := 4, pos := "law.go:61", after := #[{ on := 41, ground := Ground.data }, { on := 40, ground := Ground.chain }, { on := 0, ground := Ground.phase }, { on := 1, ground := Ground.phase }, { on := 2, ground := Ground.phase }, { on := 3, ground := Ground.phase }, { on := 4, ground := Ground.phase }, { on := 5, ground := Ground.phase }, { on := 6, ground := Ground.phase }, { on := 7, ground := Ground.phase }, { on := 8, ground := Ground.phase }, { on := 9, ground := Ground.phase }, { on := 10, ground := Ground.phase }, { on := 11, ground := Ground.phase }, { on := 12, ground := Ground.phase }, { on := 13, ground := Ground.phase }, { on := 14, ground := Ground.phase }, { on := 15, ground := Ground.phase }, { on := 16, ground := Ground.phase }, { on := 17, ground := Ground.phase }, { on := 18, ground := Ground.phase }, { on := 19, ground := Ground.phase }, { on := 20, ground := Ground.phase }, { on := 21, ground := Ground.phase }, { on := 22, ground := Ground.phase }, { on := 23, ground := Ground.phase }, { on := 24, ground := Ground.phase }, { on := 25, ground := Ground.phase }, { on := 26, ground := Ground.phase }, { on := 27, ground := Ground.phase }, { on := 28, ground := Ground.phase }, { on := 29, ground := Ground.phase }, { on := 30, ground := Ground.phase }, { on := 31, ground := Ground.phase }, { on := 32, ground := Ground.phase }, { on := 33, ground := Ground.phase }, { on := 34, ground := Ground.phase }, { on := 35, ground := Ground.phase }, { on := 36, ground := Ground.phase }, { on := 37, ground := Ground.phase }, { on := 38, ground := Ground.phase }, { on := 39, ground := Ground.phase }, { on := 40, ground := Ground.phase }, { on := 41, ground := Ground.phase }], guard := none }) (v := .bool true) (by kernel_rfl) (by kernel_rfl) (by kernel_rfl) (by kernel_rfl) hH10 ?_
      refine wpAnyH_done (by kernel_rfl) ?_ _
      simp only [Act.put, List.setIfInBounds_toArray, List.set_cons_zero, List.set_cons_succ]
      go_wp2
      go_ret
      exact ⟨rfl, hH10.below⟩
end Go.Proofs.Ytpheljlnlbiieaa
