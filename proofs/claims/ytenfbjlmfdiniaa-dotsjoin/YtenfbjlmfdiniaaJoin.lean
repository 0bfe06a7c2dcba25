/- The walk of DotsJoin. -/
import Derived.Test.YtenfbjlmfdiniaaRefUnion
import Derived.Test.YtenfbjlmfdiniaaRefWithin
namespace Go.Proofs.Ytenfbjlmfdiniaa
open Go.RowKit Go.Shelf

/-- What holds while the law's statements are walked. -/
structure JS (w : World) (ub : Nat) (a : List Int × List D) (va : Value) (b : List Int × List D) (vb : Value) (u : List Int × List D) (vu : Value) (W : World) : Prop where
  A : SetAt W w.heap.size a.1 va
  B : SetAt W (w.heap.size + 1) b.1 vb
  U : SetAt W ub u.1 vu
  dA : dotsIn W va a.2
  dB : dotsIn W vb b.2
  dU : dotsIn W vu u.2
  below : Below w.heap.size w W
theorem JS.on {w : World} {ub : Nat} {a b u : List Int × List D} {va vb vu : Value} {W W' : World} (h : JS w ub a va b vb u vu W) (hb : Below W.heap.size W W') : JS w ub a va b vb u vu W' :=
  ⟨h.A.on hb, h.B.on hb, h.U.on hb, h.dA.on hb, h.dB.on hb, h.dU.on hb, bchain h.below hb⟩

set_option maxRecDepth 20000 in
set_option maxHeartbeats 2000000 in
theorem dotsJoin_walk (a : List Int × List D) (va : Value) (b : List Int × List D) (vb : Value) (w : World) (ha16 : a.1.length = 16) (hda : dotsIn w va a.2) (hb16 : b.1.length = 16) (hdb : dotsIn w vb b.2) :
    Calls Try.prog 4 #[setV a.1 va, setV b.1 vb] w fun e w' => e = .returned (.bool true) ∧ Below w.heap.size w w' := by
  obtain ⟨W0, hW0⟩ : ∃ W0, W0 = (w.alloc (.cells (setC a.1 va).toArray 26)).alloc (.cells (setC b.1 vb).toArray 26) := ⟨_, rfl⟩
  have hB0 : Below w.heap.size w W0 := by rw [hW0]; exact below_new2 _ _ _
  have hA0 : SetAt W0 w.heap.size a.1 va := by rw [hW0]; exact (SetAt.new w a.1 va).alloc _
  have hA1 : SetAt W0 (w.heap.size + 1) b.1 vb := by
    rw [hW0]
    have := SetAt.new (w.alloc (.cells (setC a.1 va).toArray 26)) b.1 vb
    simpa using this
  have HGa := fun (q : Bool) (hq : q = true ↔ (St.Std a.1 a.2 ∧ a.2.length ≤ 100)) W (h : dotsIn W va a.2) => good_any a.1 ha16 va a.2 W h q hq
  have HGb := fun (q : Bool) (hq : q = true ↔ (St.Std b.1 b.2 ∧ b.2.length ≤ 100)) W (h : dotsIn W vb b.2) => good_any b.1 hb16 vb b.2 W h q hq
  have HA : Hid (SetAt W0 w.heap.size a.1 va) := hA0
  have HB : Hid (SetAt W0 (w.heap.size + 1) b.1 vb) := hA1
  have HBW : Hid (Below w.heap.size w W0) := hB0
  have HW : Hid (W0 = (w.alloc (.cells (setC a.1 va).toArray 26)).alloc (.cells (setC b.1 vb).toArray 26)) := hW0
  have HDa : Hid (dotsIn W0 va a.2) := hda.on hB0
  have HDb : Hid (dotsIn W0 vb b.2) := hdb.on hB0
  rw [hW0] at hA0
  clear hA1 hB0 hW0
  by_cases ga : St.Std a.1 a.2 ∧ a.2.length ≤ 100
  rotate_left
  · have HG := HGa false ⟨fun e => (by cases e), fun e => absurd e ga⟩ _ HDa.out
    clear HGa HGb ga
    go_enter Try.func4, Try.ntmps4
    go_wp2_with (first
      | (go_at_call 9; refine (awake_any _).mono ?_; rintro e w2 ⟨rfl, hb2⟩)
      | (go_at_call 21; refine HG.mono ?_; rintro e w1 ⟨rfl, hb1⟩)
      | (refine load_setG (by kernel_rfl) _ rfl w.heap.size a.1 va ha16 rfl hA0 ?_; rw [← HW.out]))
    go_ret
    exact ⟨rfl, bchain HBW.out (bchain hb1 hb2)⟩
  have HG := HGa true ⟨fun _ => ga, fun _ => rfl⟩ _ HDa.out
  by_cases gb : St.Std b.1 b.2 ∧ b.2.length ≤ 100
  rotate_left
  · have HG2 := HGb false ⟨fun e => (by cases e), fun e => absurd e gb⟩
    clear HGa HGb ga gb
    go_enter Try.func4, Try.ntmps4
    go_wp2_with (first
      | (go_at_call 9; refine (awake_any _).mono ?_; rintro e w3 ⟨rfl, hb3⟩)
      | (go_at_call 21; refine HG3.mono ?_; rintro e w2 ⟨rfl, hb2⟩)
      | (go_at_call 21; refine HG.mono ?_; rintro e w1 ⟨rfl, hb1⟩
         have hB1 := HB.out.on hb1
         have HG3 := HG2 w1 (HDb.out.on hb1))
      | (refine load_setG (by kernel_rfl) _ rfl (w.heap.size + 1) b.1 vb hb16 rfl hB1 ?_)
      | (refine load_setG (by kernel_rfl) _ rfl w.heap.size a.1 va ha16 rfl hA0 ?_; rw [← HW.out]))
    go_ret
    exact ⟨rfl, bchain HBW.out (bchain hb1 (bchain hb2 hb3))⟩
  have HG2 := HGb true ⟨fun _ => gb, fun _ => rfl⟩
  have hU := uni_is ga.1 gb.1
  have hul : (uni a b).2.length ≤ 200 := by omega
  have HU0 : ∀ W, dotsIn W va a.2 → dotsIn W vb b.2 → Calls Try.prog 22 #[setV a.1 va, setV b.1 vb] W fun e w' => ∃ sl, e = .returned (setV (uni a b).1 sl) ∧ dotsIn w' sl (uni a b).2 ∧ Below W.heap.size W w' := fun W h1 h2 => union_any a.1 b.1 ha16 hb16 ga.1.vec gb.1.vec va vb a.2 b.2 W h1 h2 (by omega)
  have K23 := fun (vu : Value) (ub : Nat) (W : World) (h : JS w ub a va b vb (uni a b) vu W) => refUnion_any a b ga.1 gb.1 (by omega) va vb W h.dA h.dB
  have K14 := fun (vu : Value) (ub : Nat) (r : Value) (W : World) (h : JS w ub a va b vb (uni a b) vu W) (hr : dotsIn W r (uni a b).2) => refSameSet_any (uni a b).1 (uni a b).1 hU.1.1.len hU.1.1.len vu r (uni a b).2 (uni a b).2 W h.dU hr (by omega)
  simp only [decide_true, Bool.and_true] at K14
  have K11 : ∀ (vu : Value) (ub : Nat) (W : World), JS w ub a va b vb (uni a b) vu W → Calls Try.prog 11 #[setV (uni a b).1 vu] W fun e w' => e = .returned (.bool true) ∧ Below W.heap.size W w' := fun vu ub W h => (refRight_said (uni a b).1 hU.1.1.len vu (uni a b).2 W h.dU (by omega)).mono fun e w' ⟨h1, h2⟩ => ⟨h1.yes ⟨hU.1.1, by omega⟩, h2⟩
  have K24 := fun (vu : Value) (ub : Nat) (W : World) (h : JS w ub a va b vb (uni a b) vu W) => within_any a.1 b.1 ha16 hb16 va vb a.2 b.2 W h.dA h.dB (by omega) (by omega) gb.1.row
  have K25 := fun (vu : Value) (ub : Nat) (W : World) (h : JS w ub a va b vb (uni a b) vu W) => refWithin_any a b ga.1 gb.1 (by omega) (by omega) va vb W h.dA h.dB
  have K24u := fun (vu : Value) (ub : Nat) (W : World) (h : JS w ub a va b vb (uni a b) vu W) => within_any a.1 (uni a b).1 ha16 hU.1.1.len va vu a.2 (uni a b).2 W h.dA h.dU (by omega) (by omega) hU.1.1.row
  have hwu : wit (a.1, a.2) ((uni a b).1, (uni a b).2) = true := wit_uni ga.1 gb.1
  simp only [hwu] at K24u
  have K26 := fun (vu : Value) (ub : Nat) (W : World) (h : JS w ub a va b vb (uni a b) vu W) => sameSet_any a.1 b.1 ha16 hb16 va vb a.2 b.2 W h.dA h.dB (by omega)
  have K14b := fun (vu : Value) (ub : Nat) (W : World) (h : JS w ub a va b vb (uni a b) vu W) => refSameSet_any a.1 b.1 ha16 hb16 va vb a.2 b.2 W h.dA h.dB (by omega)
  generalize hqw : wit a b = qw at *
  have hqw' : wit (a.1, a.2) (b.1, b.2) = qw := hqw
  generalize (decide (a.1 = b.1) && decide (a.2 = b.2)) = qs at *
  have hu16 := hU.1.1.len
  clear hqw hqw' hwu hU hul ga gb HGa HGb
  generalize uni a b = u at *
  have H23' : Hid _ := K23
  have H14' : Hid _ := K14
  have H11' : Hid _ := K11
  have H24' : Hid _ := K24
  have H25' : Hid _ := K25
  have H24u' : Hid _ := K24u
  have H26' : Hid _ := K26
  have H14b' : Hid _ := K14b
  clear K23 K14 K11 K24 K25 K24u K26 K14b
  go_enter Try.func4, Try.ntmps4
  go_wp2_with (first
    | (go_at_call 21; refine HG3.mono ?_; rintro e w2 ⟨rfl, hb2⟩
       have hb03 := bchain hb1 hb2
       have hA3 := HA.out.on hb03
       have hB3 := HB.out.on hb03)
    | (go_at_call 21; refine HG.mono ?_; rintro e w1 ⟨rfl, hb1⟩
       have hB1 := HB.out.on hb1
       have HG3 := HG2 w1 (HDb.out.on hb1))
    | (refine load_setG (by kernel_rfl) _ rfl (w.heap.size + 1) b.1 vb hb16 rfl hB3 ?_)
    | (refine load_setG (by kernel_rfl) _ rfl w.heap.size a.1 va ha16 rfl hA3 ?_)
    | (refine load_setG (by kernel_rfl) _ rfl (w.heap.size + 1) b.1 vb hb16 rfl hB1 ?_)
    | (refine load_setG (by kernel_rfl) _ rfl w.heap.size a.1 va ha16 rfl hA0 ?_; rw [← HW.out]))
  refine (HU0 w2 (HDa.out.on hb03) (HDb.out.on hb03)).mono ?_
  rintro e w4 ⟨vu, rfl, hdu, hb4⟩
  have hb04 := bchain hb03 hb4
  have hZ4 := SetAt.zero w4
  have hK4 := kept_set w4 u.1 vu
  have hKb := kept_below w4 u.1 vu
  have hsu := hdu.sl
  clear HG HG2 HG3 hA0 hB1 hA3 hB3 HU0
  go_wp2_with (first | (refine store_set rfl _ _ rfl w4.heap.size u.1 noughts vu (.slice none 0 0) hu16 noughts_length hsu rfl rfl hZ4 ?_))
  change Code.wp Try.prog _ _ _ (kept w4 u.1 vu)
  have hb0K := bchain hb04 hKb
  have hJS : JS w w4.heap.size a va b vb u vu (kept w4 u.1 vu).drew :=
    ⟨HA.out.on hb0K.drew, HB.out.on hb0K.drew, hK4.drew, HDa.out.on hb0K.drew, HDb.out.on hb0K.drew, hdu.on hKb.drew, (bchain HBW.out hb0K).drew⟩
  clear hZ4 hK4 hKb hb0K
  generalize w4.heap.size = ub at *
  generalize kept w4 u.1 vu = W3 at *
  have H23 : Hid _ := H23'.out vu ub
  have H14 : Hid _ := H14'.out vu ub
  have H11 : Hid _ := H11'.out vu ub
  have H24 : Hid _ := H24'.out vu ub
  have H25 : Hid _ := H25'.out vu ub
  have H24u : Hid _ := H24u'.out vu ub
  have H26 : Hid _ := H26'.out vu ub
  have H14b : Hid _ := H14b'.out vu ub
  refine wp_region_held_drew (S := JS w ub a va b vb u vu) (by kernel_rfl) (hJS) (fun hH0 => ?_)
  refine held_take (i := 0) (o := { dst := some 18, op := Op.load 26 (Operand.tmp 5), type := 26, pos := "law.go:49", after := #[], guard := none }) (v := setV u.1 vu) (by kernel_rfl) (by kernel_rfl) (by kernel_rfl) (by kernel_rfl) (fun _ _ _ h => h) (by kernel_rfl) (fun _ h => exec_set rfl hu16 (by kernel_rfl) h.U) hH0 ?_
  refine held_take (i := 1) (o := { dst := some 19, op := Op.load 26 (Operand.tmp 2), type := 26, pos := "law.go:49", after := #[], guard := none }) (v := setV a.1 va) (by kernel_rfl) (by kernel_rfl) (by kernel_rfl) (by kernel_rfl) (fun _ _ _ h => h) (by kernel_rfl) (fun _ h => exec_set rfl ha16 (by kernel_rfl) h.A) hH0 ?_
  refine held_take (i := 2) (o := { dst := some 20, op := Op.load 26 (Operand.tmp 3), type := 26, pos := "law.go:49", after := #[], guard := none }) (v := setV b.1 vb) (by kernel_rfl) (by kernel_rfl) (by kernel_rfl) (by kernel_rfl) (fun _ _ _ h => h) (by kernel_rfl) (fun _ h => exec_set rfl hb16 (by kernel_rfl) h.B) hH0 ?_
  refine held_callX (i := 3) (o := { dst := some 21, op := Op.call { callee := Callee.value (Operand.func 23), args := #[Operand.tmp 19, Operand.tmp 20], argTypes := #[26, 26] }, type := 26, pos := "law.go:49", after := #[{ on := 1, ground := Ground.data }, { on := 2, ground := Ground.data }], guard := none }) (F := 23) (vs := #[setV a.1 va, setV b.1 vb]) (by kernel_rfl) (by kernel_rfl) (by kernel_rfl) (fun _ => by kernel_rfl) (H23.out _ hH0) ?_
  rintro e w1 ⟨r1, rfl, hd1, hb1⟩
  have hH1 := hH0.on hb1
  refine ⟨setV u.1 r1, rfl, hH1, ?_⟩
  refine held_callX (i := 4) (o := { dst := some 22, op := Op.call { callee := Callee.value (Operand.func 14), args := #[Operand.tmp 18, Operand.tmp 21], argTypes := #[26, 26] }, type := 4, pos := "law.go:49", after := #[{ on := 0, ground := Ground.data }, { on := 3, ground := Ground.data }, { on := 3, ground := Ground.chain }], guard := none }) (F := 14) (vs := #[setV u.1 vu, setV u.1 r1]) (by kernel_rfl) (by kernel_rfl) (by kernel_rfl) (fun _ => by kernel_rfl) (H14.out _ _ hH1 hd1) ?_
  rintro e w2 ⟨rfl, hb2⟩
  have hH2 := hH1.on hb2
  refine ⟨.bool true, rfl, hH2, ?_⟩
  refine held_take (i := 5) (o := { dst := some 23, op := Op.move (Operand.tmp 22), type := 4, pos := "law.go:49", after := #[{ on := 4, ground := Ground.data }, { on := 4, ground := Ground.chain }], guard := none }) (v := .bool true) (by kernel_rfl) (by kernel_rfl) (by kernel_rfl) (by kernel_rfl) (fun _ _ _ h => h) (by kernel_rfl) (fun _ _ => by kernel_rfl) hH2 ?_
  refine held_take (i := 6) (o := { dst := some 24, op := Op.load 26 (Operand.tmp 5), type := 26, pos := "law.go:49", after := #[{ on := 5, ground := Ground.guard }], guard := some (5, true) }) (v := setV u.1 vu) (by kernel_rfl) (by kernel_rfl) (by kernel_rfl) (by kernel_rfl) (fun _ _ _ h => h) (by kernel_rfl) (fun _ h => exec_set rfl hu16 (by kernel_rfl) h.U) hH2 ?_
  refine held_callX (i := 7) (o := { dst := some 25, op := Op.call { callee := Callee.value (Operand.func 11), args := #[Operand.tmp 24], argTypes := #[26] }, type := 4, pos := "law.go:49", after := #[{ on := 6, ground := Ground.data }, { on := 5, ground := Ground.chain }, { on := 5, ground := Ground.guard }], guard := some (5, true) }) (F := 11) (vs := #[setV u.1 vu]) (by kernel_rfl) (by kernel_rfl) (by kernel_rfl) (fun _ => by kernel_rfl) (H11.out _ hH2) ?_
  rintro e w3 ⟨rfl, hb3⟩
  have hH3 := hH2.on hb3
  refine ⟨.bool true, rfl, hH3, ?_⟩
  refine held_take (i := 8) (o := { dst := some 26, op := Op.pick (Operand.tmp 23) (Operand.tmp 25) (Operand.const (Value.bool false)), type := 4, pos := "law.go:49", after := #[{ on := 5, ground := Ground.data }, { on := 7, ground := Ground.data }], guard := none }) (v := .bool true) (by kernel_rfl) (by kernel_rfl) (by kernel_rfl) (by kernel_rfl) (fun _ _ _ h => h) (by kernel_rfl) (fun _ _ => by kernel_rfl) hH3 ?_
  refine held_take (i := 9) (o := { dst := some 27, op := Op.move (Operand.tmp 26), type := 4, pos := "law.go:49", after := #[{ on := 8, ground := Ground.data }, { on := 7, ground := Ground.chain }], guard := none }) (v := .bool true) (by kernel_rfl) (by kernel_rfl) (by kernel_rfl) (by kernel_rfl) (fun _ _ _ h => h) (by kernel_rfl) (fun _ _ => by kernel_rfl) hH3 ?_
  refine held_take (i := 10) (o := { dst := some 28, op := Op.load 26 (Operand.tmp 2), type := 26, pos := "law.go:49", after := #[{ on := 9, ground := Ground.guard }], guard := some (9, true) }) (v := setV a.1 va) (by kernel_rfl) (by kernel_rfl) (by kernel_rfl) (by kernel_rfl) (fun _ _ _ h => h) (by kernel_rfl) (fun _ h => exec_set rfl ha16 (by kernel_rfl) h.A) hH3 ?_
  refine held_take (i := 11) (o := { dst := some 29, op := Op.load 26 (Operand.tmp 3), type := 26, pos := "law.go:49", after := #[{ on := 9, ground := Ground.guard }], guard := some (9, true) }) (v := setV b.1 vb) (by kernel_rfl) (by kernel_rfl) (by kernel_rfl) (by kernel_rfl) (fun _ _ _ h => h) (by kernel_rfl) (fun _ h => exec_set rfl hb16 (by kernel_rfl) h.B) hH3 ?_
  refine held_take (i := 13) (o := { dst := some 31, op := Op.load 26 (Operand.tmp 2), type := 26, pos := "law.go:49", after := #[{ on := 9, ground := Ground.guard }], guard := some (9, true) }) (v := setV a.1 va) (by kernel_rfl) (by kernel_rfl) (by kernel_rfl) (by kernel_rfl) (fun _ _ _ h => h) (by kernel_rfl) (fun _ h => exec_set rfl ha16 (by kernel_rfl) h.A) hH3 ?_
  refine held_take (i := 14) (o := { dst := some 32, op := Op.load 26 (Operand.tmp 3), type := 26, pos := "law.go:49", after := #[{ on := 9, ground := Ground.guard }], guard := some (9, true) }) (v := setV b.1 vb) (by kernel_rfl) (by kernel_rfl) (by kernel_rfl) (by kernel_rfl) (fun _ _ _ h => h) (by kernel_rfl) (fun _ h => exec_set rfl hb16 (by kernel_rfl) h.B) hH3 ?_
  refine held_callX (i := 12) (o := { dst := some 30, op := Op.call { callee := Callee.value (Operand.func 24), args := #[Operand.tmp 28, Operand.tmp 29], argTypes := #[26, 26] }, type := 4, pos := "law.go:49", after := #[{ on := 10, ground := Ground.data }, { on := 11, ground := Ground.data }, { on := 9, ground := Ground.chain }, { on := 9, ground := Ground.guard }], guard := some (9, true) }) (F := 24) (vs := #[setV a.1 va, setV b.1 vb]) (by kernel_rfl) (by kernel_rfl) (by kernel_rfl) (fun _ => by kernel_rfl) (H24.out _ hH3) ?_
  rintro e w4 ⟨rfl, hb4⟩
  have hH4 := hH3.on hb4
  refine ⟨.bool qw, rfl, hH4, ?_⟩
  refine held_callX (i := 15) (o := { dst := some 33, op := Op.call { callee := Callee.value (Operand.func 25), args := #[Operand.tmp 31, Operand.tmp 32], argTypes := #[26, 26] }, type := 4, pos := "law.go:49", after := #[{ on := 13, ground := Ground.data }, { on := 14, ground := Ground.data }, { on := 12, ground := Ground.chain }, { on := 9, ground := Ground.guard }], guard := some (9, true) }) (F := 25) (vs := #[setV a.1 va, setV b.1 vb]) (by kernel_rfl) (by kernel_rfl) (by kernel_rfl) (fun _ => by kernel_rfl) (H25.out _ hH4) ?_
  rintro e w5 ⟨rfl, hb5⟩
  have hH5 := hH4.on hb5
  refine ⟨.bool qw, rfl, hH5, ?_⟩
  refine held_take (i := 16) (o := { dst := some 34, op := Op.binOp BinOp.eql 4 (Operand.tmp 30) (Operand.tmp 33) 4, type := 4, pos := "law.go:49", after := #[{ on := 12, ground := Ground.data }, { on := 15, ground := Ground.data }, { on := 9, ground := Ground.guard }], guard := some (9, true) }) (v := .bool true) (by kernel_rfl) (by kernel_rfl) (by kernel_rfl) (by kernel_rfl) (fun _ _ _ h => h) (by kernel_rfl) (fun W _ => exec_bin rfl (by kernel_rfl) (by kernel_rfl) (fun _ => by kernel_rfl) (eqb_same qw) W) hH5 ?_
  refine held_take (i := 17) (o := { dst := some 35, op := Op.pick (Operand.tmp 27) (Operand.tmp 34) (Operand.const (Value.bool false)), type := 4, pos := "law.go:49", after := #[{ on := 9, ground := Ground.data }, { on := 16, ground := Ground.data }], guard := none }) (v := .bool true) (by kernel_rfl) (by kernel_rfl) (by kernel_rfl) (by kernel_rfl) (fun _ _ _ h => h) (by kernel_rfl) (fun _ _ => by kernel_rfl) hH5 ?_
  refine held_take (i := 18) (o := { dst := some 36, op := Op.move (Operand.tmp 35), type := 4, pos := "law.go:49", after := #[{ on := 17, ground := Ground.data }, { on := 15, ground := Ground.chain }], guard := none }) (v := .bool true) (by kernel_rfl) (by kernel_rfl) (by kernel_rfl) (by kernel_rfl) (fun _ _ _ h => h) (by kernel_rfl) (fun _ _ => by kernel_rfl) hH5 ?_
  refine held_take (i := 19) (o := { dst := some 37, op := Op.load 26 (Operand.tmp 2), type := 26, pos := "law.go:49", after := #[{ on := 18, ground := Ground.guard }], guard := some (18, true) }) (v := setV a.1 va) (by kernel_rfl) (by kernel_rfl) (by kernel_rfl) (by kernel_rfl) (fun _ _ _ h => h) (by kernel_rfl) (fun _ h => exec_set rfl ha16 (by kernel_rfl) h.A) hH5 ?_
  refine held_take (i := 20) (o := { dst := some 38, op := Op.load 26 (Operand.tmp 5), type := 26, pos := "law.go:49", after := #[{ on := 18, ground := Ground.guard }], guard := some (18, true) }) (v := setV u.1 vu) (by kernel_rfl) (by kernel_rfl) (by kernel_rfl) (by kernel_rfl) (fun _ _ _ h => h) (by kernel_rfl) (fun _ h => exec_set rfl hu16 (by kernel_rfl) h.U) hH5 ?_
  refine held_callX (i := 21) (o := { dst := some 39, op := Op.call { callee := Callee.value (Operand.func 24), args := #[Operand.tmp 37, Operand.tmp 38], argTypes := #[26, 26] }, type := 4, pos := "law.go:49", after := #[{ on := 19, ground := Ground.data }, { on := 20, ground := Ground.data }, { on := 18, ground := Ground.chain }, { on := 18, ground := Ground.guard }], guard := some (18, true) }) (F := 24) (vs := #[setV a.1 va, setV u.1 vu]) (by kernel_rfl) (by kernel_rfl) (by kernel_rfl) (fun _ => by kernel_rfl) (H24u.out _ hH5) ?_
  rintro e w6 ⟨rfl, hb6⟩
  have hH6 := hH5.on hb6
  refine ⟨.bool true, rfl, hH6, ?_⟩
  refine held_take (i := 22) (o := { dst := some 40, op := Op.pick (Operand.tmp 36) (Operand.tmp 39) (Operand.const (Value.bool false)), type := 4, pos := "law.go:49", after := #[{ on := 18, ground := Ground.data }, { on := 21, ground := Ground.data }], guard := none }) (v := .bool true) (by kernel_rfl) (by kernel_rfl) (by kernel_rfl) (by kernel_rfl) (fun _ _ _ h => h) (by kernel_rfl) (fun _ _ => by kernel_rfl) hH6 ?_
  refine held_take (i := 23) (o := { dst := some 41, op := Op.move (Operand.tmp 40), type := 4, pos := "law.go:49", after := #[{ on := 22, ground := Ground.data }, { on := 21, ground := Ground.chain }], guard := none }) (v := .bool true) (by kernel_rfl) (by kernel_rfl) (by kernel_rfl) (by kernel_rfl) (fun _ _ _ h => h) (by kernel_rfl) (fun _ _ => by kernel_rfl) hH6 ?_
  refine held_take (i := 24) (o := { dst := some 42, op := Op.load 26 (Operand.tmp 2), type := 26, pos := "law.go:49", after := #[{ on := 23, ground := Ground.guard }], guard := some (23, true) }) (v := setV a.1 va) (by kernel_rfl) (by kernel_rfl) (by kernel_rfl) (by kernel_rfl) (fun _ _ _ h => h) (by kernel_rfl) (fun _ h => exec_set rfl ha16 (by kernel_rfl) h.A) hH6 ?_
  refine held_take (i := 25) (o := { dst := some 43, op := Op.load 26 (Operand.tmp 3), type := 26, pos := "law.go:49", after := #[{ on := 23, ground := Ground.guard }], guard := some (23, true) }) (v := setV b.1 vb) (by kernel_rfl) (by kernel_rfl) (by kernel_rfl) (by kernel_rfl) (fun _ _ _ h => h) (by kernel_rfl) (fun _ h => exec_set rfl hb16 (by kernel_rfl) h.B) hH6 ?_
  refine held_take (i := 27) (o := { dst := some 45, op := Op.load 26 (Operand.tmp 2), type := 26, pos := "law.go:49", after := #[{ on := 23, ground := Ground.guard }], guard := some (23, true) }) (v := setV a.1 va) (by kernel_rfl) (by kernel_rfl) (by kernel_rfl) (by kernel_rfl) (fun _ _ _ h => h) (by kernel_rfl) (fun _ h => exec_set rfl ha16 (by kernel_rfl) h.A) hH6 ?_
  refine held_take (i := 28) (o := { dst := some 46, op := Op.load 26 (Operand.tmp 3), type := 26, pos := "law.go:49", after := #[{ on := 23, ground := Ground.guard }], guard := some (23, true) }) (v := setV b.1 vb) (by kernel_rfl) (by kernel_rfl) (by kernel_rfl) (by kernel_rfl) (fun _ _ _ h => h) (by kernel_rfl) (fun _ h => exec_set rfl hb16 (by kernel_rfl) h.B) hH6 ?_
  refine held_callX (i := 26) (o := { dst := some 44, op := Op.call { callee := Callee.value (Operand.func 26), args := #[Operand.tmp 42, Operand.tmp 43], argTypes := #[26, 26] }, type := 4, pos := "law.go:49", after := #[{ on := 24, ground := Ground.data }, { on := 25, ground := Ground.data }, { on := 23, ground := Ground.chain }, { on := 23, ground := Ground.guard }], guard := some (23, true) }) (F := 26) (vs := #[setV a.1 va, setV b.1 vb]) (by kernel_rfl) (by kernel_rfl) (by kernel_rfl) (fun _ => by kernel_rfl) (H26.out _ hH6) ?_
  rintro e w7 ⟨rfl, hb7⟩
  have hH7 := hH6.on hb7
  refine ⟨.bool qs, rfl, hH7, ?_⟩
  refine held_callX (i := 29) (o := { dst := some 47, op := Op.call { callee := Callee.value (Operand.func 14), args := #[Operand.tmp 45, Operand.tmp 46], argTypes := #[26, 26] }, type := 4, pos := "law.go:49", after := #[{ on := 27, ground := Ground.data }, { on := 28, ground := Ground.data }, { on := 26, ground := Ground.chain }, { on := 23, ground := Ground.guard }], guard := some (23, true) }) (F := 14) (vs := #[setV a.1 va, setV b.1 vb]) (by kernel_rfl) (by kernel_rfl) (by kernel_rfl) (fun _ => by kernel_rfl) (H14b.out _ hH7) ?_
  rintro e w8 ⟨rfl, hb8⟩
  have hH8 := hH7.on hb8
  refine ⟨.bool qs, rfl, hH8, ?_⟩
  refine held_take (i := 30) (o := { dst := some 48, op := Op.binOp BinOp.eql 4 (Operand.tmp 44) (Operand.tmp 47) 4, type := 4, pos := "law.go:49", after := #[{ on := 26, ground := Ground.data }, { on := 29, ground := Ground.data }, { on := 23, ground := Ground.guard }], guard := some (23, true) }) (v := .bool true) (by kernel_rfl) (by kernel_rfl) (by kernel_rfl) (by kernel_rfl) (fun _ _ _ h => h) (by kernel_rfl) (fun W _ => exec_bin rfl (by kernel_rfl) (by kernel_rfl) (fun _ => by kernel_rfl) (eqb_same qs) W) hH8 ?_
  refine held_take (i := 31) (o := { dst := some 49, op := Op.pick (Operand.tmp 41) (Operand.tmp 48) (Operand.const (Value.bool false)), type := 4, pos := "law.go:49", after := #[{ on := 23, ground := Ground.data }, { on := 30, ground := Ground.data }], guard := none }) (v := .bool true) (by kernel_rfl) (by kernel_rfl) (by kernel_rfl) (by kernel_rfl) (fun _ _ _ h => h) (by kernel_rfl) (fun _ _ => by kernel_rfl) hH8 ?_
  refine held_take (i := 32) (o := { dst := some 50, op := Op.move (Operand.tmp 49), type := 4, pos := "law.go:49", after := #[{ on := 31, ground := Ground.data }, { on := 29, ground := Ground.chain }], guard := none }) (v := .bool true) (by kernel_rfl) (by kernel_rfl) (by kernel_rfl) (by kernel_rfl) (fun _ _ _ h => h) (by kernel_rfl) (fun _ _ => by kernel_rfl) hH8 ?_
  refine held_callX (i := 33) (o := { dst := some 51, op := Op.call { callee := Callee.value (Operand.func 9), args := #[], argTypes := #[] }, type := 4, pos := "law.go:49", after := #[{ on := 32, ground := Ground.chain }, { on := 32, ground := Ground.guard }], guard := some (32, true) }) (F := 9) (vs := #[]) (by kernel_rfl) (by kernel_rfl) (by kernel_rfl) (fun _ => by kernel_rfl) (awake_any _) ?_
  rintro e w9 ⟨rfl, hb9⟩
  have hH9 := hH8.on hb9
  refine ⟨.bool true, rfl, hH9, ?_⟩
  refine held_take (i := 34) (o := { dst := some 52, op := Op.pick (Operand.tmp 50) (Operand.tmp 51) (Operand.const (Value.bool false)), type := 4, pos := "law.go:49", after := #[{ on := 32, ground := Ground.data }, { on := 33, ground := Ground.data }], guard := none }) (v := .bool true) (by kernel_rfl) (by kernel_rfl) (by kernel_rfl) (by kernel_rfl) (fun _ _ _ h => h) (by kernel_rfl) (fun _ _ => by kernel_rfl) hH9 ?_
  refine held_do (i := 35) (o := { dst := some 4, op := Op.assign (Operand.tmp 52), type := 4, pos := "law.go:49", after := #[{ on := 34, ground := Ground.data }, { on := 33, ground := Ground.chain }, { on := 0, ground := Ground.phase }, { on := 1, ground := Ground.phase }, { on := 2, ground := Ground.phase }, { on := 3, ground := Ground.phase }, { on := 4, ground := Ground.phase }, { on := 5, ground := Ground.phase }, { on := 6, ground := Ground.phase }, { on := 7, ground := Ground.phase }, { on := 8, ground := Ground.phase }, { on := 9, ground := Ground.phase }, { on := 10, ground := Ground.phase }, { on := 11, ground := Ground.phase }, { on := 12, ground := Ground.phase }, { on := 13, ground := Ground.phase }, { on := 14, ground := Ground.phase }, { on := 15, ground := Ground.phase }, { on := 16, ground := Ground.phase }, { on := 17, ground := Ground.phase }, { on := 18, ground := Ground.phase }, { on := 19, ground := Ground.phase }, { on := 20, ground := Ground.phase }, { on := 21, ground := Ground.phase }, { on := 22, ground := Ground.phase }, { on := 23, ground := Ground.phase }, { on := 24, ground := Ground.phase }, { on := 25, ground := Ground.phase }, { on := 26, ground := Ground.phase }, { on := 27, ground := Ground.phase }, { on := 28, ground := Ground.phase }, { on := 29, ground := Ground.phase }, { on := 30, ground := Ground.phase }, { on := 31, ground := Ground.phase }, { on := 32, ground := Ground.phase }, { on := 33, ground := Ground.phase }, { on := 34, ground := Ground.phase }], guard := none }) (v := .bool true) (by kernel_rfl) (by kernel_rfl) (by kernel_rfl) (by kernel_rfl) hH9 ?_
  refine wpAnyH_done (by kernel_rfl) ?_ _
  simp only [Act.put, List.setIfInBounds_toArray, List.set_cons_zero, List.set_cons_succ]
  go_wp2
  go_ret
  exact ⟨rfl, hH9.below⟩
end Go.Proofs.Ytenfbjlmfdiniaa
