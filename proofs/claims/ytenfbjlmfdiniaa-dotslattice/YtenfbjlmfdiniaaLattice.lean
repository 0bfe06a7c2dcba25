/- The walk of DotsLattice. -/
import Derived.Test.YtenfbjlmfdiniaaWithin
namespace Go.Proofs.Ytenfbjlmfdiniaa
open Go.RowKit Go.Shelf

abbrev DSet := List Int × List D
/-- What holds while the law's statements are walked. -/
structure LS (w : World) (ub : Nat) (a : DSet) (va : Value) (b : DSet) (vb : Value) (c : DSet) (vc : Value) (u : DSet) (vu : Value) (d : D) (W : World) : Prop where
  A : SetAt W w.heap.size a.1 va
  B : SetAt W (w.heap.size + 1) b.1 vb
  C : SetAt W (w.heap.size + 1 + 1) c.1 vc
  U : SetAt W ub u.1 vu
  dA : dotsIn W va a.2
  dB : dotsIn W vb b.2
  dC : dotsIn W vc c.2
  dU : dotsIn W vu u.2
  dot : DotAt W (w.heap.size + 1 + 1 + 1) d
  below : Below w.heap.size w W
theorem LS.on {w : World} {ub : Nat} {a b c u : DSet} {va vb vc vu : Value} {d : D} {W W' : World} (h : LS w ub a va b vb c vc u vu d W) (hb : Below W.heap.size W W') : LS w ub a va b vb c vc u vu d W' :=
  ⟨h.A.on hb, h.B.on hb, h.C.on hb, h.U.on hb, h.dA.on hb, h.dB.on hb, h.dC.on hb, h.dU.on hb, h.dot.on hb, bchain h.below hb⟩
/-- The union by its pairs. -/
theorem uni_any (s t : DSet) (hs : St.Std s.1 s.2) (ht : St.Std t.1 t.2) (hn : s.2.length + t.2.length ≤ 1000) (v u : Value) (w : World) (hd : dotsIn w v s.2) (he : dotsIn w u t.2) :
    Calls Try.prog 22 #[setV s.1 v, setV t.1 u] w fun e w' => ∃ sl, e = .returned (setV (uni s t).1 sl) ∧ dotsIn w' sl (uni s t).2 ∧ Below w.heap.size w w' :=
  union_any s.1 t.1 hs.len ht.len hs.vec ht.vec v u s.2 t.2 w hd he hn
theorem same_yes (l : List Int) (ds : List D) (v u : Value) (w : World) (hl : l.length = 16) (hn : ds.length ≤ 1000000) (hd : dotsIn w v ds) (he : dotsIn w u ds) :
    Calls Try.prog 26 #[setV l v, setV l u] w fun e w' => e = .returned (.bool true) ∧ Below w.heap.size w w' := by
  have := sameSet_any l l hl hl v u ds ds w hd he hn
  simpa using this

set_option maxRecDepth 20000 in
set_option maxHeartbeats 2000000 in
theorem dotsLattice_walk (a : DSet) (va : Value) (b : DSet) (vb : Value) (c : DSet) (vc : Value) (d : D) (w : World) (ha16 : a.1.length = 16) (hda : dotsIn w va a.2) (hb16 : b.1.length = 16) (hdb : dotsIn w vb b.2) (hc16 : c.1.length = 16) (hdc : dotsIn w vc c.2) :
    Calls Try.prog 6 #[setV a.1 va, setV b.1 vb, setV c.1 vc, dV d] w fun e w' => e = .returned (.bool true) ∧ Below w.heap.size w w' := by
  obtain ⟨W0, hW0⟩ : ∃ W0, W0 = (((w.alloc (.cells (setC a.1 va).toArray 26)).alloc (.cells (setC b.1 vb).toArray 26)).alloc (.cells (setC c.1 vc).toArray 26)).alloc (.cells #[.int .i64 d.1, .int .i64 d.2] 28) := ⟨_, rfl⟩
  have hB0 : Below w.heap.size w W0 := by rw [hW0]; exact bchain (below_new2 _ _ _) (below_new2 _ _ _)
  have hA0 : SetAt W0 w.heap.size a.1 va := by rw [hW0]; exact (((SetAt.new w a.1 va).alloc _).alloc _).alloc _
  have hA1 : SetAt W0 (w.heap.size + 1) b.1 vb := by
    rw [hW0]
    have := ((SetAt.new (w.alloc (.cells (setC a.1 va).toArray 26)) b.1 vb).alloc (.cells (setC c.1 vc).toArray 26)).alloc (.cells #[.int .i64 d.1, .int .i64 d.2] 28)
    simpa using this
  have hA2 : SetAt W0 (w.heap.size + 1 + 1) c.1 vc := by
    rw [hW0]
    have := (SetAt.new ((w.alloc (.cells (setC a.1 va).toArray 26)).alloc (.cells (setC b.1 vb).toArray 26)) c.1 vc).alloc (.cells #[.int .i64 d.1, .int .i64 d.2] 28)
    simpa using this
  have hD0 : DotAt W0 (w.heap.size + 1 + 1 + 1) d := by
    rw [hW0]
    have := DotAt.new (((w.alloc (.cells (setC a.1 va).toArray 26)).alloc (.cells (setC b.1 vb).toArray 26)).alloc (.cells (setC c.1 vc).toArray 26)) d
    simpa using this
  have HGa := fun (q : Bool) (hq : q = true ↔ (St.Std a.1 a.2 ∧ a.2.length ≤ 100)) W (h : dotsIn W va a.2) => good_any a.1 ha16 va a.2 W h q hq
  have HGb := fun (q : Bool) (hq : q = true ↔ (St.Std b.1 b.2 ∧ b.2.length ≤ 100)) W (h : dotsIn W vb b.2) => good_any b.1 hb16 vb b.2 W h q hq
  have HGc := fun (q : Bool) (hq : q = true ↔ (St.Std c.1 c.2 ∧ c.2.length ≤ 100)) W (h : dotsIn W vc c.2) => good_any c.1 hc16 vc c.2 W h q hq
  have HA : Hid (SetAt W0 w.heap.size a.1 va) := hA0
  have HB : Hid (SetAt W0 (w.heap.size + 1) b.1 vb) := hA1
  have HC : Hid (SetAt W0 (w.heap.size + 1 + 1) c.1 vc) := hA2
  have HD : Hid (DotAt W0 (w.heap.size + 1 + 1 + 1) d) := hD0
  have HBW : Hid (Below w.heap.size w W0) := hB0
  have HW : Hid (W0 = (((w.alloc (.cells (setC a.1 va).toArray 26)).alloc (.cells (setC b.1 vb).toArray 26)).alloc (.cells (setC c.1 vc).toArray 26)).alloc (.cells #[.int .i64 d.1, .int .i64 d.2] 28)) := hW0
  have HDa : Hid (dotsIn W0 va a.2) := hda.on hB0
  have HDb : Hid (dotsIn W0 vb b.2) := hdb.on hB0
  have HDc : Hid (dotsIn W0 vc c.2) := hdc.on hB0
  rw [hW0] at hA0
  clear hA1 hA2 hD0 hB0 hW0
  by_cases ga : St.Std a.1 a.2 ∧ a.2.length ≤ 100
  rotate_left
  · have HG := HGa false ⟨fun e => (by cases e), fun e => absurd e ga⟩ _ HDa.out
    clear HGa HGb HGc ga
    go_enter Try.func6, Try.ntmps6
    go_wp2_with (first | (refine load_setG (by kernel_rfl) _ rfl w.heap.size a.1 va ha16 rfl hA0 ?_; rw [← HW.out]) | (go_at_call 21; refine HG.mono ?_; rintro e w1 ⟨rfl, hb1⟩) | (go_at_call 9; refine (awake_any _).mono ?_; rintro e w2 ⟨rfl, hb2⟩))
    go_ret
    exact ⟨rfl, bchain HBW.out (bchain hb1 hb2)⟩
  have HG := HGa true ⟨fun _ => ga, fun _ => rfl⟩ _ HDa.out
  by_cases gb : St.Std b.1 b.2 ∧ b.2.length ≤ 100
  rotate_left
  · have HG2 := HGb false ⟨fun e => (by cases e), fun e => absurd e gb⟩
    clear HGa HGb HGc ga gb
    go_enter Try.func6, Try.ntmps6
    go_wp2_with (first
      | (go_at_call 9; refine (awake_any _).mono ?_; rintro e w3 ⟨rfl, hb3⟩)
      | (go_at_call 21; refine HG3.mono ?_; rintro e w2 ⟨rfl, hb2⟩)
      | (go_at_call 21; refine HG.mono ?_; rintro e w1 ⟨rfl, hb1⟩
         have hB1 := HB.out.on hb1
         have HG3 := HG2 w1 (HDb.out.on hb1))
      | (refine load_setG (by kernel_rfl) _ rfl (w.heap.size + 1) b.1 vb hb16 rfl hB1 ?_)
      | (refine load_setG (by kernel_rfl) _ rfl w.heap.size a.1 va ha16 rfl hA0 ?_; rw [← HW.out]))
    go_ret
    exact ⟨rfl, bchain HBW.out (bchain hb1 (bchain hb2 hb3))⟩
  have HG2 := HGb true ⟨fun _ => gb, fun _ => rfl⟩
  by_cases gc : St.Std c.1 c.2 ∧ c.2.length ≤ 100
  rotate_left
  · have HG4 := HGc false ⟨fun e => (by cases e), fun e => absurd e gc⟩
    clear HGa HGb HGc ga gb gc
    go_enter Try.func6, Try.ntmps6
    go_wp2_with (first
      | (go_at_call 9; refine (awake_any _).mono ?_; rintro e w4 ⟨rfl, hb4⟩)
      | (go_at_call 21; refine HG5.mono ?_; rintro e w3 ⟨rfl, hb3⟩)
      | (go_at_call 21; refine HG3.mono ?_; rintro e w2 ⟨rfl, hb2⟩
         have hC2 := (HC.out.on hb1).on hb2
         have HG5 := HG4 w2 ((HDc.out.on hb1).on hb2))
      | (go_at_call 21; refine HG.mono ?_; rintro e w1 ⟨rfl, hb1⟩
         have hB1 := HB.out.on hb1
         have HG3 := HG2 w1 (HDb.out.on hb1))
      | (refine load_setG (by kernel_rfl) _ rfl (w.heap.size + 1 + 1) c.1 vc hc16 rfl hC2 ?_)
      | (refine load_setG (by kernel_rfl) _ rfl (w.heap.size + 1) b.1 vb hb16 rfl hB1 ?_)
      | (refine load_setG (by kernel_rfl) _ rfl w.heap.size a.1 va ha16 rfl hA0 ?_; rw [← HW.out]))
    go_ret
    exact ⟨rfl, bchain HBW.out (bchain hb1 (bchain hb2 (bchain hb3 hb4)))⟩
  have HG4 := HGc true ⟨fun _ => gc, fun _ => rfl⟩
  have hU := uni_is ga.1 gb.1
  have hY := uni_is gb.1 gc.1
  have hX := uni_is hU.1.1 gc.1
  have HU0 : ∀ W, dotsIn W va a.2 → dotsIn W vb b.2 → Calls Try.prog 22 #[setV a.1 va, setV b.1 vb] W fun e w' => ∃ sl, e = .returned (setV (uni a b).1 sl) ∧ dotsIn w' sl (uni a b).2 ∧ Below W.heap.size W w' := fun W h1 h2 => uni_any a b ga.1 gb.1 (by omega) va vb W h1 h2
  have hxx := uni_on ga.1 gb.1 gc.1
  have K1 := fun (vu : Value) (ub : Nat) (W : World) (h : LS w ub a va b vb c vc (uni a b) vu d W) => uni_any b a gb.1 ga.1 (by omega) vb va W h.dB h.dA
  rw [uni_turn ga.1 gb.1] at K1
  have K3 := fun (vu : Value) (ub : Nat) (W : World) (h : LS w ub a va b vb c vc (uni a b) vu d W) => uni_any (uni a b) c hU.1.1 gc.1 (by omega) vu vc W h.dU h.dC
  have K4 := fun (vu : Value) (ub : Nat) (W : World) (h : LS w ub a va b vb c vc (uni a b) vu d W) => uni_any b c gb.1 gc.1 (by omega) vb vc W h.dB h.dC
  have K5 := fun (vu : Value) (ub : Nat) (W : World) (r : Value) (h : LS w ub a va b vb c vc (uni a b) vu d W) (hr : dotsIn W r (uni b c).2) => uni_any a (uni b c) ga.1 hY.1.1 (by omega) va r W h.dA hr
  rw [← hxx] at K5
  have K7 := fun (vu : Value) (ub : Nat) (W : World) (h : LS w ub a va b vb c vc (uni a b) vu d W) => uni_any a a ga.1 ga.1 (by omega) va va W h.dA h.dA
  rw [uni_self ga.1] at K7
  have hhas := has_uni ga.1 gb.1 d
  have Ku := fun (vu : Value) (ub : Nat) (W : World) (h : LS w ub a va b vb c vc (uni a b) vu d W) => hasSet_any (uni a b).1 hU.1.1.len vu (uni a b).2 d W h.dU (by omega) hU.1.1.row
  rw [hhas] at Ku
  have Ka := fun (vu : Value) (ub : Nat) (W : World) (h : LS w ub a va b vb c vc (uni a b) vu d W) => hasSet_any a.1 ha16 va a.2 d W h.dA (by omega) ga.1.row
  have Kb := fun (vu : Value) (ub : Nat) (W : World) (h : LS w ub a va b vb c vc (uni a b) vu d W) => hasSet_any b.1 hb16 vb b.2 d W h.dB (by omega) gb.1.row
  have Kw := fun (vu : Value) (ub : Nat) (W : World) (h : LS w ub a va b vb c vc (uni a b) vu d W) => within_any a.1 b.1 ha16 hb16 va vb a.2 b.2 W h.dA h.dB (by omega) (by omega) gb.1.row
  have Ks := fun (vu : Value) (ub : Nat) (W : World) (h : LS w ub a va b vb c vc (uni a b) vu d W) => sameSet_any (uni a b).1 b.1 hU.1.1.len hb16 vu vb (uni a b).2 b.2 W h.dU h.dB (by omega)
  rw [wit_same ga.1 gb.1] at Ks
  have hu16 := hU.1.1.len
  have hx16 := hX.1.1.len
  have hun : (uni a b).2.length ≤ 1000000 := by omega
  have hxn : (uni (uni a b) c).2.length ≤ 1000000 := by omega
  have han : a.2.length ≤ 1000000 := by omega
  generalize hqw : wit a b = qw at *
  have hqw' : wit (a.1, a.2) (b.1, b.2) = qw := hqw
  clear hqw hqw' hxx hhas hU hX hY ga gb gc HGa HGb HGc
  generalize uni (uni a b) c = x at *
  generalize uni b c = y at *
  generalize uni a b = u at *
  generalize St.has b.1 b.2 d = qb at *
  generalize St.has a.1 a.2 d = qa at *
  have HS : Hid (∀ (l : List Int) (ds : List D) (v u : Value) (w : World), l.length = 16 → ds.length ≤ 1000000 → dotsIn w v ds → dotsIn w u ds → Calls Try.prog 26 #[setV l v, setV l u] w fun e w' => e = .returned (.bool true) ∧ Below w.heap.size w w') := same_yes
  have H1' : Hid _ := K1
  have H3' : Hid _ := K3
  have H4' : Hid _ := K4
  have H5' : Hid _ := K5
  have H7' : Hid _ := K7
  have Hu' : Hid _ := Ku
  have Ha' : Hid _ := Ka
  have Hb' : Hid _ := Kb
  have Hw' : Hid _ := Kw
  have Hs' : Hid _ := Ks
  clear K1 K3 K4 K5 K7 Ku Ka Kb Kw Ks
  go_enter Try.func6, Try.ntmps6
  go_wp2_with (first
    | (go_at_call 21; refine HG5.mono ?_; rintro e w3 ⟨rfl, hb3⟩
       have hb03 := bchain hb1 (bchain hb2 hb3)
       have hA3 := HA.out.on hb03
       have hB3 := HB.out.on hb03)
    | (go_at_call 21; refine HG3.mono ?_; rintro e w2 ⟨rfl, hb2⟩
       have hC2 := (HC.out.on hb1).on hb2
       have HG5 := HG4 w2 ((HDc.out.on hb1).on hb2))
    | (go_at_call 21; refine HG.mono ?_; rintro e w1 ⟨rfl, hb1⟩
       have hB1 := HB.out.on hb1
       have HG3 := HG2 w1 (HDb.out.on hb1))
    | (refine load_setG (by kernel_rfl) _ rfl (w.heap.size + 1) b.1 vb hb16 rfl hB3 ?_)
    | (refine load_setG (by kernel_rfl) _ rfl w.heap.size a.1 va ha16 rfl hA3 ?_)
    | (refine load_setG (by kernel_rfl) _ rfl (w.heap.size + 1 + 1) c.1 vc hc16 rfl hC2 ?_)
    | (refine load_setG (by kernel_rfl) _ rfl (w.heap.size + 1) b.1 vb hb16 rfl hB1 ?_)
    | (refine load_setG (by kernel_rfl) _ rfl w.heap.size a.1 va ha16 rfl hA0 ?_; rw [← HW.out]))
  refine (HU0 w3 (HDa.out.on hb03) (HDb.out.on hb03)).mono ?_
  rintro e w4 ⟨vu, rfl, hdu, hb4⟩
  have hb04 := bchain hb03 hb4
  have hZ4 := SetAt.zero w4
  have hK4 := kept_set w4 u.1 vu
  have hKb := kept_below w4 u.1 vu
  have hsu := hdu.sl
  clear HG HG2 HG3 HG4 HG5 hA0 hB1 hC2 hA3 hB3 HU0
  go_wp2_with (first | (refine store_set rfl _ _ rfl w4.heap.size u.1 noughts vu (.slice none 0 0) hu16 noughts_length hsu rfl rfl hZ4 ?_))
  change Code.wp Try.prog _ _ _ (kept w4 u.1 vu)
  have hb0K := bchain hb04 hKb
  have hLS : LS w w4.heap.size a va b vb c vc u vu d (kept w4 u.1 vu).drew :=
    ⟨HA.out.on hb0K.drew, HB.out.on hb0K.drew, HC.out.on hb0K.drew, hK4.drew, HDa.out.on hb0K.drew, HDb.out.on hb0K.drew, HDc.out.on hb0K.drew, hdu.on hKb.drew, HD.out.on hb0K.drew, (bchain HBW.out hb0K).drew⟩
  clear hZ4 hK4 hKb hb0K
  generalize w4.heap.size = ub at *
  generalize kept w4 u.1 vu = W3 at *
  have H1 : Hid _ := H1'.out vu ub
  have H3 : Hid _ := H3'.out vu ub
  have H4 : Hid _ := H4'.out vu ub
  have H5 : Hid _ := H5'.out vu ub
  have H7 : Hid _ := H7'.out vu ub
  have HHu : Hid _ := Hu'.out vu ub
  have HHa : Hid _ := Ha'.out vu ub
  have HHb : Hid _ := Hb'.out vu ub
  have HWi : Hid _ := Hw'.out vu ub
  have HSu : Hid _ := Hs'.out vu ub
  refine wp_region_held_drew (S := LS w ub a va b vb c vc u vu d) (by kernel_rfl) (hLS) (fun hH0 => ?_)
  refine held_take (i := 0) (o := { dst := some 27, op := Op.load 26 (Operand.tmp 9), type := 26, pos := "law.go:73", after := #[], guard := none }) (v := setV u.1 vu) (by kernel_rfl) (by kernel_rfl) (by kernel_rfl) (by kernel_rfl) (fun _ _ _ h => h) (by kernel_rfl) (fun _ h => exec_set rfl hu16 (by kernel_rfl) h.U) hH0 ?_
  refine held_take (i := 1) (o := { dst := some 28, op := Op.load 26 (Operand.tmp 5), type := 26, pos := "law.go:73", after := #[], guard := none }) (v := setV b.1 vb) (by kernel_rfl) (by kernel_rfl) (by kernel_rfl) (by kernel_rfl) (fun _ _ _ h => h) (by kernel_rfl) (fun _ h => exec_set rfl hb16 (by kernel_rfl) h.B) hH0 ?_
  refine held_take (i := 2) (o := { dst := some 29, op := Op.load 26 (Operand.tmp 4), type := 26, pos := "law.go:73", after := #[], guard := none }) (v := setV a.1 va) (by kernel_rfl) (by kernel_rfl) (by kernel_rfl) (by kernel_rfl) (fun _ _ _ h => h) (by kernel_rfl) (fun _ h => exec_set rfl ha16 (by kernel_rfl) h.A) hH0 ?_
  refine held_callX (i := 3) (o := { dst := some 30, op := Op.call { callee := Callee.value (Operand.func 22), args := #[Operand.tmp 28, Operand.tmp 29], argTypes := #[26, 26] }, type := 26, pos := "law.go:73", after := #[{ on := 1, ground := Ground.data }, { on := 2, ground := Ground.data }], guard := none }) (F := 22) (vs := #[setV b.1 vb, setV a.1 va]) (by kernel_rfl) (by kernel_rfl) (by kernel_rfl) (fun _ => by kernel_rfl) (H1.out _ hH0) ?_
  rintro e w1 ⟨r1, rfl, hd1, hb1⟩
  have hH1 := hH0.on hb1
  refine ⟨setV u.1 r1, rfl, hH1, ?_⟩
  refine held_callX (i := 4) (o := { dst := some 31, op := Op.call { callee := Callee.value (Operand.func 26), args := #[Operand.tmp 27, Operand.tmp 30], argTypes := #[26, 26] }, type := 4, pos := "law.go:73", after := #[{ on := 0, ground := Ground.data }, { on := 3, ground := Ground.data }, { on := 3, ground := Ground.chain }], guard := none }) (F := 26) (vs := #[setV u.1 vu, setV u.1 r1]) (by kernel_rfl) (by kernel_rfl) (by kernel_rfl) (fun _ => by kernel_rfl) (HS.out _ _ _ _ _ hu16 hun hH1.dU hd1) ?_
  rintro e w2 ⟨rfl, hb2⟩
  have hH2 := hH1.on hb2
  refine ⟨.bool true, rfl, hH2, ?_⟩
  refine held_take (i := 5) (o := { dst := some 32, op := Op.unOp UnOp.not 4 (Operand.tmp 31), type := 4, pos := "law.go:73", after := #[{ on := 4, ground := Ground.data }], guard := none }) (v := .bool false) (by kernel_rfl) (by kernel_rfl) (by kernel_rfl) (by kernel_rfl) (fun _ _ _ h => h) (by kernel_rfl) (fun W _ => exec_un rfl (by kernel_rfl) (not_of true) W) hH2 ?_
  refine held_take (i := 6) (o := { dst := some 33, op := Op.move (Operand.tmp 32), type := 4, pos := "law.go:73", after := #[{ on := 5, ground := Ground.data }, { on := 4, ground := Ground.chain }], guard := none }) (v := .bool false) (by kernel_rfl) (by kernel_rfl) (by kernel_rfl) (by kernel_rfl) (fun _ _ _ h => h) (by kernel_rfl) (fun _ _ => by kernel_rfl) hH2 ?_
  refine held_take (i := 7) (o := { dst := some 34, op := Op.load 26 (Operand.tmp 9), type := 26, pos := "law.go:73", after := #[{ on := 6, ground := Ground.guard }], guard := some (6, false) }) (v := setV u.1 vu) (by kernel_rfl) (by kernel_rfl) (by kernel_rfl) (by kernel_rfl) (fun _ _ _ h => h) (by kernel_rfl) (fun _ h => exec_set rfl hu16 (by kernel_rfl) h.U) hH2 ?_
  refine held_take (i := 8) (o := { dst := some 35, op := Op.load 26 (Operand.tmp 6), type := 26, pos := "law.go:73", after := #[{ on := 6, ground := Ground.guard }], guard := some (6, false) }) (v := setV c.1 vc) (by kernel_rfl) (by kernel_rfl) (by kernel_rfl) (by kernel_rfl) (fun _ _ _ h => h) (by kernel_rfl) (fun _ h => exec_set rfl hc16 (by kernel_rfl) h.C) hH2 ?_
  refine held_take (i := 10) (o := { dst := some 37, op := Op.load 26 (Operand.tmp 4), type := 26, pos := "law.go:73", after := #[{ on := 6, ground := Ground.guard }], guard := some (6, false) }) (v := setV a.1 va) (by kernel_rfl) (by kernel_rfl) (by kernel_rfl) (by kernel_rfl) (fun _ _ _ h => h) (by kernel_rfl) (fun _ h => exec_set rfl ha16 (by kernel_rfl) h.A) hH2 ?_
  refine held_take (i := 11) (o := { dst := some 38, op := Op.load 26 (Operand.tmp 5), type := 26, pos := "law.go:73", after := #[{ on := 6, ground := Ground.guard }], guard := some (6, false) }) (v := setV b.1 vb) (by kernel_rfl) (by kernel_rfl) (by kernel_rfl) (by kernel_rfl) (fun _ _ _ h => h) (by kernel_rfl) (fun _ h => exec_set rfl hb16 (by kernel_rfl) h.B) hH2 ?_
  refine held_take (i := 12) (o := { dst := some 39, op := Op.load 26 (Operand.tmp 6), type := 26, pos := "law.go:73", after := #[{ on := 6, ground := Ground.guard }], guard := some (6, false) }) (v := setV c.1 vc) (by kernel_rfl) (by kernel_rfl) (by kernel_rfl) (by kernel_rfl) (fun _ _ _ h => h) (by kernel_rfl) (fun _ h => exec_set rfl hc16 (by kernel_rfl) h.C) hH2 ?_
  refine held_callX (i := 9) (o := { dst := some 36, op := Op.call { callee := Callee.value (Operand.func 22), args := #[Operand.tmp 34, Operand.tmp 35], argTypes := #[26, 26] }, type := 26, pos := "law.go:73", after := #[{ on := 7, ground := Ground.data }, { on := 8, ground := Ground.data }, { on := 6, ground := Ground.chain }, { on := 6, ground := Ground.guard }], guard := some (6, false) }) (F := 22) (vs := #[setV u.1 vu, setV c.1 vc]) (by kernel_rfl) (by kernel_rfl) (by kernel_rfl) (fun _ => by kernel_rfl) (H3.out _ hH2) ?_
  rintro e w3 ⟨r3, rfl, hd3, hb3⟩
  have hH3 := hH2.on hb3
  refine ⟨setV x.1 r3, rfl, hH3, ?_⟩
  refine held_callX (i := 13) (o := { dst := some 40, op := Op.call { callee := Callee.value (Operand.func 22), args := #[Operand.tmp 38, Operand.tmp 39], argTypes := #[26, 26] }, type := 26, pos := "law.go:73", after := #[{ on := 11, ground := Ground.data }, { on := 12, ground := Ground.data }, { on := 9, ground := Ground.chain }, { on := 6, ground := Ground.guard }], guard := some (6, false) }) (F := 22) (vs := #[setV b.1 vb, setV c.1 vc]) (by kernel_rfl) (by kernel_rfl) (by kernel_rfl) (fun _ => by kernel_rfl) (H4.out _ hH3) ?_
  rintro e w4 ⟨r4, rfl, hd4, hb4⟩
  have hH4 := hH3.on hb4
  refine ⟨setV y.1 r4, rfl, hH4, ?_⟩
  refine held_callX (i := 14) (o := { dst := some 41, op := Op.call { callee := Callee.value (Operand.func 22), args := #[Operand.tmp 37, Operand.tmp 40], argTypes := #[26, 26] }, type := 26, pos := "law.go:73", after := #[{ on := 10, ground := Ground.data }, { on := 13, ground := Ground.data }, { on := 13, ground := Ground.chain }, { on := 6, ground := Ground.guard }], guard := some (6, false) }) (F := 22) (vs := #[setV a.1 va, setV y.1 r4]) (by kernel_rfl) (by kernel_rfl) (by kernel_rfl) (fun _ => by kernel_rfl) (H5.out _ _ hH4 hd4) ?_
  rintro e w5 ⟨r5, rfl, hd5, hb5⟩
  have hH5 := hH4.on hb5
  refine ⟨setV x.1 r5, rfl, hH5, ?_⟩
  refine held_callX (i := 15) (o := { dst := some 42, op := Op.call { callee := Callee.value (Operand.func 26), args := #[Operand.tmp 36, Operand.tmp 41], argTypes := #[26, 26] }, type := 4, pos := "law.go:73", after := #[{ on := 9, ground := Ground.data }, { on := 14, ground := Ground.data }, { on := 14, ground := Ground.chain }, { on := 6, ground := Ground.guard }], guard := some (6, false) }) (F := 26) (vs := #[setV x.1 r3, setV x.1 r5]) (by kernel_rfl) (by kernel_rfl) (by kernel_rfl) (fun _ => by kernel_rfl) (HS.out _ _ _ _ _ hx16 hxn ((hd3.on hb4).on hb5) hd5) ?_
  rintro e w6 ⟨rfl, hb6⟩
  have hH6 := hH5.on hb6
  refine ⟨.bool true, rfl, hH6, ?_⟩
  refine held_take (i := 16) (o := { dst := some 43, op := Op.unOp UnOp.not 4 (Operand.tmp 42), type := 4, pos := "law.go:73", after := #[{ on := 15, ground := Ground.data }, { on := 6, ground := Ground.guard }], guard := some (6, false) }) (v := .bool false) (by kernel_rfl) (by kernel_rfl) (by kernel_rfl) (by kernel_rfl) (fun _ _ _ h => h) (by kernel_rfl) (fun W _ => exec_un rfl (by kernel_rfl) (not_of true) W) hH6 ?_
  refine held_take (i := 17) (o := { dst := some 44, op := Op.pick (Operand.tmp 33) (Operand.const (Value.bool true)) (Operand.tmp 43), type := 4, pos := "law.go:73", after := #[{ on := 6, ground := Ground.data }, { on := 16, ground := Ground.data }], guard := none }) (v := .bool false) (by kernel_rfl) (by kernel_rfl) (by kernel_rfl) (by kernel_rfl) (fun _ _ _ h => h) (by kernel_rfl) (fun _ _ => by kernel_rfl) hH6 ?_
  refine held_take (i := 18) (o := { dst := some 45, op := Op.move (Operand.tmp 44), type := 4, pos := "law.go:73", after := #[{ on := 17, ground := Ground.data }, { on := 15, ground := Ground.chain }], guard := none }) (v := .bool false) (by kernel_rfl) (by kernel_rfl) (by kernel_rfl) (by kernel_rfl) (fun _ _ _ h => h) (by kernel_rfl) (fun _ _ => by kernel_rfl) hH6 ?_
  refine held_take (i := 19) (o := { dst := some 46, op := Op.load 26 (Operand.tmp 4), type := 26, pos := "law.go:73", after := #[{ on := 18, ground := Ground.guard }], guard := some (18, false) }) (v := setV a.1 va) (by kernel_rfl) (by kernel_rfl) (by kernel_rfl) (by kernel_rfl) (fun _ _ _ h => h) (by kernel_rfl) (fun _ h => exec_set rfl ha16 (by kernel_rfl) h.A) hH6 ?_
  refine held_take (i := 20) (o := { dst := some 47, op := Op.load 26 (Operand.tmp 4), type := 26, pos := "law.go:73", after := #[{ on := 18, ground := Ground.guard }], guard := some (18, false) }) (v := setV a.1 va) (by kernel_rfl) (by kernel_rfl) (by kernel_rfl) (by kernel_rfl) (fun _ _ _ h => h) (by kernel_rfl) (fun _ h => exec_set rfl ha16 (by kernel_rfl) h.A) hH6 ?_
  refine held_take (i := 22) (o := { dst := some 49, op := Op.load 26 (Operand.tmp 4), type := 26, pos := "law.go:73", after := #[{ on := 18, ground := Ground.guard }], guard := some (18, false) }) (v := setV a.1 va) (by kernel_rfl) (by kernel_rfl) (by kernel_rfl) (by kernel_rfl) (fun _ _ _ h => h) (by kernel_rfl) (fun _ h => exec_set rfl ha16 (by kernel_rfl) h.A) hH6 ?_
  refine held_callX (i := 21) (o := { dst := some 48, op := Op.call { callee := Callee.value (Operand.func 22), args := #[Operand.tmp 46, Operand.tmp 47], argTypes := #[26, 26] }, type := 26, pos := "law.go:73", after := #[{ on := 19, ground := Ground.data }, { on := 20, ground := Ground.data }, { on := 18, ground := Ground.chain }, { on := 18, ground := Ground.guard }], guard := some (18, false) }) (F := 22) (vs := #[setV a.1 va, setV a.1 va]) (by kernel_rfl) (by kernel_rfl) (by kernel_rfl) (fun _ => by kernel_rfl) (H7.out _ hH6) ?_
  rintro e w7 ⟨r7, rfl, hd7, hb7⟩
  have hH7 := hH6.on hb7
  refine ⟨setV a.1 r7, rfl, hH7, ?_⟩
  refine held_callX (i := 23) (o := { dst := some 50, op := Op.call { callee := Callee.value (Operand.func 26), args := #[Operand.tmp 48, Operand.tmp 49], argTypes := #[26, 26] }, type := 4, pos := "law.go:73", after := #[{ on := 21, ground := Ground.data }, { on := 22, ground := Ground.data }, { on := 21, ground := Ground.chain }, { on := 18, ground := Ground.guard }], guard := some (18, false) }) (F := 26) (vs := #[setV a.1 r7, setV a.1 va]) (by kernel_rfl) (by kernel_rfl) (by kernel_rfl) (fun _ => by kernel_rfl) (HS.out _ _ _ _ _ ha16 han hd7 hH7.dA) ?_
  rintro e w8 ⟨rfl, hb8⟩
  have hH8 := hH7.on hb8
  refine ⟨.bool true, rfl, hH8, ?_⟩
  refine held_take (i := 24) (o := { dst := some 51, op := Op.unOp UnOp.not 4 (Operand.tmp 50), type := 4, pos := "law.go:73", after := #[{ on := 23, ground := Ground.data }, { on := 18, ground := Ground.guard }], guard := some (18, false) }) (v := .bool false) (by kernel_rfl) (by kernel_rfl) (by kernel_rfl) (by kernel_rfl) (fun _ _ _ h => h) (by kernel_rfl) (fun W _ => exec_un rfl (by kernel_rfl) (not_of true) W) hH8 ?_
  refine held_take (i := 25) (o := { dst := some 52, op := Op.pick (Operand.tmp 45) (Operand.const (Value.bool true)) (Operand.tmp 51), type := 4, pos := "law.go:73", after := #[{ on := 18, ground := Ground.data }, { on := 24, ground := Ground.data }], guard := none }) (v := .bool false) (by kernel_rfl) (by kernel_rfl) (by kernel_rfl) (by kernel_rfl) (fun _ _ _ h => h) (by kernel_rfl) (fun _ _ => by kernel_rfl) hH8 ?_
  refine wpAnyH_done (by kernel_rfl) ?_ _
  simp only [Act.put, List.setIfInBounds_toArray, List.set_cons_zero, List.set_cons_succ]
  go_wp2
  have hLS6 := hH8.on (Below.refl _ _).drew
  clear hH8
  cases qa with
  | true =>
    refine wp_region_held_drew (S := LS w ub a va b vb c vc u vu d) (by kernel_rfl) (hLS6) (fun hH0 => ?_)
    refine held_take (i := 0) (o := { dst := some 53, op := Op.load 26 (Operand.tmp 9), type := 26, pos := "law.go:76", after := #[], guard := none }) (v := setV u.1 vu) (by kernel_rfl) (by kernel_rfl) (by kernel_rfl) (by kernel_rfl) (fun _ _ _ h => h) (by kernel_rfl) (fun _ h => exec_set rfl hu16 (by kernel_rfl) h.U) hH0 ?_
    refine held_take (i := 1) (o := { dst := some 54, op := Op.load 28 (Operand.tmp 7), type := 28, pos := "law.go:76", after := #[], guard := none }) (v := dV d) (by kernel_rfl) (by kernel_rfl) (by kernel_rfl) (by kernel_rfl) (fun _ _ _ h => h) (by kernel_rfl) (fun _ h => exec_dot rfl (by kernel_rfl) h.dot.1 h.dot.2) hH0 ?_
    refine held_take (i := 3) (o := { dst := some 56, op := Op.load 26 (Operand.tmp 4), type := 26, pos := "law.go:76", after := #[], guard := none }) (v := setV a.1 va) (by kernel_rfl) (by kernel_rfl) (by kernel_rfl) (by kernel_rfl) (fun _ _ _ h => h) (by kernel_rfl) (fun _ h => exec_set rfl ha16 (by kernel_rfl) h.A) hH0 ?_
    refine held_take (i := 4) (o := { dst := some 57, op := Op.load 28 (Operand.tmp 7), type := 28, pos := "law.go:76", after := #[], guard := none }) (v := dV d) (by kernel_rfl) (by kernel_rfl) (by kernel_rfl) (by kernel_rfl) (fun _ _ _ h => h) (by kernel_rfl) (fun _ h => exec_dot rfl (by kernel_rfl) h.dot.1 h.dot.2) hH0 ?_
    refine held_callX (i := 2) (o := { dst := some 55, op := Op.call { callee := Callee.value (Operand.func 12), args := #[Operand.tmp 53, Operand.tmp 54], argTypes := #[26, 28] }, type := 4, pos := "law.go:76", after := #[{ on := 0, ground := Ground.data }, { on := 1, ground := Ground.data }], guard := none }) (F := 12) (vs := #[setV u.1 vu, dV d]) (by kernel_rfl) (by kernel_rfl) (by kernel_rfl) (fun _ => by kernel_rfl) (HHu.out _ hH0) ?_
    rintro e w1 ⟨rfl, hb1⟩
    have hH1 := hH0.on hb1
    refine ⟨.bool true, rfl, hH1, ?_⟩
    refine held_callX (i := 5) (o := { dst := some 58, op := Op.call { callee := Callee.value (Operand.func 12), args := #[Operand.tmp 56, Operand.tmp 57], argTypes := #[26, 28] }, type := 4, pos := "law.go:76", after := #[{ on := 3, ground := Ground.data }, { on := 4, ground := Ground.data }, { on := 2, ground := Ground.chain }], guard := none }) (F := 12) (vs := #[setV a.1 va, dV d]) (by kernel_rfl) (by kernel_rfl) (by kernel_rfl) (fun _ => by kernel_rfl) (HHa.out _ hH1) ?_
    rintro e w2 ⟨rfl, hb2⟩
    have hH2 := hH1.on hb2
    refine ⟨.bool true, rfl, hH2, ?_⟩
    refine held_take (i := 6) (o := { dst := some 59, op := Op.move (Operand.tmp 58), type := 4, pos := "law.go:76", after := #[{ on := 5, ground := Ground.data }, { on := 5, ground := Ground.chain }], guard := none }) (v := .bool true) (by kernel_rfl) (by kernel_rfl) (by kernel_rfl) (by kernel_rfl) (fun _ _ _ h => h) (by kernel_rfl) (fun _ _ => by kernel_rfl) hH2 ?_
    refine held_skip (i := 7) (o := { dst := some 60, op := Op.load 26 (Operand.tmp 5), type := 26, pos := "law.go:76", after := #[{ on := 6, ground := Ground.guard }], guard := some (6, false) }) (by kernel_rfl) (by kernel_rfl) (by kernel_rfl) (by kernel_rfl) (fun _ _ _ h => h) (by kernel_rfl) hH2 ?_
    refine held_skip (i := 8) (o := { dst := some 61, op := Op.load 28 (Operand.tmp 7), type := 28, pos := "law.go:76", after := #[{ on := 6, ground := Ground.guard }], guard := some (6, false) }) (by kernel_rfl) (by kernel_rfl) (by kernel_rfl) (by kernel_rfl) (fun _ _ _ h => h) (by kernel_rfl) hH2 ?_
    refine held_skip (i := 9) (o := { dst := some 62, op := Op.call { callee := Callee.value (Operand.func 12), args := #[Operand.tmp 60, Operand.tmp 61], argTypes := #[26, 28] }, type := 4, pos := "law.go:76", after := #[{ on := 7, ground := Ground.data }, { on := 8, ground := Ground.data }, { on := 6, ground := Ground.chain }, { on := 6, ground := Ground.guard }], guard := some (6, false) }) (by kernel_rfl) (by kernel_rfl) (by kernel_rfl) (by kernel_rfl) (fun _ _ _ h => h) (by kernel_rfl) hH2 ?_
    refine held_take (i := 10) (o := { dst := some 63, op := Op.pick (Operand.tmp 59) (Operand.const (Value.bool true)) (Operand.tmp 62), type := 4, pos := "law.go:76", after := #[{ on := 6, ground := Ground.data }, { on := 9, ground := Ground.data }], guard := none }) (v := .bool true) (by kernel_rfl) (by kernel_rfl) (by kernel_rfl) (by kernel_rfl) (fun _ _ _ h => h) (by kernel_rfl) (fun _ _ => by kernel_rfl) hH2 ?_
    refine held_take (i := 11) (o := { dst := some 64, op := Op.binOp BinOp.eql 4 (Operand.tmp 55) (Operand.tmp 63) 4, type := 4, pos := "law.go:76", after := #[{ on := 2, ground := Ground.data }, { on := 10, ground := Ground.data }], guard := none }) (v := .bool true) (by kernel_rfl) (by kernel_rfl) (by kernel_rfl) (by kernel_rfl) (fun _ _ _ h => h) (by kernel_rfl) (fun W _ => exec_bin rfl (by kernel_rfl) (by kernel_rfl) (fun _ => by kernel_rfl) (eqb_same (true)) W) hH2 ?_
    refine held_take (i := 12) (o := { dst := some 65, op := Op.move (Operand.tmp 64), type := 4, pos := "law.go:76", after := #[{ on := 11, ground := Ground.data }, { on := 9, ground := Ground.chain }], guard := none }) (v := .bool true) (by kernel_rfl) (by kernel_rfl) (by kernel_rfl) (by kernel_rfl) (fun _ _ _ h => h) (by kernel_rfl) (fun _ _ => by kernel_rfl) hH2 ?_
    refine held_take (i := 13) (o := { dst := some 66, op := Op.load 26 (Operand.tmp 4), type := 26, pos := "law.go:76", after := #[{ on := 12, ground := Ground.guard }], guard := some (12, true) }) (v := setV a.1 va) (by kernel_rfl) (by kernel_rfl) (by kernel_rfl) (by kernel_rfl) (fun _ _ _ h => h) (by kernel_rfl) (fun _ h => exec_set rfl ha16 (by kernel_rfl) h.A) hH2 ?_
    refine held_take (i := 14) (o := { dst := some 67, op := Op.load 26 (Operand.tmp 5), type := 26, pos := "law.go:76", after := #[{ on := 12, ground := Ground.guard }], guard := some (12, true) }) (v := setV b.1 vb) (by kernel_rfl) (by kernel_rfl) (by kernel_rfl) (by kernel_rfl) (fun _ _ _ h => h) (by kernel_rfl) (fun _ h => exec_set rfl hb16 (by kernel_rfl) h.B) hH2 ?_
    refine held_take (i := 16) (o := { dst := some 69, op := Op.load 26 (Operand.tmp 9), type := 26, pos := "law.go:76", after := #[{ on := 12, ground := Ground.guard }], guard := some (12, true) }) (v := setV u.1 vu) (by kernel_rfl) (by kernel_rfl) (by kernel_rfl) (by kernel_rfl) (fun _ _ _ h => h) (by kernel_rfl) (fun _ h => exec_set rfl hu16 (by kernel_rfl) h.U) hH2 ?_
    refine held_take (i := 17) (o := { dst := some 70, op := Op.load 26 (Operand.tmp 5), type := 26, pos := "law.go:76", after := #[{ on := 12, ground := Ground.guard }], guard := some (12, true) }) (v := setV b.1 vb) (by kernel_rfl) (by kernel_rfl) (by kernel_rfl) (by kernel_rfl) (fun _ _ _ h => h) (by kernel_rfl) (fun _ h => exec_set rfl hb16 (by kernel_rfl) h.B) hH2 ?_
    refine held_callX (i := 15) (o := { dst := some 68, op := Op.call { callee := Callee.value (Operand.func 24), args := #[Operand.tmp 66, Operand.tmp 67], argTypes := #[26, 26] }, type := 4, pos := "law.go:76", after := #[{ on := 13, ground := Ground.data }, { on := 14, ground := Ground.data }, { on := 12, ground := Ground.chain }, { on := 12, ground := Ground.guard }], guard := some (12, true) }) (F := 24) (vs := #[setV a.1 va, setV b.1 vb]) (by kernel_rfl) (by kernel_rfl) (by kernel_rfl) (fun _ => by kernel_rfl) (HWi.out _ hH2) ?_
    rintro e w3 ⟨rfl, hb3⟩
    have hH3 := hH2.on hb3
    refine ⟨.bool qw, rfl, hH3, ?_⟩
    refine held_callX (i := 18) (o := { dst := some 71, op := Op.call { callee := Callee.value (Operand.func 26), args := #[Operand.tmp 69, Operand.tmp 70], argTypes := #[26, 26] }, type := 4, pos := "law.go:76", after := #[{ on := 16, ground := Ground.data }, { on := 17, ground := Ground.data }, { on := 15, ground := Ground.chain }, { on := 12, ground := Ground.guard }], guard := some (12, true) }) (F := 26) (vs := #[setV u.1 vu, setV b.1 vb]) (by kernel_rfl) (by kernel_rfl) (by kernel_rfl) (fun _ => by kernel_rfl) (HSu.out _ hH3) ?_
    rintro e w4 ⟨rfl, hb4⟩
    have hH4 := hH3.on hb4
    refine ⟨.bool qw, rfl, hH4, ?_⟩
    refine held_take (i := 19) (o := { dst := some 72, op := Op.binOp BinOp.eql 4 (Operand.tmp 68) (Operand.tmp 71) 4, type := 4, pos := "law.go:76", after := #[{ on := 15, ground := Ground.data }, { on := 18, ground := Ground.data }, { on := 12, ground := Ground.guard }], guard := some (12, true) }) (v := .bool true) (by kernel_rfl) (by kernel_rfl) (by kernel_rfl) (by kernel_rfl) (fun _ _ _ h => h) (by kernel_rfl) (fun W _ => exec_bin rfl (by kernel_rfl) (by kernel_rfl) (fun _ => by kernel_rfl) (eqb_same (qw)) W) hH4 ?_
    refine held_take (i := 20) (o := { dst := some 73, op := Op.pick (Operand.tmp 65) (Operand.tmp 72) (Operand.const (Value.bool false)), type := 4, pos := "law.go:76", after := #[{ on := 12, ground := Ground.data }, { on := 19, ground := Ground.data }], guard := none }) (v := .bool true) (by kernel_rfl) (by kernel_rfl) (by kernel_rfl) (by kernel_rfl) (fun _ _ _ h => h) (by kernel_rfl) (fun _ _ => by kernel_rfl) hH4 ?_
    refine held_take (i := 21) (o := { dst := some 74, op := Op.move (Operand.tmp 73), type := 4, pos := "law.go:76", after := #[{ on := 20, ground := Ground.data }, { on := 18, ground := Ground.chain }], guard := none }) (v := .bool true) (by kernel_rfl) (by kernel_rfl) (by kernel_rfl) (by kernel_rfl) (fun _ _ _ h => h) (by kernel_rfl) (fun _ _ => by kernel_rfl) hH4 ?_
    refine held_callX (i := 22) (o := { dst := some 75, op := Op.call { callee := Callee.value (Operand.func 9), args := #[], argTypes := #[] }, type := 4, pos := "law.go:76", after := #[{ on := 21, ground := Ground.chain }, { on := 21, ground := Ground.guard }], guard := some (21, true) }) (F := 9) (vs := #[]) (by kernel_rfl) (by kernel_rfl) (by kernel_rfl) (fun _ => by kernel_rfl) (awake_any _) ?_
    rintro e w5 ⟨rfl, hb5⟩
    have hH5 := hH4.on hb5
    refine ⟨.bool true, rfl, hH5, ?_⟩
    refine held_take (i := 23) (o := { dst := some 76, op := Op.pick (Operand.tmp 74) (Operand.tmp 75) (Operand.const (Value.bool false)), type := 4, pos := "law.go:76", after := #[{ on := 21, ground := Ground.data }, { on := 22, ground := Ground.data }], guard := none }) (v := .bool true) (by kernel_rfl) (by kernel_rfl) (by kernel_rfl) (by kernel_rfl) (fun _ _ _ h => h) (by kernel_rfl) (fun _ _ => by kernel_rfl) hH5 ?_
    refine held_do (i := 24) (o := { dst := some 8, op := Op.assign (Operand.tmp 76), type := 4, pos := "law.go:76", after := #[{ on := 23, ground := Ground.data }, { on := 22, ground := Ground.chain }, { on := 0, ground := Ground.phase }, { on := 1, ground := Ground.phase }, { on := 2, ground := Ground.phase }, { on := 3, ground := Ground.phase }, { on := 4, ground := Ground.phase }, { on := 5, ground := Ground.phase }, { on := 6, ground := Ground.phase }, { on := 7, ground := Ground.phase }, { on := 8, ground := Ground.phase }, { on := 9, ground := Ground.phase }, { on := 10, ground := Ground.phase }, { on := 11, ground := Ground.phase }, { on := 12, ground := Ground.phase }, { on := 13, ground := Ground.phase }, { on := 14, ground := Ground.phase }, { on := 15, ground := Ground.phase }, { on := 16, ground := Ground.phase }, { on := 17, ground := Ground.phase }, { on := 18, ground := Ground.phase }, { on := 19, ground := Ground.phase }, { on := 20, ground := Ground.phase }, { on := 21, ground := Ground.phase }, { on := 22, ground := Ground.phase }, { on := 23, ground := Ground.phase }], guard := none }) (v := .bool true) (by kernel_rfl) (by kernel_rfl) (by kernel_rfl) (by kernel_rfl) hH5 ?_
    refine wpAnyH_done (by kernel_rfl) ?_ _
    simp only [Act.put, List.setIfInBounds_toArray, List.set_cons_zero, List.set_cons_succ]
    go_wp2
    go_ret
    exact ⟨rfl, hH5.below⟩
  | false =>
    refine wp_region_held_drew (S := LS w ub a va b vb c vc u vu d) (by kernel_rfl) (hLS6) (fun hH0 => ?_)
    refine held_take (i := 0) (o := { dst := some 53, op := Op.load 26 (Operand.tmp 9), type := 26, pos := "law.go:76", after := #[], guard := none }) (v := setV u.1 vu) (by kernel_rfl) (by kernel_rfl) (by kernel_rfl) (by kernel_rfl) (fun _ _ _ h => h) (by kernel_rfl) (fun _ h => exec_set rfl hu16 (by kernel_rfl) h.U) hH0 ?_
    refine held_take (i := 1) (o := { dst := some 54, op := Op.load 28 (Operand.tmp 7), type := 28, pos := "law.go:76", after := #[], guard := none }) (v := dV d) (by kernel_rfl) (by kernel_rfl) (by kernel_rfl) (by kernel_rfl) (fun _ _ _ h => h) (by kernel_rfl) (fun _ h => exec_dot rfl (by kernel_rfl) h.dot.1 h.dot.2) hH0 ?_
    refine held_take (i := 3) (o := { dst := some 56, op := Op.load 26 (Operand.tmp 4), type := 26, pos := "law.go:76", after := #[], guard := none }) (v := setV a.1 va) (by kernel_rfl) (by kernel_rfl) (by kernel_rfl) (by kernel_rfl) (fun _ _ _ h => h) (by kernel_rfl) (fun _ h => exec_set rfl ha16 (by kernel_rfl) h.A) hH0 ?_
    refine held_take (i := 4) (o := { dst := some 57, op := Op.load 28 (Operand.tmp 7), type := 28, pos := "law.go:76", after := #[], guard := none }) (v := dV d) (by kernel_rfl) (by kernel_rfl) (by kernel_rfl) (by kernel_rfl) (fun _ _ _ h => h) (by kernel_rfl) (fun _ h => exec_dot rfl (by kernel_rfl) h.dot.1 h.dot.2) hH0 ?_
    refine held_callX (i := 2) (o := { dst := some 55, op := Op.call { callee := Callee.value (Operand.func 12), args := #[Operand.tmp 53, Operand.tmp 54], argTypes := #[26, 28] }, type := 4, pos := "law.go:76", after := #[{ on := 0, ground := Ground.data }, { on := 1, ground := Ground.data }], guard := none }) (F := 12) (vs := #[setV u.1 vu, dV d]) (by kernel_rfl) (by kernel_rfl) (by kernel_rfl) (fun _ => by kernel_rfl) (HHu.out _ hH0) ?_
    rintro e w1 ⟨rfl, hb1⟩
    have hH1 := hH0.on hb1
    refine ⟨.bool qb, rfl, hH1, ?_⟩
    refine held_callX (i := 5) (o := { dst := some 58, op := Op.call { callee := Callee.value (Operand.func 12), args := #[Operand.tmp 56, Operand.tmp 57], argTypes := #[26, 28] }, type := 4, pos := "law.go:76", after := #[{ on := 3, ground := Ground.data }, { on := 4, ground := Ground.data }, { on := 2, ground := Ground.chain }], guard := none }) (F := 12) (vs := #[setV a.1 va, dV d]) (by kernel_rfl) (by kernel_rfl) (by kernel_rfl) (fun _ => by kernel_rfl) (HHa.out _ hH1) ?_
    rintro e w2 ⟨rfl, hb2⟩
    have hH2 := hH1.on hb2
    refine ⟨.bool false, rfl, hH2, ?_⟩
    refine held_take (i := 6) (o := { dst := some 59, op := Op.move (Operand.tmp 58), type := 4, pos := "law.go:76", after := #[{ on := 5, ground := Ground.data }, { on := 5, ground := Ground.chain }], guard := none }) (v := .bool false) (by kernel_rfl) (by kernel_rfl) (by kernel_rfl) (by kernel_rfl) (fun _ _ _ h => h) (by kernel_rfl) (fun _ _ => by kernel_rfl) hH2 ?_
    refine held_take (i := 7) (o := { dst := some 60, op := Op.load 26 (Operand.tmp 5), type := 26, pos := "law.go:76", after := #[{ on := 6, ground := Ground.guard }], guard := some (6, false) }) (v := setV b.1 vb) (by kernel_rfl) (by kernel_rfl) (by kernel_rfl) (by kernel_rfl) (fun _ _ _ h => h) (by kernel_rfl) (fun _ h => exec_set rfl hb16 (by kernel_rfl) h.B) hH2 ?_
    refine held_take (i := 8) (o := { dst := some 61, op := Op.load 28 (Operand.tmp 7), type := 28, pos := "law.go:76", after := #[{ on := 6, ground := Ground.guard }], guard := some (6, false) }) (v := dV d) (by kernel_rfl) (by kernel_rfl) (by kernel_rfl) (by kernel_rfl) (fun _ _ _ h => h) (by kernel_rfl) (fun _ h => exec_dot rfl (by kernel_rfl) h.dot.1 h.dot.2) hH2 ?_
    refine held_callX (i := 9) (o := { dst := some 62, op := Op.call { callee := Callee.value (Operand.func 12), args := #[Operand.tmp 60, Operand.tmp 61], argTypes := #[26, 28] }, type := 4, pos := "law.go:76", after := #[{ on := 7, ground := Ground.data }, { on := 8, ground := Ground.data }, { on := 6, ground := Ground.chain }, { on := 6, ground := Ground.guard }], guard := some (6, false) }) (F := 12) (vs := #[setV b.1 vb, dV d]) (by kernel_rfl) (by kernel_rfl) (by kernel_rfl) (fun _ => by kernel_rfl) (HHb.out _ hH2) ?_
    rintro e w3 ⟨rfl, hb3⟩
    have hH3 := hH2.on hb3
    refine ⟨.bool qb, rfl, hH3, ?_⟩
    refine held_take (i := 10) (o := { dst := some 63, op := Op.pick (Operand.tmp 59) (Operand.const (Value.bool true)) (Operand.tmp 62), type := 4, pos := "law.go:76", after := #[{ on := 6, ground := Ground.data }, { on := 9, ground := Ground.data }], guard := none }) (v := .bool qb) (by kernel_rfl) (by kernel_rfl) (by kernel_rfl) (by kernel_rfl) (fun _ _ _ h => h) (by kernel_rfl) (fun _ _ => by kernel_rfl) hH3 ?_
    refine held_take (i := 11) (o := { dst := some 64, op := Op.binOp BinOp.eql 4 (Operand.tmp 55) (Operand.tmp 63) 4, type := 4, pos := "law.go:76", after := #[{ on := 2, ground := Ground.data }, { on := 10, ground := Ground.data }], guard := none }) (v := .bool true) (by kernel_rfl) (by kernel_rfl) (by kernel_rfl) (by kernel_rfl) (fun _ _ _ h => h) (by kernel_rfl) (fun W _ => exec_bin rfl (by kernel_rfl) (by kernel_rfl) (fun _ => by kernel_rfl) (eqb_same (qb)) W) hH3 ?_
    refine held_take (i := 12) (o := { dst := some 65, op := Op.move (Operand.tmp 64), type := 4, pos := "law.go:76", after := #[{ on := 11, ground := Ground.data }, { on := 9, ground := Ground.chain }], guard := none }) (v := .bool true) (by kernel_rfl) (by kernel_rfl) (by kernel_rfl) (by kernel_rfl) (fun _ _ _ h => h) (by kernel_rfl) (fun _ _ => by kernel_rfl) hH3 ?_
    refine held_take (i := 13) (o := { dst := some 66, op := Op.load 26 (Operand.tmp 4), type := 26, pos := "law.go:76", after := #[{ on := 12, ground := Ground.guard }], guard := some (12, true) }) (v := setV a.1 va) (by kernel_rfl) (by kernel_rfl) (by kernel_rfl) (by kernel_rfl) (fun _ _ _ h => h) (by kernel_rfl) (fun _ h => exec_set rfl ha16 (by kernel_rfl) h.A) hH3 ?_
    refine held_take (i := 14) (o := { dst := some 67, op := Op.load 26 (Operand.tmp 5), type := 26, pos := "law.go:76", after := #[{ on := 12, ground := Ground.guard }], guard := some (12, true) }) (v := setV b.1 vb) (by kernel_rfl) (by kernel_rfl) (by kernel_rfl) (by kernel_rfl) (fun _ _ _ h => h) (by kernel_rfl) (fun _ h => exec_set rfl hb16 (by kernel_rfl) h.B) hH3 ?_
    refine held_take (i := 16) (o := { dst := some 69, op := Op.load 26 (Operand.tmp 9), type := 26, pos := "law.go:76", after := #[{ on := 12, ground := Ground.guard }], guard := some (12, true) }) (v := setV u.1 vu) (by kernel_rfl) (by kernel_rfl) (by kernel_rfl) (by kernel_rfl) (fun _ _ _ h => h) (by kernel_rfl) (fun _ h => exec_set rfl hu16 (by kernel_rfl) h.U) hH3 ?_
    refine held_take (i := 17) (o := { dst := some 70, op := Op.load 26 (Operand.tmp 5), type := 26, pos := "law.go:76", after := #[{ on := 12, ground := Ground.guard }], guard := some (12, true) }) (v := setV b.1 vb) (by kernel_rfl) (by kernel_rfl) (by kernel_rfl) (by kernel_rfl) (fun _ _ _ h => h) (by kernel_rfl) (fun _ h => exec_set rfl hb16 (by kernel_rfl) h.B) hH3 ?_
    refine held_callX (i := 15) (o := { dst := some 68, op := Op.call { callee := Callee.value (Operand.func 24), args := #[Operand.tmp 66, Operand.tmp 67], argTypes := #[26, 26] }, type := 4, pos := "law.go:76", after := #[{ on := 13, ground := Ground.data }, { on := 14, ground := Ground.data }, { on := 12, ground := Ground.chain }, { on := 12, ground := Ground.guard }], guard := some (12, true) }) (F := 24) (vs := #[setV a.1 va, setV b.1 vb]) (by kernel_rfl) (by kernel_rfl) (by kernel_rfl) (fun _ => by kernel_rfl) (HWi.out _ hH3) ?_
    rintro e w4 ⟨rfl, hb4⟩
    have hH4 := hH3.on hb4
    refine ⟨.bool qw, rfl, hH4, ?_⟩
    refine held_callX (i := 18) (o := { dst := some 71, op := Op.call { callee := Callee.value (Operand.func 26), args := #[Operand.tmp 69, Operand.tmp 70], argTypes := #[26, 26] }, type := 4, pos := "law.go:76", after := #[{ on := 16, ground := Ground.data }, { on := 17, ground := Ground.data }, { on := 15, ground := Ground.chain }, { on := 12, ground := Ground.guard }], guard := some (12, true) }) (F := 26) (vs := #[setV u.1 vu, setV b.1 vb]) (by kernel_rfl) (by kernel_rfl) (by kernel_rfl) (fun _ => by kernel_rfl) (HSu.out _ hH4) ?_
    rintro e w5 ⟨rfl, hb5⟩
    have hH5 := hH4.on hb5
    refine ⟨.bool qw, rfl, hH5, ?_⟩
    refine held_take (i := 19) (o := { dst := some 72, op := Op.binOp BinOp.eql 4 (Operand.tmp 68) (Operand.tmp 71) 4, type := 4, pos := "law.go:76", after := #[{ on := 15, ground := Ground.data }, { on := 18, ground := Ground.data }, { on := 12, ground := Ground.guard }], guard := some (12, true) }) (v := .bool true) (by kernel_rfl) (by kernel_rfl) (by kernel_rfl) (by kernel_rfl) (fun _ _ _ h => h) (by kernel_rfl) (fun W _ => exec_bin rfl (by kernel_rfl) (by kernel_rfl) (fun _ => by kernel_rfl) (eqb_same (qw)) W) hH5 ?_
    refine held_take (i := 20) (o := { dst := some 73, op := Op.pick (Operand.tmp 65) (Operand.tmp 72) (Operand.const (Value.bool false)), type := 4, pos := "law.go:76", after := #[{ on := 12, ground := Ground.data }, { on := 19, ground := Ground.data }], guard := none }) (v := .bool true) (by kernel_rfl) (by kernel_rfl) (by kernel_rfl) (by kernel_rfl) (fun _ _ _ h => h) (by kernel_rfl) (fun _ _ => by kernel_rfl) hH5 ?_
    refine held_take (i := 21) (o := { dst := some 74, op := Op.move (Operand.tmp 73), type := 4, pos := "law.go:76", after := #[{ on := 20, ground := Ground.data }, { on := 18, ground := Ground.chain }], guard := none }) (v := .bool true) (by kernel_rfl) (by kernel_rfl) (by kernel_rfl) (by kernel_rfl) (fun _ _ _ h => h) (by kernel_rfl) (fun _ _ => by kernel_rfl) hH5 ?_
    refine held_callX (i := 22) (o := { dst := some 75, op := Op.call { callee := Callee.value (Operand.func 9), args := #[], argTypes := #[] }, type := 4, pos := "law.go:76", after := #[{ on := 21, ground := Ground.chain }, { on := 21, ground := Ground.guard }], guard := some (21, true) }) (F := 9) (vs := #[]) (by kernel_rfl) (by kernel_rfl) (by kernel_rfl) (fun _ => by kernel_rfl) (awake_any _) ?_
    rintro e w6 ⟨rfl, hb6⟩
    have hH6 := hH5.on hb6
    refine ⟨.bool true, rfl, hH6, ?_⟩
    refine held_take (i := 23) (o := { dst := some 76, op := Op.pick (Operand.tmp 74) (Operand.tmp 75) (Operand.const (Value.bool false)), type := 4, pos := "law.go:76", after := #[{ on := 21, ground := Ground.data }, { on := 22, ground := Ground.data }], guard := none }) (v := .bool true) (by kernel_rfl) (by kernel_rfl) (by kernel_rfl) (by kernel_rfl) (fun _ _ _ h => h) (by kernel_rfl) (fun _ _ => by kernel_rfl) hH6 ?_
    refine held_do (i := 24) (o := { dst := some 8, op := Op.assign (Operand.tmp 76), type := 4, pos := "law.go:76", after := #[{ on := 23, ground := Ground.data }, { on := 22, ground := Ground.chain }, { on := 0, ground := Ground.phase }, { on := 1, ground := Ground.phase }, { on := 2, ground := Ground.phase }, { on := 3, ground := Ground.phase }, { on := 4, ground := Ground.phase }, { on := 5, ground := Ground.phase }, { on := 6, ground := Ground.phase }, { on := 7, ground := Ground.phase }, { on := 8, ground := Ground.phase }, { on := 9, ground := Ground.phase }, { on := 10, ground := Ground.phase }, { on := 11, ground := Ground.phase }, { on := 12, ground := Ground.phase }, { on := 13, ground := Ground.phase }, { on := 14, ground := Ground.phase }, { on := 15, ground := Ground.phase }, { on := 16, ground := Ground.phase }, { on := 17, ground := Ground.phase }, { on := 18, ground := Ground.phase }, { on := 19, ground := Ground.phase }, { on := 20, ground := Ground.phase }, { on := 21, ground := Ground.phase }, { on := 22, ground := Ground.phase }, { on := 23, ground := Ground.phase }], guard := none }) (v := .bool true) (by kernel_rfl) (by kernel_rfl) (by kernel_rfl) (by kernel_rfl) hH6 ?_
    refine wpAnyH_done (by kernel_rfl) ?_ _
    simp only [Act.put, List.setIfInBounds_toArray, List.set_cons_zero, List.set_cons_succ]
    go_wp2
    go_ret
    exact ⟨rfl, hH6.below⟩
end Go.Proofs.Ytenfbjlmfdiniaa
