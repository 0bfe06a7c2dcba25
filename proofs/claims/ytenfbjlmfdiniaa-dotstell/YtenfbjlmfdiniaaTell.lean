/- The walk of DotsTell. -/
import Derived.Test.YtenfbjlmfdiniaaRights
import Derived.Test.YtenfbjlmfdiniaaNext
namespace Go.Proofs.Ytenfbjlmfdiniaa
open Go.RowKit Go.Shelf

/-- What holds while the law's statements are walked. -/
structure TS (w : World) (s : List Int × List D) (va : Value) (d : D) (W0 W : World) : Prop where
  set : SetAt W w.heap.size s.1 va
  dot : DotAt W (w.heap.size + 1) d
  dots : dotsIn W va s.2
  below : Below W0.heap.size W0 W
theorem TS.on {w : World} {s : List Int × List D} {va : Value} {d : D} {W0 W W' : World} (h : TS w s va d W0 W) (hb : Below W.heap.size W W') : TS w s va d W0 W' :=
  ⟨h.set.on hb, h.dot.on hb, h.dots.on hb, bchain h.below hb⟩
/-- A DOT MORE: both ways are the same. -/
theorem put_same {s : List Int × List D} (hs : St.Std s.1 s.2) (d : D) : settled s.1 (s.2 ++ [d]) = putS s.1 s.2 d := by
  refine (settled_is (s.2 ++ [d]) hs.len hs.vec).1.eq (putS_is (l := s.1) (ds := s.2) (d := d) (M := St.mem s.1 s.2) ⟨hs, fun _ => Iff.rfl⟩).1 fun x => ?_
  rw [List.mem_append, List.mem_singleton]
  constructor
  · rintro (⟨e1, e2 | e2⟩ | ⟨e | e, e1⟩)
    · exact Or.inl ⟨e1, Or.inl e2⟩
    · cases e2
    · exact Or.inl ⟨e1, Or.inr e⟩
    · subst e; exact Or.inr ⟨rfl, e1⟩
  · rintro (⟨e1, e2 | e2⟩ | ⟨e, e1⟩)
    · exact Or.inl ⟨e1, Or.inl e2⟩
    · exact Or.inr ⟨Or.inl e2, e1⟩
    · subst e; exact Or.inr ⟨Or.inr rfl, e1⟩
theorem said_calls {F : FuncId} {vs : Array Value} {w : World} {P : Prop} (h : Calls Try.prog F vs w fun e w' => saidB P e ∧ Below w.heap.size w w') (b : Bool) (hb : b = true ↔ P) :
    Calls Try.prog F vs w fun e w' => e = .returned (.bool b) ∧ Below w.heap.size w w' :=
  h.mono fun e w' ⟨h1, h2⟩ => ⟨by
    cases b
    · exact h1.no fun hp => (by cases hb.2 hp)
    · exact h1.yes (hb.1 rfl), h2⟩

set_option maxRecDepth 20000 in
set_option maxHeartbeats 2000000 in
theorem dotsTell_walk (s : List Int × List D) (va : Value) (d : D) (r : Int) (w : World) (hl : s.1.length = 16) (hda : dotsIn w va s.2) :
    Calls Try.prog 3 #[setV s.1 va, dV d, .int .i64 r] w fun e w' => e = .returned (.bool true) ∧ Below w.heap.size w w' := by
  obtain ⟨W0, hW0⟩ : ∃ W0, W0 = (w.alloc (.cells (setC s.1 va).toArray 26)).alloc (.cells #[.int .i64 d.1, .int .i64 d.2] 28) := ⟨_, rfl⟩
  have hB0 : Below w.heap.size w W0 := by rw [hW0]; exact below_new2 _ _ _
  have hA0 : SetAt W0 w.heap.size s.1 va := by rw [hW0]; exact (SetAt.new w s.1 va).alloc _
  have hD0 : DotAt W0 (w.heap.size + 1) d := by
    rw [hW0]
    have := DotAt.new (w.alloc (.cells (setC s.1 va).toArray 26)) d
    simpa using this
  have hTS0 : TS w s va d W0 W0 := ⟨hA0, hD0, hda.on hB0, Below.refl _ _⟩
  have hTS := hTS0.on (Below.refl _ _).drew
  obtain ⟨n, hn0⟩ : ∃ n, n = s.2.length := ⟨_, rfl⟩
  obtain ⟨ao, ca, hva, _, _⟩ := id hda
  rw [← hn0] at hva
  have m0 := hA0.more hl
  rw [hva] at m0
  have M0 : Hid (W0.cell? ⟨w.heap.size, 16, none⟩ = some (.slice ao n ca)) := m0
  have HB : Hid (Below w.heap.size w W0) := hB0
  have HW : Hid (W0 = (w.alloc (.cells (setC s.1 va).toArray 26)).alloc (.cells #[.int .i64 d.1, .int .i64 d.2] 28)) := hW0
  rw [hW0] at m0
  by_cases hn : n ≤ 100
  rotate_left
  · have hn9 : (100 : Int) < (n : Int) := by omega
    clear hda hA0 hD0 hTS0 hTS hva hW0 hB0 hn0
    go_enter Try.func3, Try.ntmps3
    go_wp2_with (first | (go_at_call 9; refine (awake_any _).mono ?_; rintro e w1 ⟨rfl, hb1⟩))
    go_ret
    rw [← HW.out] at hb1
    exact ⟨rfl, bchain HB.out hb1⟩
  have hn9 : ¬ (100 : Int) < (n : Int) := by omega
  have hs6 : s.2.length ≤ 1000000 := by omega
  have hRR : ∀ b : Bool, (b = true ↔ (St.Std s.1 s.2 ∧ s.2.length ≤ 4096)) → Hid (∀ W, TS w s va d W0 W → Calls Try.prog 10 #[setV s.1 va] W fun e w' => e = .returned (.bool b) ∧ Below W.heap.size W w') ∧ Hid (∀ W, TS w s va d W0 W → Calls Try.prog 11 #[setV s.1 va] W fun e w' => e = .returned (.bool b) ∧ Below W.heap.size W w') := fun b hb =>
    ⟨fun W h => said_calls (right_said s.1 hl va s.2 W h.dots hs6) b hb, fun W h => said_calls (refRight_said s.1 hl va s.2 W h.dots hs6) b hb⟩
  by_cases hS : St.Std s.1 s.2
  rotate_left
  · obtain ⟨HR1, HR2⟩ := hRR false ⟨fun e => (by cases e), fun e => absurd e.1 hS⟩
    clear hda hA0 hD0 hTS0 hva hW0 hB0 hn0 hRR hS
    go_enter Try.func3, Try.ntmps3
    go_wp2
    rw [← HW.out]
    refine wp_region_held_drew (S := TS w s va d W0) (by kernel_rfl) (hTS) (fun hH0 => ?_)
    refine held_take (i := 0) (o := { dst := some 12, op := Op.load 26 (Operand.tmp 3), type := 26, pos := "law.go:25", after := #[], guard := none }) (v := setV s.1 va) (by kernel_rfl) (by kernel_rfl) (by kernel_rfl) (by kernel_rfl) (fun _ _ _ h => h) (by kernel_rfl) (fun _ h => exec_set rfl hl (by kernel_rfl) h.set) hH0 ?_
    refine held_take (i := 2) (o := { dst := some 14, op := Op.load 26 (Operand.tmp 3), type := 26, pos := "law.go:25", after := #[], guard := none }) (v := setV s.1 va) (by kernel_rfl) (by kernel_rfl) (by kernel_rfl) (by kernel_rfl) (fun _ _ _ h => h) (by kernel_rfl) (fun _ h => exec_set rfl hl (by kernel_rfl) h.set) hH0 ?_
    refine held_callX (i := 1) (o := { dst := some 13, op := Op.call { callee := Callee.value (Operand.func 10), args := #[Operand.tmp 12], argTypes := #[26] }, type := 4, pos := "law.go:25", after := #[{ on := 0, ground := Ground.data }], guard := none }) (F := 10) (vs := #[setV s.1 va]) (by kernel_rfl) (by kernel_rfl) (by kernel_rfl) (fun _ => by kernel_rfl) (HR1.out _ hH0) ?_
    rintro e w1 ⟨rfl, hb1⟩
    have hH1 := hH0.on hb1
    refine ⟨.bool false, rfl, hH1, ?_⟩
    refine held_callX (i := 3) (o := { dst := some 15, op := Op.call { callee := Callee.value (Operand.func 11), args := #[Operand.tmp 14], argTypes := #[26] }, type := 4, pos := "law.go:25", after := #[{ on := 2, ground := Ground.data }, { on := 1, ground := Ground.chain }], guard := none }) (F := 11) (vs := #[setV s.1 va]) (by kernel_rfl) (by kernel_rfl) (by kernel_rfl) (fun _ => by kernel_rfl) (HR2.out _ hH1) ?_
    rintro e w2 ⟨rfl, hb2⟩
    have hH2 := hH1.on hb2
    refine ⟨.bool false, rfl, hH2, ?_⟩
    refine held_take (i := 4) (o := { dst := some 16, op := Op.binOp BinOp.neq 4 (Operand.tmp 13) (Operand.tmp 15) 4, type := 4, pos := "law.go:25", after := #[{ on := 1, ground := Ground.data }, { on := 3, ground := Ground.data }], guard := none }) (v := .bool false) (by kernel_rfl) (by kernel_rfl) (by kernel_rfl) (by kernel_rfl) (fun _ _ _ h => h) (by kernel_rfl) (fun W _ => exec_bin rfl (by kernel_rfl) (by kernel_rfl) (fun _ => by kernel_rfl) (neqb_same false) W) hH2 ?_
    refine wpAnyH_done (by kernel_rfl) ?_ _
    simp only [Act.put, List.setIfInBounds_toArray, List.set_cons_zero, List.set_cons_succ]
    have hs9 := hH2.set
    have HR9 := HR2.out _ hH2
    go_wp2_with (first | (refine load_setG (by kernel_rfl) _ rfl w.heap.size s.1 va hl rfl hs9 ?_) | (go_at_call 11; refine HR9.mono ?_; rintro e w8 ⟨rfl, hb8⟩) | (go_at_call 9; refine (awake_any _).mono ?_; rintro e w9 ⟨rfl, hb9⟩))
    go_ret
    exact ⟨rfl, bchain HB.out (bchain hH2.below (bchain hb8 hb9))⟩
  obtain ⟨HR1, HR2⟩ := hRR true ⟨fun _ => ⟨hS, by omega⟩, fun _ => rfl⟩
  have hPI := putS_is (l := s.1) (ds := s.2) (d := d) (M := St.mem s.1 s.2) ⟨hS, fun _ => Iff.rfl⟩
  have K12 := fun (W : World) (h : TS w s va d W0 W) => hasSet_any s.1 hl va s.2 d W h.dots hs6 hS.row
  have K13 := fun (W : World) (h : TS w s va d W0 W) => refHasSet_any s.1 hl va s.2 d W h.dots hs6
  have K15 := fun (W : World) (h : TS w s va d W0 W) => put_any s.1 hl hS.vec va s.2 d W h.dots (by omega)
  rw [put_same hS d] at K15
  have K16 := fun (W : World) (h : TS w s va d W0 W) => (refPut_any s.1 va s.2 d W hS h.dots (by omega)).mono (R' := fun e w' => ∃ sl, e = .returned (setV (putS s.1 s.2 d).1 sl) ∧ dotsIn w' sl (putS s.1 s.2 d).2 ∧ Below W.heap.size W w') fun e w' ⟨sl, h1, h2, _, h4⟩ => ⟨sl, h1, h2, h4⟩
  have K17 := fun (W : World) (h : TS w s va d W0 W) => next_any s.1 va s.2 r W hS h.dots hs6
  have K18 := fun (W : World) (h : TS w s va d W0 W) => refNext_any s.1 va s.2 r W hS h.dots hs6
  have K19 := fun (W : World) (h : TS w s va d W0 W) => countSet_any s.1 va s.2 W hl hS.vec h.dots hs6
  have K20 := fun (W : World) (h : TS w s va d W0 W) => refCount_any s.1 va s.2 W hl hS.vec h.dots hs6
  have hp16 := hPI.1.1.len
  have hpn := hPI.2
  have K14 := fun (v u : Value) (W : World) (h1 : dotsIn W v (putS s.1 s.2 d).2) (h2 : dotsIn W u (putS s.1 s.2 d).2) => refSameSet_any (putS s.1 s.2 d).1 (putS s.1 s.2 d).1 hp16 hp16 v u (putS s.1 s.2 d).2 (putS s.1 s.2 d).2 W h1 h2 (by omega)
  simp only [decide_true, Bool.and_true] at K14
  generalize putS s.1 s.2 d = p at *
  generalize nextOf s.1 s.2 r = nx at *
  generalize Vc.count s.1 16 + (s.2.length : Int) = ct at *
  generalize St.has s.1 s.2 d = qh at *
  have H12 : Hid _ := K12
  have H13 : Hid _ := K13
  have H14 : Hid _ := K14
  have H15 : Hid _ := K15
  have H16 : Hid _ := K16
  have H17 : Hid _ := K17
  have H18 : Hid _ := K18
  have H19 : Hid _ := K19
  have H20 : Hid _ := K20
  clear K12 K13 K14 K15 K16 K17 K18 K19 K20 hPI hp16 hpn hda hA0 hD0 hTS0 hva hW0 hB0 hn0 hRR hS hs6
  go_enter Try.func3, Try.ntmps3
  go_wp2
  rw [← HW.out]
  refine wp_region_held_drew (S := TS w s va d W0) (by kernel_rfl) (hTS) (fun hH0 => ?_)
  refine held_take (i := 0) (o := { dst := some 12, op := Op.load 26 (Operand.tmp 3), type := 26, pos := "law.go:25", after := #[], guard := none }) (v := setV s.1 va) (by kernel_rfl) (by kernel_rfl) (by kernel_rfl) (by kernel_rfl) (fun _ _ _ h => h) (by kernel_rfl) (fun _ h => exec_set rfl hl (by kernel_rfl) h.set) hH0 ?_
  refine held_take (i := 2) (o := { dst := some 14, op := Op.load 26 (Operand.tmp 3), type := 26, pos := "law.go:25", after := #[], guard := none }) (v := setV s.1 va) (by kernel_rfl) (by kernel_rfl) (by kernel_rfl) (by kernel_rfl) (fun _ _ _ h => h) (by kernel_rfl) (fun _ h => exec_set rfl hl (by kernel_rfl) h.set) hH0 ?_
  refine held_callX (i := 1) (o := { dst := some 13, op := Op.call { callee := Callee.value (Operand.func 10), args := #[Operand.tmp 12], argTypes := #[26] }, type := 4, pos := "law.go:25", after := #[{ on := 0, ground := Ground.data }], guard := none }) (F := 10) (vs := #[setV s.1 va]) (by kernel_rfl) (by kernel_rfl) (by kernel_rfl) (fun _ => by kernel_rfl) (HR1.out _ hH0) ?_
  rintro e w1 ⟨rfl, hb1⟩
  have hH1 := hH0.on hb1
  refine ⟨.bool true, rfl, hH1, ?_⟩
  refine held_callX (i := 3) (o := { dst := some 15, op := Op.call { callee := Callee.value (Operand.func 11), args := #[Operand.tmp 14], argTypes := #[26] }, type := 4, pos := "law.go:25", after := #[{ on := 2, ground := Ground.data }, { on := 1, ground := Ground.chain }], guard := none }) (F := 11) (vs := #[setV s.1 va]) (by kernel_rfl) (by kernel_rfl) (by kernel_rfl) (fun _ => by kernel_rfl) (HR2.out _ hH1) ?_
  rintro e w2 ⟨rfl, hb2⟩
  have hH2 := hH1.on hb2
  refine ⟨.bool true, rfl, hH2, ?_⟩
  refine held_take (i := 4) (o := { dst := some 16, op := Op.binOp BinOp.neq 4 (Operand.tmp 13) (Operand.tmp 15) 4, type := 4, pos := "law.go:25", after := #[{ on := 1, ground := Ground.data }, { on := 3, ground := Ground.data }], guard := none }) (v := .bool false) (by kernel_rfl) (by kernel_rfl) (by kernel_rfl) (by kernel_rfl) (fun _ _ _ h => h) (by kernel_rfl) (fun W _ => exec_bin rfl (by kernel_rfl) (by kernel_rfl) (fun _ => by kernel_rfl) (neqb_same true) W) hH2 ?_
  refine wpAnyH_done (by kernel_rfl) ?_ _
  simp only [Act.put, List.setIfInBounds_toArray, List.set_cons_zero, List.set_cons_succ]
  have hT3 := hH2
  have hs9 := hT3.set
  have HR9 := HR2.out _ hT3
  clear hTS m0
  go_wp2_with (first | (refine load_setG (by kernel_rfl) _ rfl w.heap.size s.1 va hl rfl hs9 ?_) | (go_at_call 11; refine HR9.mono ?_; rintro e w8 ⟨rfl, hb8⟩))
  have hTS7 := (hT3.on hb8).on (Below.refl _ _).drew
  clear hT3 hs9 HR9 hb8
  refine wp_region_held_drew (S := TS w s va d W0) (by kernel_rfl) (hTS7) (fun hH0 => ?_)
  refine held_take (i := 0) (o := { dst := some 21, op := Op.load 26 (Operand.tmp 3), type := 26, pos := "law.go:31", after := #[], guard := none }) (v := setV s.1 va) (by kernel_rfl) (by kernel_rfl) (by kernel_rfl) (by kernel_rfl) (fun _ _ _ h => h) (by kernel_rfl) (fun _ h => exec_set rfl hl (by kernel_rfl) h.set) hH0 ?_
  refine held_take (i := 1) (o := { dst := some 22, op := Op.load 28 (Operand.tmp 4), type := 28, pos := "law.go:31", after := #[], guard := none }) (v := dV d) (by kernel_rfl) (by kernel_rfl) (by kernel_rfl) (by kernel_rfl) (fun _ _ _ h => h) (by kernel_rfl) (fun _ h => exec_dot rfl (by kernel_rfl) h.dot.1 h.dot.2) hH0 ?_
  refine held_take (i := 3) (o := { dst := some 24, op := Op.load 26 (Operand.tmp 3), type := 26, pos := "law.go:31", after := #[], guard := none }) (v := setV s.1 va) (by kernel_rfl) (by kernel_rfl) (by kernel_rfl) (by kernel_rfl) (fun _ _ _ h => h) (by kernel_rfl) (fun _ h => exec_set rfl hl (by kernel_rfl) h.set) hH0 ?_
  refine held_take (i := 4) (o := { dst := some 25, op := Op.load 28 (Operand.tmp 4), type := 28, pos := "law.go:31", after := #[], guard := none }) (v := dV d) (by kernel_rfl) (by kernel_rfl) (by kernel_rfl) (by kernel_rfl) (fun _ _ _ h => h) (by kernel_rfl) (fun _ h => exec_dot rfl (by kernel_rfl) h.dot.1 h.dot.2) hH0 ?_
  refine held_callX (i := 2) (o := { dst := some 23, op := Op.call { callee := Callee.value (Operand.func 12), args := #[Operand.tmp 21, Operand.tmp 22], argTypes := #[26, 28] }, type := 4, pos := "law.go:31", after := #[{ on := 0, ground := Ground.data }, { on := 1, ground := Ground.data }], guard := none }) (F := 12) (vs := #[setV s.1 va, dV d]) (by kernel_rfl) (by kernel_rfl) (by kernel_rfl) (fun _ => by kernel_rfl) (H12.out _ hH0) ?_
  rintro e w1 ⟨rfl, hb1⟩
  have hH1 := hH0.on hb1
  refine ⟨.bool qh, rfl, hH1, ?_⟩
  refine held_callX (i := 5) (o := { dst := some 26, op := Op.call { callee := Callee.value (Operand.func 13), args := #[Operand.tmp 24, Operand.tmp 25], argTypes := #[26, 28] }, type := 4, pos := "law.go:31", after := #[{ on := 3, ground := Ground.data }, { on := 4, ground := Ground.data }, { on := 2, ground := Ground.chain }], guard := none }) (F := 13) (vs := #[setV s.1 va, dV d]) (by kernel_rfl) (by kernel_rfl) (by kernel_rfl) (fun _ => by kernel_rfl) (H13.out _ hH1) ?_
  rintro e w2 ⟨rfl, hb2⟩
  have hH2 := hH1.on hb2
  refine ⟨.bool qh, rfl, hH2, ?_⟩
  refine held_take (i := 6) (o := { dst := some 27, op := Op.binOp BinOp.eql 4 (Operand.tmp 23) (Operand.tmp 26) 4, type := 4, pos := "law.go:31", after := #[{ on := 2, ground := Ground.data }, { on := 5, ground := Ground.data }], guard := none }) (v := .bool true) (by kernel_rfl) (by kernel_rfl) (by kernel_rfl) (by kernel_rfl) (fun _ _ _ h => h) (by kernel_rfl) (fun W _ => exec_bin rfl (by kernel_rfl) (by kernel_rfl) (fun _ => by kernel_rfl) (eqb_same qh) W) hH2 ?_
  refine held_take (i := 7) (o := { dst := some 28, op := Op.move (Operand.tmp 27), type := 4, pos := "law.go:31", after := #[{ on := 6, ground := Ground.data }, { on := 5, ground := Ground.chain }], guard := none }) (v := .bool true) (by kernel_rfl) (by kernel_rfl) (by kernel_rfl) (by kernel_rfl) (fun _ _ _ h => h) (by kernel_rfl) (fun _ _ => by kernel_rfl) hH2 ?_
  refine held_take (i := 8) (o := { dst := some 29, op := Op.load 26 (Operand.tmp 3), type := 26, pos := "law.go:31", after := #[{ on := 7, ground := Ground.guard }], guard := some (7, true) }) (v := setV s.1 va) (by kernel_rfl) (by kernel_rfl) (by kernel_rfl) (by kernel_rfl) (fun _ _ _ h => h) (by kernel_rfl) (fun _ h => exec_set rfl hl (by kernel_rfl) h.set) hH2 ?_
  refine held_take (i := 9) (o := { dst := some 30, op := Op.load 28 (Operand.tmp 4), type := 28, pos := "law.go:31", after := #[{ on := 7, ground := Ground.guard }], guard := some (7, true) }) (v := dV d) (by kernel_rfl) (by kernel_rfl) (by kernel_rfl) (by kernel_rfl) (fun _ _ _ h => h) (by kernel_rfl) (fun _ h => exec_dot rfl (by kernel_rfl) h.dot.1 h.dot.2) hH2 ?_
  refine held_take (i := 11) (o := { dst := some 32, op := Op.load 26 (Operand.tmp 3), type := 26, pos := "law.go:31", after := #[{ on := 7, ground := Ground.guard }], guard := some (7, true) }) (v := setV s.1 va) (by kernel_rfl) (by kernel_rfl) (by kernel_rfl) (by kernel_rfl) (fun _ _ _ h => h) (by kernel_rfl) (fun _ h => exec_set rfl hl (by kernel_rfl) h.set) hH2 ?_
  refine held_take (i := 12) (o := { dst := some 33, op := Op.load 28 (Operand.tmp 4), type := 28, pos := "law.go:31", after := #[{ on := 7, ground := Ground.guard }], guard := some (7, true) }) (v := dV d) (by kernel_rfl) (by kernel_rfl) (by kernel_rfl) (by kernel_rfl) (fun _ _ _ h => h) (by kernel_rfl) (fun _ h => exec_dot rfl (by kernel_rfl) h.dot.1 h.dot.2) hH2 ?_
  refine held_callX (i := 10) (o := { dst := some 31, op := Op.call { callee := Callee.value (Operand.func 15), args := #[Operand.tmp 29, Operand.tmp 30], argTypes := #[26, 28] }, type := 26, pos := "law.go:31", after := #[{ on := 8, ground := Ground.data }, { on := 9, ground := Ground.data }, { on := 7, ground := Ground.chain }, { on := 7, ground := Ground.guard }], guard := some (7, true) }) (F := 15) (vs := #[setV s.1 va, dV d]) (by kernel_rfl) (by kernel_rfl) (by kernel_rfl) (fun _ => by kernel_rfl) (H15.out _ hH2) ?_
  rintro e w3 ⟨r3, rfl, hd3, hb3⟩
  have hH3 := hH2.on hb3
  refine ⟨setV p.1 r3, rfl, hH3, ?_⟩
  refine held_callX (i := 13) (o := { dst := some 34, op := Op.call { callee := Callee.value (Operand.func 16), args := #[Operand.tmp 32, Operand.tmp 33], argTypes := #[26, 28] }, type := 26, pos := "law.go:31", after := #[{ on := 11, ground := Ground.data }, { on := 12, ground := Ground.data }, { on := 10, ground := Ground.chain }, { on := 7, ground := Ground.guard }], guard := some (7, true) }) (F := 16) (vs := #[setV s.1 va, dV d]) (by kernel_rfl) (by kernel_rfl) (by kernel_rfl) (fun _ => by kernel_rfl) (H16.out _ hH3) ?_
  rintro e w4 ⟨r4, rfl, hd4, hb4⟩
  have hH4 := hH3.on hb4
  refine ⟨setV p.1 r4, rfl, hH4, ?_⟩
  refine held_callX (i := 14) (o := { dst := some 35, op := Op.call { callee := Callee.value (Operand.func 14), args := #[Operand.tmp 31, Operand.tmp 34], argTypes := #[26, 26] }, type := 4, pos := "law.go:31", after := #[{ on := 10, ground := Ground.data }, { on := 13, ground := Ground.data }, { on := 13, ground := Ground.chain }, { on := 7, ground := Ground.guard }], guard := some (7, true) }) (F := 14) (vs := #[setV p.1 r3, setV p.1 r4]) (by kernel_rfl) (by kernel_rfl) (by kernel_rfl) (fun _ => by kernel_rfl) (H14.out _ _ _ (hd3.on hb4) hd4) ?_
  rintro e w5 ⟨rfl, hb5⟩
  have hH5 := hH4.on hb5
  refine ⟨.bool true, rfl, hH5, ?_⟩
  refine held_take (i := 15) (o := { dst := some 36, op := Op.pick (Operand.tmp 28) (Operand.tmp 35) (Operand.const (Value.bool false)), type := 4, pos := "law.go:31", after := #[{ on := 7, ground := Ground.data }, { on := 14, ground := Ground.data }], guard := none }) (v := .bool true) (by kernel_rfl) (by kernel_rfl) (by kernel_rfl) (by kernel_rfl) (fun _ _ _ h => h) (by kernel_rfl) (fun _ _ => by kernel_rfl) hH5 ?_
  refine held_take (i := 16) (o := { dst := some 37, op := Op.move (Operand.tmp 36), type := 4, pos := "law.go:31", after := #[{ on := 15, ground := Ground.data }, { on := 14, ground := Ground.chain }], guard := none }) (v := .bool true) (by kernel_rfl) (by kernel_rfl) (by kernel_rfl) (by kernel_rfl) (fun _ _ _ h => h) (by kernel_rfl) (fun _ _ => by kernel_rfl) hH5 ?_
  refine held_take (i := 17) (o := { dst := some 38, op := Op.load 26 (Operand.tmp 3), type := 26, pos := "law.go:31", after := #[{ on := 16, ground := Ground.guard }], guard := some (16, true) }) (v := setV s.1 va) (by kernel_rfl) (by kernel_rfl) (by kernel_rfl) (by kernel_rfl) (fun _ _ _ h => h) (by kernel_rfl) (fun _ h => exec_set rfl hl (by kernel_rfl) h.set) hH5 ?_
  refine held_take (i := 18) (o := { dst := some 39, op := Op.move (Operand.tmp 2), type := 3, pos := "law.go:31", after := #[{ on := 16, ground := Ground.guard }], guard := some (16, true) }) (v := .int .i64 r) (by kernel_rfl) (by kernel_rfl) (by kernel_rfl) (by kernel_rfl) (fun _ _ _ h => h) (by kernel_rfl) (fun _ _ => by kernel_rfl) hH5 ?_
  refine held_take (i := 20) (o := { dst := some 41, op := Op.load 26 (Operand.tmp 3), type := 26, pos := "law.go:31", after := #[{ on := 16, ground := Ground.guard }], guard := some (16, true) }) (v := setV s.1 va) (by kernel_rfl) (by kernel_rfl) (by kernel_rfl) (by kernel_rfl) (fun _ _ _ h => h) (by kernel_rfl) (fun _ h => exec_set rfl hl (by kernel_rfl) h.set) hH5 ?_
  refine held_take (i := 21) (o := { dst := some 42, op := Op.move (Operand.tmp 2), type := 3, pos := "law.go:31", after := #[{ on := 16, ground := Ground.guard }], guard := some (16, true) }) (v := .int .i64 r) (by kernel_rfl) (by kernel_rfl) (by kernel_rfl) (by kernel_rfl) (fun _ _ _ h => h) (by kernel_rfl) (fun _ _ => by kernel_rfl) hH5 ?_
  refine held_callX (i := 19) (o := { dst := some 40, op := Op.call { callee := Callee.value (Operand.func 17), args := #[Operand.tmp 38, Operand.tmp 39], argTypes := #[26, 3] }, type := 3, pos := "law.go:31", after := #[{ on := 17, ground := Ground.data }, { on := 18, ground := Ground.data }, { on := 16, ground := Ground.chain }, { on := 16, ground := Ground.guard }], guard := some (16, true) }) (F := 17) (vs := #[setV s.1 va, .int .i64 r]) (by kernel_rfl) (by kernel_rfl) (by kernel_rfl) (fun _ => by kernel_rfl) (H17.out _ hH5) ?_
  rintro e w6 ⟨rfl, hb6⟩
  have hH6 := hH5.on hb6
  refine ⟨.int .i64 nx, rfl, hH6, ?_⟩
  refine held_callX (i := 22) (o := { dst := some 43, op := Op.call { callee := Callee.value (Operand.func 18), args := #[Operand.tmp 41, Operand.tmp 42], argTypes := #[26, 3] }, type := 3, pos := "law.go:31", after := #[{ on := 20, ground := Ground.data }, { on := 21, ground := Ground.data }, { on := 19, ground := Ground.chain }, { on := 16, ground := Ground.guard }], guard := some (16, true) }) (F := 18) (vs := #[setV s.1 va, .int .i64 r]) (by kernel_rfl) (by kernel_rfl) (by kernel_rfl) (fun _ => by kernel_rfl) (H18.out _ hH6) ?_
  rintro e w7 ⟨rfl, hb7⟩
  have hH7 := hH6.on hb7
  refine ⟨.int .i64 nx, rfl, hH7, ?_⟩
  refine held_take (i := 23) (o := { dst := some 44, op := Op.binOp BinOp.eql 3 (Operand.tmp 40) (Operand.tmp 43) 3, type := 4, pos := "law.go:31", after := #[{ on := 19, ground := Ground.data }, { on := 22, ground := Ground.data }, { on := 16, ground := Ground.guard }], guard := some (16, true) }) (v := .bool true) (by kernel_rfl) (by kernel_rfl) (by kernel_rfl) (by kernel_rfl) (fun _ _ _ h => h) (by kernel_rfl) (fun W _ => exec_bin rfl (by kernel_rfl) (by kernel_rfl) (fun _ => by kernel_rfl) (eqi_same nx) W) hH7 ?_
  refine held_take (i := 24) (o := { dst := some 45, op := Op.pick (Operand.tmp 37) (Operand.tmp 44) (Operand.const (Value.bool false)), type := 4, pos := "law.go:31", after := #[{ on := 16, ground := Ground.data }, { on := 23, ground := Ground.data }], guard := none }) (v := .bool true) (by kernel_rfl) (by kernel_rfl) (by kernel_rfl) (by kernel_rfl) (fun _ _ _ h => h) (by kernel_rfl) (fun _ _ => by kernel_rfl) hH7 ?_
  refine held_take (i := 25) (o := { dst := some 46, op := Op.move (Operand.tmp 45), type := 4, pos := "law.go:31", after := #[{ on := 24, ground := Ground.data }, { on := 22, ground := Ground.chain }], guard := none }) (v := .bool true) (by kernel_rfl) (by kernel_rfl) (by kernel_rfl) (by kernel_rfl) (fun _ _ _ h => h) (by kernel_rfl) (fun _ _ => by kernel_rfl) hH7 ?_
  refine held_take (i := 26) (o := { dst := some 47, op := Op.load 26 (Operand.tmp 3), type := 26, pos := "law.go:31", after := #[{ on := 25, ground := Ground.guard }], guard := some (25, true) }) (v := setV s.1 va) (by kernel_rfl) (by kernel_rfl) (by kernel_rfl) (by kernel_rfl) (fun _ _ _ h => h) (by kernel_rfl) (fun _ h => exec_set rfl hl (by kernel_rfl) h.set) hH7 ?_
  refine held_take (i := 28) (o := { dst := some 49, op := Op.load 26 (Operand.tmp 3), type := 26, pos := "law.go:31", after := #[{ on := 25, ground := Ground.guard }], guard := some (25, true) }) (v := setV s.1 va) (by kernel_rfl) (by kernel_rfl) (by kernel_rfl) (by kernel_rfl) (fun _ _ _ h => h) (by kernel_rfl) (fun _ h => exec_set rfl hl (by kernel_rfl) h.set) hH7 ?_
  refine held_callX (i := 27) (o := { dst := some 48, op := Op.call { callee := Callee.value (Operand.func 19), args := #[Operand.tmp 47], argTypes := #[26] }, type := 3, pos := "law.go:31", after := #[{ on := 26, ground := Ground.data }, { on := 25, ground := Ground.chain }, { on := 25, ground := Ground.guard }], guard := some (25, true) }) (F := 19) (vs := #[setV s.1 va]) (by kernel_rfl) (by kernel_rfl) (by kernel_rfl) (fun _ => by kernel_rfl) (H19.out _ hH7) ?_
  rintro e w8 ⟨rfl, hb8⟩
  have hH8 := hH7.on hb8
  refine ⟨.int .i64 ct, rfl, hH8, ?_⟩
  refine held_callX (i := 29) (o := { dst := some 50, op := Op.call { callee := Callee.value (Operand.func 20), args := #[Operand.tmp 49], argTypes := #[26] }, type := 3, pos := "law.go:31", after := #[{ on := 28, ground := Ground.data }, { on := 27, ground := Ground.chain }, { on := 25, ground := Ground.guard }], guard := some (25, true) }) (F := 20) (vs := #[setV s.1 va]) (by kernel_rfl) (by kernel_rfl) (by kernel_rfl) (fun _ => by kernel_rfl) (H20.out _ hH8) ?_
  rintro e w9 ⟨rfl, hb9⟩
  have hH9 := hH8.on hb9
  refine ⟨.int .i64 ct, rfl, hH9, ?_⟩
  refine held_take (i := 30) (o := { dst := some 51, op := Op.binOp BinOp.eql 3 (Operand.tmp 48) (Operand.tmp 50) 3, type := 4, pos := "law.go:31", after := #[{ on := 27, ground := Ground.data }, { on := 29, ground := Ground.data }, { on := 25, ground := Ground.guard }], guard := some (25, true) }) (v := .bool true) (by kernel_rfl) (by kernel_rfl) (by kernel_rfl) (by kernel_rfl) (fun _ _ _ h => h) (by kernel_rfl) (fun W _ => exec_bin rfl (by kernel_rfl) (by kernel_rfl) (fun _ => by kernel_rfl) (eqi_same ct) W) hH9 ?_
  refine held_take (i := 31) (o := { dst := some 52, op := Op.pick (Operand.tmp 46) (Operand.tmp 51) (Operand.const (Value.bool false)), type := 4, pos := "law.go:31", after := #[{ on := 25, ground := Ground.data }, { on := 30, ground := Ground.data }], guard := none }) (v := .bool true) (by kernel_rfl) (by kernel_rfl) (by kernel_rfl) (by kernel_rfl) (fun _ _ _ h => h) (by kernel_rfl) (fun _ _ => by kernel_rfl) hH9 ?_
  refine held_take (i := 32) (o := { dst := some 53, op := Op.move (Operand.tmp 52), type := 4, pos := "law.go:31", after := #[{ on := 31, ground := Ground.data }, { on := 29, ground := Ground.chain }], guard := none }) (v := .bool true) (by kernel_rfl) (by kernel_rfl) (by kernel_rfl) (by kernel_rfl) (fun _ _ _ h => h) (by kernel_rfl) (fun _ _ => by kernel_rfl) hH9 ?_
  refine held_callX (i := 33) (o := { dst := some 54, op := Op.call { callee := Callee.value (Operand.func 9), args := #[], argTypes := #[] }, type := 4, pos := "law.go:31", after := #[{ on := 32, ground := Ground.chain }, { on := 32, ground := Ground.guard }], guard := some (32, true) }) (F := 9) (vs := #[]) (by kernel_rfl) (by kernel_rfl) (by kernel_rfl) (fun _ => by kernel_rfl) (awake_any _) ?_
  rintro e w10 ⟨rfl, hb10⟩
  have hH10 := hH9.on hb10
  refine ⟨.bool true, rfl, hH10, ?_⟩
  refine held_take (i := 34) (o := { dst := some 55, op := Op.pick (Operand.tmp 53) (Operand.tmp 54) (Operand.const (Value.bool false)), type := 4, pos := "law.go:31", after := #[{ on := 32, ground := Ground.data }, { on := 33, ground := Ground.data }], guard := none }) (v := .bool true) (by kernel_rfl) (by kernel_rfl) (by kernel_rfl) (by kernel_rfl) (fun _ _ _ h => h) (by kernel_rfl) (fun _ _ => by kernel_rfl) hH10 ?_
  refine held_do (i := 35) (o := { dst := some 6, op := Op.assign (Operand.tmp 55), type := 4, pos := "law.go:31", after := #[{ on := 34, ground := Ground.data }, { on := 33, ground := Ground.chain }, { on := 0, ground := Ground.phase }, { on := 1, ground := Ground.phase }, { on := 2, ground := Ground.phase }, { on := 3, ground := Ground.phase }, { on := 4, ground := Ground.phase }, { on := 5, ground := Ground.phase }, { on := 6, ground := Ground.phase }, { on := 7, ground := Ground.phase }, { on := 8, ground := Ground.phase }, { on := 9, ground := Ground.phase }, { on := 10, ground := Ground.phase }, { on := 11, ground := Ground.phase }, { on := 12, ground := Ground.phase }, { on := 13, ground := Ground.phase }, { on := 14, ground := Ground.phase }, { on := 15, ground := Ground.phase }, { on := 16, ground := Ground.phase }, { on := 17, ground := Ground.phase }, { on := 18, ground := Ground.phase }, { on := 19, ground := Ground.phase }, { on := 20, ground := Ground.phase }, { on := 21, ground := Ground.phase }, { on := 22, ground := Ground.phase }, { on := 23, ground := Ground.phase }, { on := 24, ground := Ground.phase }, { on := 25, ground := Ground.phase }, { on := 26, ground := Ground.phase }, { on := 27, ground := Ground.phase }, { on := 28, ground := Ground.phase }, { on := 29, ground := Ground.phase }, { on := 30, ground := Ground.phase }, { on := 31, ground := Ground.phase }, { on := 32, ground := Ground.phase }, { on := 33, ground := Ground.phase }, { on := 34, ground := Ground.phase }], guard := none }) (v := .bool true) (by kernel_rfl) (by kernel_rfl) (by kernel_rfl) (by kernel_rfl) hH10 ?_
  refine wpAnyH_done (by kernel_rfl) ?_ _
  simp only [Act.put, List.setIfInBounds_toArray, List.set_cons_zero, List.set_cons_succ]
  go_wp2
  go_ret
  exact ⟨rfl, bchain HB.out hH10.below⟩
end Go.Proofs.Ytenfbjlmfdiniaa
