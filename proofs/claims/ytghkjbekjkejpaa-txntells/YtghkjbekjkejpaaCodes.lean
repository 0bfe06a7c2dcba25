/- The walks of both value Codes. -/
import Derived.Test.YtghkjbekjkejpaaRights
namespace Go.Proofs.Ytghkjbekjkejpaa.V
open Go.RowKit


theorem packText_list (l : List UInt8) (w : World) (hs : l.length ≤ 64) : Calls Try.prog 85 #[.string ⟨l.toArray⟩] w fun e w' => e = .returned (.string ⟨(Pk.enc l.length ++ l).toArray⟩) ∧ Below w.heap.size w w' := text_any ⟨l.toArray⟩ w (by rw [mk_size]; omega)
theorem refPackText_list (l : List UInt8) (w : World) (hs : l.length ≤ 64) : Calls Try.prog 88 #[.string ⟨l.toArray⟩] w fun e w' => e = .returned (.string ⟨(Pk.enc l.length ++ l).toArray⟩) ∧ Below w.heap.size w w' := refText_any ⟨l.toArray⟩ w (by rw [mk_size]; omega)

set_option maxRecDepth 20000 in
set_option maxHeartbeats 1000000 in
theorem code_right (k n : Int) (l : List UInt8) (w : World) (h : Vl.Right k n l) : Calls Try.prog 63 #[valV k n l] w fun e w' => e = .returned (.string ⟨(Vl.code k n l).toArray⟩) ∧ Below w.heap.size w w' := by
  have hlen := h.len
  have ham := h.amount
  have hki := h.kind
  by_cases h2 : k = 2
  · subst h2
    have h0 : n = 0 := by rcases h with ⟨h, _⟩ | ⟨_, h, _⟩ | ⟨h, _⟩ <;> omega
    subst h0
    have C25 : ∀ w, Calls Try.prog 87 #[valV 2 0 l] w fun e w' => e = .returned (.iface 9 (.string ⟨l.toArray⟩)) ∧ Below w.heap.size w w' := fun w => inside_any 2 0 l w
    have A := as9_9
    have C36 := fun w => int_any 2 w (by omega) (by omega)
    have C37 := fun w => packText_list l w hlen
    rw [show Vl.code 2 0 l = Pk.enc (2 : Int).toNat ++ (Pk.enc l.length ++ l) from rfl]
    have l1 : (Pk.enc (2 : Int).toNat).length ≤ 9 := Pk.enc_len9 (by decide)
    have l2 : (Pk.enc l.length ++ l).length ≤ 100 := by have := Pk.enc_len9 (n := l.length) (by omega); rw [List.length_append]; omega
    generalize Pk.enc (2 : Int).toNat = x at *
    generalize Pk.enc l.length ++ l = y at *
    have hsum : ¬ 9223372036854775807 < x.length + y.length := by omega
    go_enter Try.func63, Try.ntmps63
    go_wp2_with (first
      | (go_at_call 87; refine (C25 _).mono ?_; rintro e w1 ⟨rfl, hb1⟩; have B1 := bchain (below_new w (valO 2 0 l)) hb1; have V1 := (VAt.new w 2 0 l).on hb1; have c0 := V1.c0)
      | (go_at_call 40; refine (C36 _).mono ?_; rintro e w2 ⟨rfl, hb2⟩)
      | (go_at_call 85; refine (C37 _).mono ?_; rintro e w3 ⟨rfl, hb3⟩))
    go_ret
    exact ⟨ret_str (by rw [cat_lists]), bchain (bchain B1 hb2) hb3⟩
  · have C25 : ∀ w, ∃ x, (x = Value.iface 3 (.int .i64 n) ∨ x = .iface 4 (.bool (n == 1))) ∧ Calls Try.prog 87 #[valV k n l] w fun e w' => e = .returned x ∧ Below w.heap.size w w' := fun w => by
      have h := inside_any k n l w
      by_cases h1 : k = 1
      · exact ⟨_, .inl rfl, by rw [show Vl.inside k n l = .int n by unfold Vl.inside; rw [if_pos h1]] at h; exact h⟩
      · exact ⟨_, .inr rfl, by rw [show Vl.inside k n l = .bool (n == 1) by unfold Vl.inside; rw [if_neg h1, if_neg h2]] at h; exact h⟩
    have hf0 := Vl.fold_pos n
    have hf1 := Vl.fold_le ham.1 ham.2
    have C36k := fun w => int_any k w (by omega) (by omega)
    have C36f := fun w => int_any (Vl.fold n) w (by omega) (by omega)
    have C21 : ∀ w, Calls Try.prog 65 #[.int .i64 n] w fun e w' => e = .returned (.int .i64 (Vl.fold n)) ∧ Below w.heap.size w w' := fun w => (fold_any n w (by omega) (by omega)).mono (by rintro e w' ⟨rfl, rfl⟩; exact ⟨rfl, Below.refl _ _⟩)
    have A := as3_9
    have B := as4_9
    rw [show Vl.code k n l = Pk.enc k.toNat ++ Pk.enc (Vl.fold n).toNat by unfold Vl.code; rw [if_neg h2]]
    have l1 : (Pk.enc k.toNat).length ≤ 9 := Pk.enc_len9 (by omega)
    have l2 : (Pk.enc (Vl.fold n).toNat).length ≤ 9 := Pk.enc_len9 (by omega)
    generalize Pk.enc k.toNat = x at *
    generalize Pk.enc (Vl.fold n).toNat = y at *
    generalize Vl.fold n = f at *
    have hsum : ¬ 9223372036854775807 < x.length + y.length := by omega
    obtain ⟨z, hz, C25z⟩ := C25 (w.alloc (valO k n l))
    have V0 := VAt.new w k n l
    have B0 := below_new w (valO k n l)
    rcases hz with rfl | rfl
    all_goals
      go_enter Try.func63, Try.ntmps63
      go_wp2_with (go_at_call 87; (with_reducible refine C25z.mono ?_); rintro e w0 ⟨rfl, hb1⟩; have B1 := bchain B0 hb1; have V1 := V0.on hb1)
      refine wp_region_held_drew (S := fun W => VAt W w.heap.size k n l ∧ Below w.heap.size w W) (by kernel_rfl) (⟨V1.drew, B1.drew⟩) (fun hH0 => ?_)
      refine held_take (i := 0) (o := { dst := some 18, op := Op.fieldAddr 44 (Operand.tmp 1) 0, type := 0, pos := "value.go:148", after := #[], guard := none }) (v := .pointer (some ⟨w.heap.size, 0, none⟩)) (by kernel_rfl) (by kernel_rfl) (by kernel_rfl) (by kernel_rfl) (fun _ _ _ h => h) (by kernel_rfl) (fun W _ => exec_fld (i := 0) (b := w.heap.size) (by omega) rfl (by kernel_rfl) W) hH0 ?_
      refine held_take (i := 1) (o := { dst := some 19, op := Op.load 3 (Operand.tmp 18), type := 3, pos := "value.go:148", after := #[{ on := 0, ground := Ground.data }], guard := none }) (v := .int .i64 k) (by kernel_rfl) (by kernel_rfl) (by kernel_rfl) (by kernel_rfl) (fun _ _ _ h => h) (by kernel_rfl) (fun _ h => exec_ld0 rfl (by kernel_rfl) h.1) hH0 ?_
      refine held_take (i := 3) (o := { dst := some 21, op := Op.fieldAddr 44 (Operand.tmp 1) 1, type := 0, pos := "value.go:148", after := #[], guard := none }) (v := .pointer (some ⟨w.heap.size, 1, none⟩)) (by kernel_rfl) (by kernel_rfl) (by kernel_rfl) (by kernel_rfl) (fun _ _ _ h => h) (by kernel_rfl) (fun W _ => exec_fld (i := 1) (b := w.heap.size) (by omega) rfl (by kernel_rfl) W) hH0 ?_
      refine held_take (i := 4) (o := { dst := some 22, op := Op.load 3 (Operand.tmp 21), type := 3, pos := "value.go:148", after := #[{ on := 3, ground := Ground.data }], guard := none }) (v := .int .i64 n) (by kernel_rfl) (by kernel_rfl) (by kernel_rfl) (by kernel_rfl) (fun _ _ _ h => h) (by kernel_rfl) (fun _ h => exec_ld1 rfl (by kernel_rfl) h.1) hH0 ?_
      refine held_callX (i := 2) (o := { dst := some 20, op := Op.call { callee := Callee.value (Operand.func 40), args := #[Operand.tmp 19], argTypes := #[3] }, type := 9, pos := "value.go:148", after := #[{ on := 1, ground := Ground.data }], guard := none }) (F := 40) (vs := #[.int .i64 k]) (by kernel_rfl) (by kernel_rfl) (by kernel_rfl) (fun _ => by kernel_rfl) (C36k _) ?_
      rintro e w1 ⟨rfl, hb1⟩
      have hH1 := And.intro (hH0.1.on hb1) (bchain hH0.2 hb1)
      refine ⟨.string ⟨x.toArray⟩, rfl, hH1, ?_⟩
      refine held_callX (i := 5) (o := { dst := some 23, op := Op.call { callee := Callee.value (Operand.func 65), args := #[Operand.tmp 22], argTypes := #[3] }, type := 3, pos := "value.go:148", after := #[{ on := 4, ground := Ground.data }, { on := 2, ground := Ground.chain }], guard := none }) (F := 65) (vs := #[.int .i64 n]) (by kernel_rfl) (by kernel_rfl) (by kernel_rfl) (fun _ => by kernel_rfl) (C21 _) ?_
      rintro e w2 ⟨rfl, hb2⟩
      have hH2 := And.intro (hH1.1.on hb2) (bchain hH1.2 hb2)
      refine ⟨.int .i64 f, rfl, hH2, ?_⟩
      refine held_callX (i := 6) (o := { dst := some 24, op := Op.call { callee := Callee.value (Operand.func 40), args := #[Operand.tmp 23], argTypes := #[3] }, type := 9, pos := "value.go:148", after := #[{ on := 5, ground := Ground.data }, { on := 5, ground := Ground.chain }], guard := none }) (F := 40) (vs := #[.int .i64 f]) (by kernel_rfl) (by kernel_rfl) (by kernel_rfl) (fun _ => by kernel_rfl) (C36f _) ?_
      rintro e w3 ⟨rfl, hb3⟩
      have hH3 := And.intro (hH2.1.on hb3) (bchain hH2.2 hb3)
      refine ⟨.string ⟨y.toArray⟩, rfl, hH3, ?_⟩
      refine held_take (i := 7) (o := { dst := some 25, op := Op.binOp BinOp.add 9 (Operand.tmp 20) (Operand.tmp 24) 9, type := 9, pos := "value.go:148", after := #[{ on := 2, ground := Ground.data }, { on := 6, ground := Ground.data }], guard := none }) (v := .string ⟨(x ++ y).toArray⟩) (by kernel_rfl) (by kernel_rfl) (by kernel_rfl) (by kernel_rfl) (fun _ _ _ h => h) (by kernel_rfl) (fun W _ => exec_bin rfl (by kernel_rfl) (by kernel_rfl) (fun _ => by kernel_rfl) (add_lists hsum) W) hH3 ?_
      refine held_do (i := 8) (o := { dst := some 2, op := Op.assign (Operand.tmp 25), type := 9, pos := "value.go:148", after := #[{ on := 7, ground := Ground.data }, { on := 6, ground := Ground.chain }, { on := 0, ground := Ground.phase }, { on := 1, ground := Ground.phase }, { on := 2, ground := Ground.phase }, { on := 3, ground := Ground.phase }, { on := 4, ground := Ground.phase }, { on := 5, ground := Ground.phase }, { on := 6, ground := Ground.phase }, { on := 7, ground := Ground.phase }], guard := none }) (v := .string ⟨(x ++ y).toArray⟩) (by kernel_rfl) (by kernel_rfl) (by kernel_rfl) (by kernel_rfl) hH3 ?_
      refine wpAnyH_done (by kernel_rfl) ?_ _
      simp only [Act.put, List.setIfInBounds_toArray, List.set_cons_zero, List.set_cons_succ]
      go_wp2
      go_ret
      exact ⟨rfl, hH3.2⟩

set_option maxRecDepth 20000 in
set_option maxHeartbeats 1000000 in
theorem refCode_right (k n : Int) (l : List UInt8) (w : World) (h : Vl.Right k n l) : Calls Try.prog 70 #[valV k n l] w fun e w' => e = .returned (.string ⟨(Vl.code k n l).toArray⟩) ∧ Below w.heap.size w w' := by
  have hlen := h.len
  have ham := h.amount
  have hki := h.kind
  have V0 := VAt.new w k n l
  have B0 := below_new w (valO k n l)
  by_cases h2 : k = 2
  · have C38 := fun w => refInt_any 2 w (by omega) (by omega)
    have C39 := fun w => refPackText_list l w hlen
    rw [show Vl.code k n l = Pk.enc (2 : Int).toNat ++ (Pk.enc l.length ++ l) by unfold Vl.code; rw [if_pos h2, h2]]
    have l1 : (Pk.enc (2 : Int).toNat).length ≤ 9 := Pk.enc_len9 (by decide)
    have l2 : (Pk.enc l.length ++ l).length ≤ 100 := by have := Pk.enc_len9 (n := l.length) (by omega); rw [List.length_append]; omega
    generalize Pk.enc (2 : Int).toNat = x at *
    generalize Pk.enc l.length ++ l = y at *
    have hsum : ¬ 9223372036854775807 < x.length + y.length := by omega
    subst h2
    go_enter Try.func70, Try.ntmps70
    go_wp2_with fail
    refine wp_region_held_drew (S := fun W => VAt W w.heap.size 2 n l ∧ Below w.heap.size w W) (by kernel_rfl) (⟨V0.drew, B0.drew⟩) (fun hH0 => ?_)
    refine held_take (i := 1) (o := { dst := some 7, op := Op.fieldAddr 44 (Operand.tmp 1) 2, type := 0, pos := "ref.go:153", after := #[], guard := none }) (v := .pointer (some ⟨w.heap.size, 2, none⟩)) (by kernel_rfl) (by kernel_rfl) (by kernel_rfl) (by kernel_rfl) (fun _ _ _ h => h) (by kernel_rfl) (fun W _ => exec_fld (i := 2) (b := w.heap.size) (by omega) rfl (by kernel_rfl) W) hH0 ?_
    refine held_take (i := 2) (o := { dst := some 8, op := Op.load 9 (Operand.tmp 7), type := 9, pos := "ref.go:153", after := #[{ on := 1, ground := Ground.data }], guard := none }) (v := .string ⟨l.toArray⟩) (by kernel_rfl) (by kernel_rfl) (by kernel_rfl) (by kernel_rfl) (fun _ _ _ h => h) (by kernel_rfl) (fun _ h => exec_ld2 rfl (by kernel_rfl) h.1) hH0 ?_
    refine held_callX (i := 0) (o := { dst := some 6, op := Op.call { callee := Callee.value (Operand.func 44), args := #[Operand.const (Value.int IntKind.i64 2)], argTypes := #[3] }, type := 9, pos := "ref.go:153", after := #[], guard := none }) (F := 44) (vs := #[.int .i64 2]) (by kernel_rfl) (by kernel_rfl) (by kernel_rfl) (fun _ => by kernel_rfl) (C38 _) ?_
    rintro e w1 ⟨rfl, hb1⟩
    have hH1 := And.intro (hH0.1.on hb1) (bchain hH0.2 hb1)
    refine ⟨.string ⟨x.toArray⟩, rfl, hH1, ?_⟩
    refine held_callX (i := 3) (o := { dst := some 9, op := Op.call { callee := Callee.value (Operand.func 88), args := #[Operand.tmp 8], argTypes := #[9] }, type := 9, pos := "ref.go:153", after := #[{ on := 2, ground := Ground.data }, { on := 0, ground := Ground.chain }], guard := none }) (F := 88) (vs := #[.string ⟨l.toArray⟩]) (by kernel_rfl) (by kernel_rfl) (by kernel_rfl) (fun _ => by kernel_rfl) (C39 _) ?_
    rintro e w2 ⟨rfl, hb2⟩
    have hH2 := And.intro (hH1.1.on hb2) (bchain hH1.2 hb2)
    refine ⟨.string ⟨y.toArray⟩, rfl, hH2, ?_⟩
    refine held_take (i := 4) (o := { dst := some 10, op := Op.binOp BinOp.add 9 (Operand.tmp 6) (Operand.tmp 9) 9, type := 9, pos := "ref.go:153", after := #[{ on := 0, ground := Ground.data }, { on := 3, ground := Ground.data }], guard := none }) (v := .string ⟨(x ++ y).toArray⟩) (by kernel_rfl) (by kernel_rfl) (by kernel_rfl) (by kernel_rfl) (fun _ _ _ h => h) (by kernel_rfl) (fun W _ => exec_bin rfl (by kernel_rfl) (by kernel_rfl) (fun _ => by kernel_rfl) (add_lists hsum) W) hH2 ?_
    refine held_do (i := 5) (o := { dst := some 2, op := Op.assign (Operand.tmp 10), type := 9, pos := "ref.go:153", after := #[{ on := 4, ground := Ground.data }, { on := 3, ground := Ground.chain }, { on := 0, ground := Ground.phase }, { on := 1, ground := Ground.phase }, { on := 2, ground := Ground.phase }, { on := 3, ground := Ground.phase }, { on := 4, ground := Ground.phase }], guard := none }) (v := .string ⟨(x ++ y).toArray⟩) (by kernel_rfl) (by kernel_rfl) (by kernel_rfl) (by kernel_rfl) hH2 ?_
    refine wpAnyH_done (by kernel_rfl) ?_ _
    simp only [Act.put, List.setIfInBounds_toArray, List.set_cons_zero, List.set_cons_succ]
    go_wp2
    go_ret
    exact ⟨rfl, hH2.2⟩
  · have hf0 := Vl.fold_pos n
    have hf1 := Vl.fold_le ham.1 ham.2
    have C36k := fun w => refInt_any k w (by omega) (by omega)
    have C36f := fun w => refInt_any (Vl.fold n) w (by omega) (by omega)
    have C21 : ∀ w, Calls Try.prog 69 #[.int .i64 n] w fun e w' => e = .returned (.int .i64 (Vl.fold n)) ∧ Below w.heap.size w w' := fun w => (refFold_any n w (by omega) (by omega)).mono (by rintro e w' ⟨rfl, rfl⟩; exact ⟨rfl, Below.refl _ _⟩)
    have e2 : (k == 2) = false := beq_eq_false_iff_ne.2 h2
    rw [show Vl.code k n l = Pk.enc k.toNat ++ Pk.enc (Vl.fold n).toNat by unfold Vl.code; rw [if_neg h2]]
    have l1 : (Pk.enc k.toNat).length ≤ 9 := Pk.enc_len9 (by omega)
    have l2 : (Pk.enc (Vl.fold n).toNat).length ≤ 9 := Pk.enc_len9 (by omega)
    generalize Pk.enc k.toNat = x at *
    generalize Pk.enc (Vl.fold n).toNat = y at *
    generalize Vl.fold n = f at *
    have hsum : ¬ 9223372036854775807 < x.length + y.length := by omega
    go_enter Try.func70, Try.ntmps70
    go_wp2_with fail
    refine wp_region_held_drew (S := fun W => VAt W w.heap.size k n l ∧ Below w.heap.size w W) (by kernel_rfl) (⟨V0.drew, B0.drew⟩) (fun hH0 => ?_)
    refine held_take (i := 0) (o := { dst := some 11, op := Op.fieldAddr 44 (Operand.tmp 1) 0, type := 0, pos := "ref.go:155", after := #[], guard := none }) (v := .pointer (some ⟨w.heap.size, 0, none⟩)) (by kernel_rfl) (by kernel_rfl) (by kernel_rfl) (by kernel_rfl) (fun _ _ _ h => h) (by kernel_rfl) (fun W _ => exec_fld (i := 0) (b := w.heap.size) (by omega) rfl (by kernel_rfl) W) hH0 ?_
    refine held_take (i := 1) (o := { dst := some 12, op := Op.load 3 (Operand.tmp 11), type := 3, pos := "ref.go:155", after := #[{ on := 0, ground := Ground.data }], guard := none }) (v := .int .i64 k) (by kernel_rfl) (by kernel_rfl) (by kernel_rfl) (by kernel_rfl) (fun _ _ _ h => h) (by kernel_rfl) (fun _ h => exec_ld0 rfl (by kernel_rfl) h.1) hH0 ?_
    refine held_take (i := 3) (o := { dst := some 14, op := Op.fieldAddr 44 (Operand.tmp 1) 1, type := 0, pos := "ref.go:155", after := #[], guard := none }) (v := .pointer (some ⟨w.heap.size, 1, none⟩)) (by kernel_rfl) (by kernel_rfl) (by kernel_rfl) (by kernel_rfl) (fun _ _ _ h => h) (by kernel_rfl) (fun W _ => exec_fld (i := 1) (b := w.heap.size) (by omega) rfl (by kernel_rfl) W) hH0 ?_
    refine held_take (i := 4) (o := { dst := some 15, op := Op.load 3 (Operand.tmp 14), type := 3, pos := "ref.go:155", after := #[{ on := 3, ground := Ground.data }], guard := none }) (v := .int .i64 n) (by kernel_rfl) (by kernel_rfl) (by kernel_rfl) (by kernel_rfl) (fun _ _ _ h => h) (by kernel_rfl) (fun _ h => exec_ld1 rfl (by kernel_rfl) h.1) hH0 ?_
    refine held_callX (i := 2) (o := { dst := some 13, op := Op.call { callee := Callee.value (Operand.func 44), args := #[Operand.tmp 12], argTypes := #[3] }, type := 9, pos := "ref.go:155", after := #[{ on := 1, ground := Ground.data }], guard := none }) (F := 44) (vs := #[.int .i64 k]) (by kernel_rfl) (by kernel_rfl) (by kernel_rfl) (fun _ => by kernel_rfl) (C36k _) ?_
    rintro e w1 ⟨rfl, hb1⟩
    have hH1 := And.intro (hH0.1.on hb1) (bchain hH0.2 hb1)
    refine ⟨.string ⟨x.toArray⟩, rfl, hH1, ?_⟩
    refine held_callX (i := 5) (o := { dst := some 16, op := Op.call { callee := Callee.value (Operand.func 69), args := #[Operand.tmp 15], argTypes := #[3] }, type := 3, pos := "ref.go:155", after := #[{ on := 4, ground := Ground.data }, { on := 2, ground := Ground.chain }], guard := none }) (F := 69) (vs := #[.int .i64 n]) (by kernel_rfl) (by kernel_rfl) (by kernel_rfl) (fun _ => by kernel_rfl) (C21 _) ?_
    rintro e w2 ⟨rfl, hb2⟩
    have hH2 := And.intro (hH1.1.on hb2) (bchain hH1.2 hb2)
    refine ⟨.int .i64 f, rfl, hH2, ?_⟩
    refine held_callX (i := 6) (o := { dst := some 17, op := Op.call { callee := Callee.value (Operand.func 44), args := #[Operand.tmp 16], argTypes := #[3] }, type := 9, pos := "ref.go:155", after := #[{ on := 5, ground := Ground.data }, { on := 5, ground := Ground.chain }], guard := none }) (F := 44) (vs := #[.int .i64 f]) (by kernel_rfl) (by kernel_rfl) (by kernel_rfl) (fun _ => by kernel_rfl) (C36f _) ?_
    rintro e w3 ⟨rfl, hb3⟩
    have hH3 := And.intro (hH2.1.on hb3) (bchain hH2.2 hb3)
    refine ⟨.string ⟨y.toArray⟩, rfl, hH3, ?_⟩
    refine held_take (i := 7) (o := { dst := some 18, op := Op.binOp BinOp.add 9 (Operand.tmp 13) (Operand.tmp 17) 9, type := 9, pos := "ref.go:155", after := #[{ on := 2, ground := Ground.data }, { on := 6, ground := Ground.data }], guard := none }) (v := .string ⟨(x ++ y).toArray⟩) (by kernel_rfl) (by kernel_rfl) (by kernel_rfl) (by kernel_rfl) (fun _ _ _ h => h) (by kernel_rfl) (fun W _ => exec_bin rfl (by kernel_rfl) (by kernel_rfl) (fun _ => by kernel_rfl) (add_lists hsum) W) hH3 ?_
    refine held_do (i := 8) (o := { dst := some 2, op := Op.assign (Operand.tmp 18), type := 9, pos := "ref.go:155", after := #[{ on := 7, ground := Ground.data }, { on := 6, ground := Ground.chain }, { on := 0, ground := Ground.phase }, { on := 1, ground := Ground.phase }, { on := 2, ground := Ground.phase }, { on := 3, ground := Ground.phase }, { on := 4, ground := Ground.phase }, { on := 5, ground := Ground.phase }, { on := 6, ground := Ground.phase }, { on := 7, ground := Ground.phase }], guard := none }) (v := .string ⟨(x ++ y).toArray⟩) (by kernel_rfl) (by kernel_rfl) (by kernel_rfl) (by kernel_rfl) hH3 ?_
    refine wpAnyH_done (by kernel_rfl) ?_ _
    simp only [Act.put, List.setIfInBounds_toArray, List.set_cons_zero, List.set_cons_succ]
    go_wp2
    go_ret
    exact ⟨rfl, hH3.2⟩
end Go.Proofs.Ytghkjbekjkejpaa.V
