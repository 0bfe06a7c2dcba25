/- The document's Compare of transactions, and the walk of the statement TxnTells. -/
import Derived.Test.YtghkjbekjkejpaaTxnCode
import Derived.Test.YtghkjbekjkejpaaTxnOne
namespace Go.Proofs.Ytghkjbekjkejpaa.O
open Go.RowKit

set_option maxRecDepth 20000 in
set_option maxHeartbeats 2000000 in
theorem refTcomp_any (t : Tx.Txn) (ov : Value) (t' : Tx.Txn) (ov' : Value) (w : World) :
    Calls Try.prog 11 #[txV t ov, txV t' ov'] w fun e w' => e = .returned (.int .i64 (Tx.comp t t')) ∧ Below w.heap.size w w' := by
  have B0 := below_new2 w (txO t ov) (txO t' ov')
  have O0 := TAt.new2 w t ov t' ov'
  obtain ⟨⟨c0, c1, c2, c3, c4, c5⟩, ⟨d0, d1, d2, d3, d4, d5⟩⟩ := id O0
  rcases Dt.compareInt_cases t.t t'.t with ⟨h, e⟩ | ⟨h, e⟩ | ⟨h, e⟩
  · rw [show Tx.comp t t' = -1 by unfold Tx.comp; rw [e]; rfl]
    clear e
    go_enter Try.func11, Try.ntmps11
    go_wp2
    go_ret
    exact ⟨rfl, B0⟩
  · rw [show Tx.comp t t' = Dt.comp t.d.1 t.d.2 t'.d.1 t'.d.2 by unfold Tx.comp; rw [e]; rfl]
    have h1 : ¬ t.t < t'.t := by omega
    have h2 : ¬ t'.t < t.t := by omega
    have C := fun W => D.refComp_any t.d.1 t.d.2 t'.d.1 t'.d.2 W
    clear e h
    go_enter Try.func11, Try.ntmps11
    go_wp2_with (go_at_call 34; refine (C _).mono ?_; rintro e w1 ⟨rfl, hb1⟩)
    go_ret
    exact ⟨rfl, bchain B0 hb1⟩
  · rw [show Tx.comp t t' = 1 by unfold Tx.comp; rw [e]; rfl]
    have h1 : ¬ t.t < t'.t := by omega
    clear e
    go_enter Try.func11, Try.ntmps11
    go_wp2
    go_ret
    exact ⟨rfl, B0⟩

/-- Both transactions in their variables, while the law is walked. -/
structure AS (w : World) (t : Tx.Txn) (ov : Value) (t' : Tx.Txn) (ov' : Value) (W : World) : Prop where
  a : TAt W w.heap.size t ov
  b : TAt W (w.heap.size + 1) t' ov'
  below : Below w.heap.size w W
theorem AS.on {w : World} {t : Tx.Txn} {ov : Value} {t' : Tx.Txn} {ov' : Value} {W W' : World} (h : AS w t ov t' ov' W) (hb : Below W.heap.size W W') : AS w t ov t' ov' W' := ⟨h.a.on hb, h.b.on hb, bchain h.below hb⟩
theorem neI {q : Nat} (h : q ≠ 0) (w : World) : (binOp .neq 3 (.int .i64 (q : Int)) (.int .i64 0)).run Try.prog w = .ok (.bool true) w := by
  have e : ((q : Int) != 0) = true := by simp; omega
  go_simp
theorem ne0 (w : World) : (binOp .neq 3 (.int .i64 0) (.int .i64 0)).run Try.prog w = .ok (.bool false) w := by go_simp

set_option maxRecDepth 20000 in
set_option maxHeartbeats 4000000 in
theorem txnTells_walk (t : Tx.Txn) (ov : Value) (t' : Tx.Txn) (ov' : Value) (w : World) (hw : txWide t) (ho : opsIn w ov t.ops) (hw' : txWide t') (ho' : opsIn w ov' t'.ops) :
    Calls Try.prog 3 #[txV t ov, txV t' ov'] w fun e w' => e = .returned (.bool true) ∧ Below w.heap.size w w' := by
  have O0 : AS w t ov t' ov' ((w.alloc (txO t ov)).alloc (txO t' ov')) := ⟨(TAt.new2 w t ov t' ov').1, (TAt.new2 w t ov t' ov').2, below_new2 w (txO t ov) (txO t' ov')⟩
  have C6 := fun W (hb : Below w.heap.size w W) => tshort_any t ov W hw (ho.on hb)
  have C6' := fun W (hb : Below w.heap.size w W) => tshort_any t' ov' W hw' (ho'.on hb)
  obtain ⟨ao, cap, rfl⟩ := ho.slice
  obtain ⟨ao', cap', rfl⟩ := ho'.slice
  cases h1 : tshort t with
  | false =>
    have C6t : ∀ W, Below w.heap.size w W → Calls Try.prog 6 #[txV t (.slice ao t.ops.length cap)] W fun e w' => e = .returned (.bool false) ∧ Below W.heap.size W w' := fun W hb => by have h := C6 W hb; rw [h1] at h; exact h
    clear hw ho hw' ho' h1 C6 C6'
    generalize t.ops.length = m at *
    generalize t'.ops.length = m' at *
    go_enter Try.func3, Try.ntmps3
    go_wp2_with (first
      | (go_at_call 6; refine (C6t _ O0.below).mono ?_; rintro e w1 ⟨rfl, hb1⟩)
      | (go_at_call 7; refine (tawake_any _).mono ?_; rintro e w2 ⟨rfl, hb2⟩))
    go_ret
    exact ⟨rfl, bchain (bchain O0.below hb1) hb2⟩
  | true =>
  have C6t : ∀ W, Below w.heap.size w W → Calls Try.prog 6 #[txV t (.slice ao t.ops.length cap)] W fun e w' => e = .returned (.bool true) ∧ Below W.heap.size W w' := fun W hb => by have h := C6 W hb; rw [h1] at h; exact h
  cases h2 : tshort t' with
  | false =>
    have C6u : ∀ W, Below w.heap.size w W → Calls Try.prog 6 #[txV t' (.slice ao' t'.ops.length cap')] W fun e w' => e = .returned (.bool false) ∧ Below W.heap.size W w' := fun W hb => by have h := C6' W hb; rw [h2] at h; exact h
    clear hw ho hw' ho' h1 h2 C6 C6'
    generalize t.ops.length = m at *
    generalize t'.ops.length = m' at *
    go_enter Try.func3, Try.ntmps3
    go_wp2_with fail
    refine (C6t _ O0.below).mono ?_
    rintro e w1 ⟨rfl, hb1⟩
    have O1 := O0.on hb1
    obtain ⟨d0, d1, d2, d3, d4, d5⟩ := id O1.b
    go_wp2_with fail
    refine (C6u _ O1.below).mono ?_
    rintro e w2 ⟨rfl, hb2⟩
    go_wp2_with fail
    refine (tawake_any _).mono ?_
    rintro e w3 ⟨rfl, hb3⟩
    go_wp2
    go_ret
    exact ⟨rfl, bchain (bchain O1.below hb2) hb3⟩
  | true =>
  have C6u : ∀ W, Below w.heap.size w W → Calls Try.prog 6 #[txV t' (.slice ao' t'.ops.length cap')] W fun e w' => e = .returned (.bool true) ∧ Below W.heap.size W w' := fun W hb => by have h := C6' W hb; rw [h2] at h; exact h
  have p1 := tshort_parts h1
  have p2 := tshort_parts h2
  have C8 := fun W (hb : Below w.heap.size w W) => refTcheck_any t _ W p1.2 (by omega) (ho.on hb)
  have C9 := fun W (hb : Below w.heap.size w W) => tcheck_any t _ W p1.2 (by omega) (ho.on hb)
  have C10 := fun W => tcomp_any t (.slice ao t.ops.length cap) t' (.slice ao' t'.ops.length cap') W
  have C11 := fun W => refTcomp_any t (.slice ao t.ops.length cap) t' (.slice ao' t'.ops.length cap') W
  have C12 := fun W (hb : Below w.heap.size w W) => tsame_any t t' _ _ W p1.2 (by omega) (ho.on hb) (ho'.on hb)
  have C13 := fun W (hb : Below w.heap.size w W) => refTsame_any t t' _ _ W p1.2 (by omega) (ho.on hb) (ho'.on hb)
  have C14 := fun W (hb : Below w.heap.size w W) hc => tcode_any t _ W hc (ho.on hb)
  have C15 := fun W (hb : Below w.heap.size w W) hc => refTcode_any t _ W hc (ho.on hb)
  clear hw ho hw' ho' h1 h2 C6 C6' p1 p2
  generalize t.ops.length = m at *
  generalize t'.ops.length = m' at *
  generalize Tx.comp t t' = z at *
  generalize Tx.same t t' = s at *
  generalize Tx.code t = cd at *
  by_cases hc : Tx.check t = 0
  · have C14t := fun W hb => C14 W hb hc
    have C15t := fun W hb => C15 W hb hc
    rw [hc] at C8 C9
    clear C14 C15
    clear hc
    go_enter Try.func3, Try.ntmps3
    go_wp2_with fail
    refine (C6t _ O0.below).mono ?_
    rintro e w1 ⟨rfl, hb1⟩
    have O1 := O0.on hb1
    obtain ⟨d0, d1, d2, d3, d4, d5⟩ := id O1.b
    go_wp2_with fail
    refine (C6u _ O1.below).mono ?_
    rintro e w2 ⟨rfl, hb2⟩
    have O2 := O1.on hb2
    clear d0 d1 d2 d3 d4 d5 O0 O1 hb1 hb2
    obtain ⟨c0, c1, c2, c3, c4, c5⟩ := id O2.a
    go_wp2_with fail
    refine (C8 _ O2.below).mono ?_
    rintro e w3 ⟨rfl, hb3⟩
    have O3 := O2.on hb3
    clear c0 c1 c2 c3 c4 c5 O2 hb3 C6t C6u C8
    go_wp2
    refine wp_region_held_drew (S := fun W => AS w t (.slice ao m cap) t' (.slice ao' m' cap') W) (by kernel_rfl) (O3.on (Below.refl _ _).drew) (fun hH0 => ?_)
    refine held_take (i := 0) (o := { dst := some 17, op := Op.load 26 (Operand.tmp 2), type := 26, pos := "law.go:30", after := #[], guard := none }) (v := txV t (.slice ao m cap)) (by kernel_rfl) (by kernel_rfl) (by kernel_rfl) (by kernel_rfl) (fun _ _ _ h => h) (by kernel_rfl) (fun _ h => exec_ldT rfl (by kernel_rfl) h.a) hH0 ?_
    refine held_take (i := 2) (o := { dst := some 19, op := Op.move (Operand.tmp 5), type := 3, pos := "law.go:30", after := #[], guard := none }) (v := .int .i64 0) (by kernel_rfl) (by kernel_rfl) (by kernel_rfl) (by kernel_rfl) (fun _ _ _ h => h) (by kernel_rfl) (fun _ _ => by kernel_rfl) hH0 ?_
    refine held_callX (i := 1) (o := { dst := some 18, op := Op.call { callee := Callee.value (Operand.func 9), args := #[Operand.tmp 17], argTypes := #[26] }, type := 30, pos := "law.go:30", after := #[{ on := 0, ground := Ground.data }], guard := none }) (F := 9) (vs := #[txV t (.slice ao m cap)]) (by kernel_rfl) (by kernel_rfl) (by kernel_rfl) (fun _ => by kernel_rfl) (C9 _ hH0.below) ?_
    rintro e u1 ⟨rfl, hb1⟩
    have hH1 := hH0.on hb1
    refine ⟨.int .i64 0, rfl, hH1, ?_⟩
    refine held_take (i := 3) (o := { dst := some 20, op := Op.binOp BinOp.eql 3 (Operand.tmp 18) (Operand.tmp 19) 3, type := 4, pos := "law.go:30", after := #[{ on := 1, ground := Ground.data }, { on := 2, ground := Ground.data }], guard := none }) (v := .bool true) (by kernel_rfl) (by kernel_rfl) (by kernel_rfl) (by kernel_rfl) (fun _ _ _ h => h) (by kernel_rfl) (fun W _ => exec_bin rfl (by kernel_rfl) (by kernel_rfl) (fun _ => by kernel_rfl) (eqi_same (0)) W) hH1 ?_
    refine held_take (i := 4) (o := { dst := some 21, op := Op.move (Operand.tmp 20), type := 4, pos := "law.go:30", after := #[{ on := 3, ground := Ground.data }, { on := 1, ground := Ground.chain }], guard := none }) (v := .bool true) (by kernel_rfl) (by kernel_rfl) (by kernel_rfl) (by kernel_rfl) (fun _ _ _ h => h) (by kernel_rfl) (fun _ _ => by kernel_rfl) hH1 ?_
    refine held_take (i := 5) (o := { dst := some 22, op := Op.load 26 (Operand.tmp 2), type := 26, pos := "law.go:30", after := #[{ on := 4, ground := Ground.guard }], guard := some (4, true) }) (v := txV t (.slice ao m cap)) (by kernel_rfl) (by kernel_rfl) (by kernel_rfl) (by kernel_rfl) (fun _ _ _ h => h) (by kernel_rfl) (fun _ h => exec_ldT rfl (by kernel_rfl) h.a) hH1 ?_
    refine held_take (i := 6) (o := { dst := some 23, op := Op.load 26 (Operand.tmp 3), type := 26, pos := "law.go:30", after := #[{ on := 4, ground := Ground.guard }], guard := some (4, true) }) (v := txV t' (.slice ao' m' cap')) (by kernel_rfl) (by kernel_rfl) (by kernel_rfl) (by kernel_rfl) (fun _ _ _ h => h) (by kernel_rfl) (fun _ h => exec_ldT rfl (by kernel_rfl) h.b) hH1 ?_
    refine held_take (i := 8) (o := { dst := some 25, op := Op.load 26 (Operand.tmp 2), type := 26, pos := "law.go:30", after := #[{ on := 4, ground := Ground.guard }], guard := some (4, true) }) (v := txV t (.slice ao m cap)) (by kernel_rfl) (by kernel_rfl) (by kernel_rfl) (by kernel_rfl) (fun _ _ _ h => h) (by kernel_rfl) (fun _ h => exec_ldT rfl (by kernel_rfl) h.a) hH1 ?_
    refine held_take (i := 9) (o := { dst := some 26, op := Op.load 26 (Operand.tmp 3), type := 26, pos := "law.go:30", after := #[{ on := 4, ground := Ground.guard }], guard := some (4, true) }) (v := txV t' (.slice ao' m' cap')) (by kernel_rfl) (by kernel_rfl) (by kernel_rfl) (by kernel_rfl) (fun _ _ _ h => h) (by kernel_rfl) (fun _ h => exec_ldT rfl (by kernel_rfl) h.b) hH1 ?_
    refine held_callX (i := 7) (o := { dst := some 24, op := Op.call { callee := Callee.value (Operand.func 10), args := #[Operand.tmp 22, Operand.tmp 23], argTypes := #[26, 26] }, type := 3, pos := "law.go:30", after := #[{ on := 5, ground := Ground.data }, { on := 6, ground := Ground.data }, { on := 4, ground := Ground.chain }, { on := 4, ground := Ground.guard }], guard := some (4, true) }) (F := 10) (vs := #[txV t (.slice ao m cap), txV t' (.slice ao' m' cap')]) (by kernel_rfl) (by kernel_rfl) (by kernel_rfl) (fun _ => by kernel_rfl) (C10 _) ?_
    rintro e u2 ⟨rfl, hb2⟩
    have hH2 := hH1.on hb2
    refine ⟨.int .i64 z, rfl, hH2, ?_⟩
    refine held_callX (i := 10) (o := { dst := some 27, op := Op.call { callee := Callee.value (Operand.func 11), args := #[Operand.tmp 25, Operand.tmp 26], argTypes := #[26, 26] }, type := 3, pos := "law.go:30", after := #[{ on := 8, ground := Ground.data }, { on := 9, ground := Ground.data }, { on := 7, ground := Ground.chain }, { on := 4, ground := Ground.guard }], guard := some (4, true) }) (F := 11) (vs := #[txV t (.slice ao m cap), txV t' (.slice ao' m' cap')]) (by kernel_rfl) (by kernel_rfl) (by kernel_rfl) (fun _ => by kernel_rfl) (C11 _) ?_
    rintro e u3 ⟨rfl, hb3⟩
    have hH3 := hH2.on hb3
    refine ⟨.int .i64 z, rfl, hH3, ?_⟩
    refine held_take (i := 11) (o := { dst := some 28, op := Op.binOp BinOp.eql 3 (Operand.tmp 24) (Operand.tmp 27) 3, type := 4, pos := "law.go:30", after := #[{ on := 7, ground := Ground.data }, { on := 10, ground := Ground.data }, { on := 4, ground := Ground.guard }], guard := some (4, true) }) (v := .bool true) (by kernel_rfl) (by kernel_rfl) (by kernel_rfl) (by kernel_rfl) (fun _ _ _ h => h) (by kernel_rfl) (fun W _ => exec_bin rfl (by kernel_rfl) (by kernel_rfl) (fun _ => by kernel_rfl) (eqi_same (z)) W) hH3 ?_
    refine held_take (i := 12) (o := { dst := some 29, op := Op.pick (Operand.tmp 21) (Operand.tmp 28) (Operand.const (Value.bool false)), type := 4, pos := "law.go:30", after := #[{ on := 4, ground := Ground.data }, { on := 11, ground := Ground.data }], guard := none }) (v := .bool true) (by kernel_rfl) (by kernel_rfl) (by kernel_rfl) (by kernel_rfl) (fun _ _ _ h => h) (by kernel_rfl) (fun _ _ => by kernel_rfl) hH3 ?_
    refine held_take (i := 13) (o := { dst := some 30, op := Op.move (Operand.tmp 29), type := 4, pos := "law.go:30", after := #[{ on := 12, ground := Ground.data }, { on := 10, ground := Ground.chain }], guard := none }) (v := .bool true) (by kernel_rfl) (by kernel_rfl) (by kernel_rfl) (by kernel_rfl) (fun _ _ _ h => h) (by kernel_rfl) (fun _ _ => by kernel_rfl) hH3 ?_
    refine held_take (i := 14) (o := { dst := some 31, op := Op.load 26 (Operand.tmp 2), type := 26, pos := "law.go:30", after := #[{ on := 13, ground := Ground.guard }], guard := some (13, true) }) (v := txV t (.slice ao m cap)) (by kernel_rfl) (by kernel_rfl) (by kernel_rfl) (by kernel_rfl) (fun _ _ _ h => h) (by kernel_rfl) (fun _ h => exec_ldT rfl (by kernel_rfl) h.a) hH3 ?_
    refine held_take (i := 15) (o := { dst := some 32, op := Op.load 26 (Operand.tmp 3), type := 26, pos := "law.go:30", after := #[{ on := 13, ground := Ground.guard }], guard := some (13, true) }) (v := txV t' (.slice ao' m' cap')) (by kernel_rfl) (by kernel_rfl) (by kernel_rfl) (by kernel_rfl) (fun _ _ _ h => h) (by kernel_rfl) (fun _ h => exec_ldT rfl (by kernel_rfl) h.b) hH3 ?_
    refine held_take (i := 17) (o := { dst := some 34, op := Op.load 26 (Operand.tmp 2), type := 26, pos := "law.go:30", after := #[{ on := 13, ground := Ground.guard }], guard := some (13, true) }) (v := txV t (.slice ao m cap)) (by kernel_rfl) (by kernel_rfl) (by kernel_rfl) (by kernel_rfl) (fun _ _ _ h => h) (by kernel_rfl) (fun _ h => exec_ldT rfl (by kernel_rfl) h.a) hH3 ?_
    refine held_take (i := 18) (o := { dst := some 35, op := Op.load 26 (Operand.tmp 3), type := 26, pos := "law.go:30", after := #[{ on := 13, ground := Ground.guard }], guard := some (13, true) }) (v := txV t' (.slice ao' m' cap')) (by kernel_rfl) (by kernel_rfl) (by kernel_rfl) (by kernel_rfl) (fun _ _ _ h => h) (by kernel_rfl) (fun _ h => exec_ldT rfl (by kernel_rfl) h.b) hH3 ?_
    refine held_callX (i := 16) (o := { dst := some 33, op := Op.call { callee := Callee.value (Operand.func 12), args := #[Operand.tmp 31, Operand.tmp 32], argTypes := #[26, 26] }, type := 4, pos := "law.go:30", after := #[{ on := 14, ground := Ground.data }, { on := 15, ground := Ground.data }, { on := 13, ground := Ground.chain }, { on := 13, ground := Ground.guard }], guard := some (13, true) }) (F := 12) (vs := #[txV t (.slice ao m cap), txV t' (.slice ao' m' cap')]) (by kernel_rfl) (by kernel_rfl) (by kernel_rfl) (fun _ => by kernel_rfl) (C12 _ hH3.below) ?_
    rintro e u4 ⟨rfl, hb4⟩
    have hH4 := hH3.on hb4
    refine ⟨.bool s, rfl, hH4, ?_⟩
    refine held_callX (i := 19) (o := { dst := some 36, op := Op.call { callee := Callee.value (Operand.func 13), args := #[Operand.tmp 34, Operand.tmp 35], argTypes := #[26, 26] }, type := 4, pos := "law.go:30", after := #[{ on := 17, ground := Ground.data }, { on := 18, ground := Ground.data }, { on := 16, ground := Ground.chain }, { on := 13, ground := Ground.guard }], guard := some (13, true) }) (F := 13) (vs := #[txV t (.slice ao m cap), txV t' (.slice ao' m' cap')]) (by kernel_rfl) (by kernel_rfl) (by kernel_rfl) (fun _ => by kernel_rfl) (C13 _ hH4.below) ?_
    rintro e u5 ⟨rfl, hb5⟩
    have hH5 := hH4.on hb5
    refine ⟨.bool s, rfl, hH5, ?_⟩
    refine held_take (i := 20) (o := { dst := some 37, op := Op.binOp BinOp.eql 4 (Operand.tmp 33) (Operand.tmp 36) 4, type := 4, pos := "law.go:30", after := #[{ on := 16, ground := Ground.data }, { on := 19, ground := Ground.data }, { on := 13, ground := Ground.guard }], guard := some (13, true) }) (v := .bool true) (by kernel_rfl) (by kernel_rfl) (by kernel_rfl) (by kernel_rfl) (fun _ _ _ h => h) (by kernel_rfl) (fun W _ => exec_bin rfl (by kernel_rfl) (by kernel_rfl) (fun _ => by kernel_rfl) (eqb_same (s)) W) hH5 ?_
    refine held_take (i := 21) (o := { dst := some 38, op := Op.pick (Operand.tmp 30) (Operand.tmp 37) (Operand.const (Value.bool false)), type := 4, pos := "law.go:30", after := #[{ on := 13, ground := Ground.data }, { on := 20, ground := Ground.data }], guard := none }) (v := .bool true) (by kernel_rfl) (by kernel_rfl) (by kernel_rfl) (by kernel_rfl) (fun _ _ _ h => h) (by kernel_rfl) (fun _ _ => by kernel_rfl) hH5 ?_
    refine held_take (i := 22) (o := { dst := some 39, op := Op.move (Operand.tmp 38), type := 4, pos := "law.go:30", after := #[{ on := 21, ground := Ground.data }, { on := 19, ground := Ground.chain }], guard := none }) (v := .bool true) (by kernel_rfl) (by kernel_rfl) (by kernel_rfl) (by kernel_rfl) (fun _ _ _ h => h) (by kernel_rfl) (fun _ _ => by kernel_rfl) hH5 ?_
    refine held_take (i := 23) (o := { dst := some 40, op := Op.move (Operand.tmp 5), type := 3, pos := "law.go:30", after := #[{ on := 22, ground := Ground.guard }], guard := some (22, true) }) (v := .int .i64 0) (by kernel_rfl) (by kernel_rfl) (by kernel_rfl) (by kernel_rfl) (fun _ _ _ h => h) (by kernel_rfl) (fun _ _ => by kernel_rfl) hH5 ?_
    refine held_take (i := 24) (o := { dst := some 41, op := Op.binOp BinOp.neq 3 (Operand.tmp 40) (Operand.const (Value.int IntKind.i64 0)) 3, type := 4, pos := "law.go:30", after := #[{ on := 23, ground := Ground.data }, { on := 22, ground := Ground.guard }], guard := some (22, true) }) (v := .bool false) (by kernel_rfl) (by kernel_rfl) (by kernel_rfl) (by kernel_rfl) (fun _ _ _ h => h) (by kernel_rfl) (fun W _ => exec_bin rfl (by kernel_rfl) (by kernel_rfl) (fun _ => by kernel_rfl) (ne0) W) hH5 ?_
    refine held_take (i := 25) (o := { dst := some 42, op := Op.move (Operand.tmp 41), type := 4, pos := "law.go:30", after := #[{ on := 24, ground := Ground.data }, { on := 22, ground := Ground.chain }, { on := 22, ground := Ground.guard }], guard := some (22, true) }) (v := .bool false) (by kernel_rfl) (by kernel_rfl) (by kernel_rfl) (by kernel_rfl) (fun _ _ _ h => h) (by kernel_rfl) (fun _ _ => by kernel_rfl) hH5 ?_
    refine held_take (i := 26) (o := { dst := some 43, op := Op.load 26 (Operand.tmp 2), type := 26, pos := "law.go:30", after := #[{ on := 25, ground := Ground.guard }], guard := some (25, false) }) (v := txV t (.slice ao m cap)) (by kernel_rfl) (by kernel_rfl) (by kernel_rfl) (by kernel_rfl) (fun _ _ _ h => h) (by kernel_rfl) (fun _ h => exec_ldT rfl (by kernel_rfl) h.a) hH5 ?_
    refine held_take (i := 28) (o := { dst := some 45, op := Op.load 26 (Operand.tmp 2), type := 26, pos := "law.go:30", after := #[{ on := 25, ground := Ground.guard }], guard := some (25, false) }) (v := txV t (.slice ao m cap)) (by kernel_rfl) (by kernel_rfl) (by kernel_rfl) (by kernel_rfl) (fun _ _ _ h => h) (by kernel_rfl) (fun _ h => exec_ldT rfl (by kernel_rfl) h.a) hH5 ?_
    refine held_callX (i := 27) (o := { dst := some 44, op := Op.call { callee := Callee.value (Operand.func 14), args := #[Operand.tmp 43], argTypes := #[26] }, type := 9, pos := "law.go:30", after := #[{ on := 26, ground := Ground.data }, { on := 25, ground := Ground.chain }, { on := 25, ground := Ground.guard }], guard := some (25, false) }) (F := 14) (vs := #[txV t (.slice ao m cap)]) (by kernel_rfl) (by kernel_rfl) (by kernel_rfl) (fun _ => by kernel_rfl) (C14t _ hH5.below) ?_
    rintro e u6 ⟨rfl, hb6⟩
    have hH6 := hH5.on hb6
    refine ⟨.string ⟨cd.toArray⟩, rfl, hH6, ?_⟩
    refine held_callX (i := 29) (o := { dst := some 46, op := Op.call { callee := Callee.value (Operand.func 15), args := #[Operand.tmp 45], argTypes := #[26] }, type := 9, pos := "law.go:30", after := #[{ on := 28, ground := Ground.data }, { on := 27, ground := Ground.chain }, { on := 25, ground := Ground.guard }], guard := some (25, false) }) (F := 15) (vs := #[txV t (.slice ao m cap)]) (by kernel_rfl) (by kernel_rfl) (by kernel_rfl) (fun _ => by kernel_rfl) (C15t _ hH6.below) ?_
    rintro e u7 ⟨rfl, hb7⟩
    have hH7 := hH6.on hb7
    refine ⟨.string ⟨cd.toArray⟩, rfl, hH7, ?_⟩
    refine held_take (i := 30) (o := { dst := some 47, op := Op.binOp BinOp.eql 9 (Operand.tmp 44) (Operand.tmp 46) 9, type := 4, pos := "law.go:30", after := #[{ on := 27, ground := Ground.data }, { on := 29, ground := Ground.data }, { on := 25, ground := Ground.guard }], guard := some (25, false) }) (v := .bool true) (by kernel_rfl) (by kernel_rfl) (by kernel_rfl) (by kernel_rfl) (fun _ _ _ h => h) (by kernel_rfl) (fun W _ => exec_bin rfl (by kernel_rfl) (by kernel_rfl) (fun _ => by kernel_rfl) (eqs_same (⟨cd.toArray⟩)) W) hH7 ?_
    refine held_take (i := 31) (o := { dst := some 48, op := Op.pick (Operand.tmp 42) (Operand.const (Value.bool true)) (Operand.tmp 47), type := 4, pos := "law.go:30", after := #[{ on := 25, ground := Ground.data }, { on := 30, ground := Ground.data }, { on := 22, ground := Ground.guard }], guard := some (22, true) }) (v := .bool true) (by kernel_rfl) (by kernel_rfl) (by kernel_rfl) (by kernel_rfl) (fun _ _ _ h => h) (by kernel_rfl) (fun _ _ => by kernel_rfl) hH7 ?_
    refine held_take (i := 32) (o := { dst := some 49, op := Op.pick (Operand.tmp 39) (Operand.tmp 48) (Operand.const (Value.bool false)), type := 4, pos := "law.go:30", after := #[{ on := 22, ground := Ground.data }, { on := 31, ground := Ground.data }], guard := none }) (v := .bool true) (by kernel_rfl) (by kernel_rfl) (by kernel_rfl) (by kernel_rfl) (fun _ _ _ h => h) (by kernel_rfl) (fun _ _ => by kernel_rfl) hH7 ?_
    refine held_take (i := 33) (o := { dst := some 50, op := Op.move (Operand.tmp 49), type := 4, pos := "law.go:30", after := #[{ on := 32, ground := Ground.data }, { on := 29, ground := Ground.chain }], guard := none }) (v := .bool true) (by kernel_rfl) (by kernel_rfl) (by kernel_rfl) (by kernel_rfl) (fun _ _ _ h => h) (by kernel_rfl) (fun _ _ => by kernel_rfl) hH7 ?_
    refine held_callX (i := 34) (o := { dst := some 51, op := Op.call { callee := Callee.value (Operand.func 7), args := #[], argTypes := #[] }, type := 4, pos := "law.go:30", after := #[{ on := 33, ground := Ground.chain }, { on := 33, ground := Ground.guard }], guard := some (33, true) }) (F := 7) (vs := #[]) (by kernel_rfl) (by kernel_rfl) (by kernel_rfl) (fun _ => by kernel_rfl) (tawake_any _) ?_
    rintro e u8 ⟨rfl, hb8⟩
    have hH8 := hH7.on hb8
    refine ⟨.bool true, rfl, hH8, ?_⟩
    refine held_take (i := 35) (o := { dst := some 52, op := Op.pick (Operand.tmp 50) (Operand.tmp 51) (Operand.const (Value.bool false)), type := 4, pos := "law.go:30", after := #[{ on := 33, ground := Ground.data }, { on := 34, ground := Ground.data }], guard := none }) (v := .bool true) (by kernel_rfl) (by kernel_rfl) (by kernel_rfl) (by kernel_rfl) (fun _ _ _ h => h) (by kernel_rfl) (fun _ _ => by kernel_rfl) hH8 ?_
    refine held_do (i := 36) (o := { dst := some 4, op := Op.assign (Operand.tmp 52), type := 4, pos := "law.go:30", after := #[{ on := 35, ground := Ground.data }, { on := 34, ground := Ground.chain }, { on := 0, ground := Ground.phase }, { on := 1, ground := Ground.phase }, { on := 2, ground := Ground.phase }, { on := 3, ground := Ground.phase }, { on := 4, ground := Ground.phase }, { on := 5, ground := Ground.phase }, { on := 6, ground := Ground.phase }, { on := 7, ground := Ground.phase }, { on := 8, ground := Ground.phase }, { on := 9, ground := Ground.phase }, { on := 10, ground := Ground.phase }, { on := 11, ground := Ground.phase }, { on := 12, ground := Ground.phase }, { on := 13, ground := Ground.phase }, { on := 14, ground := Ground.phase }, { on := 15, ground := Ground.phase }, { on := 16, ground := Ground.phase }, { on := 17, ground := Ground.phase }, { on := 18, ground := Ground.phase }, { on := 19, ground := Ground.phase }, { on := 20, ground := Ground.phase }, { on := 21, ground := Ground.phase }, { on := 22, ground := Ground.phase }, { on := 23, ground := Ground.phase }, { on := 24, ground := Ground.phase }, { on := 25, ground := Ground.phase }, { on := 26, ground := Ground.phase }, { on := 27, ground := Ground.phase }, { on := 28, ground := Ground.phase }, { on := 29, ground := Ground.phase }, { on := 30, ground := Ground.phase }, { on := 31, ground := Ground.phase }, { on := 32, ground := Ground.phase }, { on := 33, ground := Ground.phase }, { on := 34, ground := Ground.phase }, { on := 35, ground := Ground.phase }], guard := none }) (v := .bool true) (by kernel_rfl) (by kernel_rfl) (by kernel_rfl) (by kernel_rfl) hH8 ?_
    refine wpAnyH_done (by kernel_rfl) ?_ _
    simp only [Act.put, List.setIfInBounds_toArray, List.set_cons_zero, List.set_cons_succ]
    go_wp2
    go_ret
    exact ⟨rfl, hH8.below⟩
  · clear C14 C15
    generalize Tx.check t = q at *
    have hq := hc
    clear hc
    go_enter Try.func3, Try.ntmps3
    go_wp2_with fail
    refine (C6t _ O0.below).mono ?_
    rintro e w1 ⟨rfl, hb1⟩
    have O1 := O0.on hb1
    obtain ⟨d0, d1, d2, d3, d4, d5⟩ := id O1.b
    go_wp2_with fail
    refine (C6u _ O1.below).mono ?_
    rintro e w2 ⟨rfl, hb2⟩
    have O2 := O1.on hb2
    clear d0 d1 d2 d3 d4 d5 O0 O1 hb1 hb2
    obtain ⟨c0, c1, c2, c3, c4, c5⟩ := id O2.a
    go_wp2_with fail
    refine (C8 _ O2.below).mono ?_
    rintro e w3 ⟨rfl, hb3⟩
    have O3 := O2.on hb3
    clear c0 c1 c2 c3 c4 c5 O2 hb3 C6t C6u C8
    go_wp2
    refine wp_region_held_drew (S := fun W => AS w t (.slice ao m cap) t' (.slice ao' m' cap') W) (by kernel_rfl) (O3.on (Below.refl _ _).drew) (fun hH0 => ?_)
    refine held_take (i := 0) (o := { dst := some 17, op := Op.load 26 (Operand.tmp 2), type := 26, pos := "law.go:30", after := #[], guard := none }) (v := txV t (.slice ao m cap)) (by kernel_rfl) (by kernel_rfl) (by kernel_rfl) (by kernel_rfl) (fun _ _ _ h => h) (by kernel_rfl) (fun _ h => exec_ldT rfl (by kernel_rfl) h.a) hH0 ?_
    refine held_take (i := 2) (o := { dst := some 19, op := Op.move (Operand.tmp 5), type := 3, pos := "law.go:30", after := #[], guard := none }) (v := .int .i64 (q : Int)) (by kernel_rfl) (by kernel_rfl) (by kernel_rfl) (by kernel_rfl) (fun _ _ _ h => h) (by kernel_rfl) (fun _ _ => by kernel_rfl) hH0 ?_
    refine held_callX (i := 1) (o := { dst := some 18, op := Op.call { callee := Callee.value (Operand.func 9), args := #[Operand.tmp 17], argTypes := #[26] }, type := 30, pos := "law.go:30", after := #[{ on := 0, ground := Ground.data }], guard := none }) (F := 9) (vs := #[txV t (.slice ao m cap)]) (by kernel_rfl) (by kernel_rfl) (by kernel_rfl) (fun _ => by kernel_rfl) (C9 _ hH0.below) ?_
    rintro e u1 ⟨rfl, hb1⟩
    have hH1 := hH0.on hb1
    refine ⟨.int .i64 (q : Int), rfl, hH1, ?_⟩
    refine held_take (i := 3) (o := { dst := some 20, op := Op.binOp BinOp.eql 3 (Operand.tmp 18) (Operand.tmp 19) 3, type := 4, pos := "law.go:30", after := #[{ on := 1, ground := Ground.data }, { on := 2, ground := Ground.data }], guard := none }) (v := .bool true) (by kernel_rfl) (by kernel_rfl) (by kernel_rfl) (by kernel_rfl) (fun _ _ _ h => h) (by kernel_rfl) (fun W _ => exec_bin rfl (by kernel_rfl) (by kernel_rfl) (fun _ => by kernel_rfl) (eqi_same ((q : Int))) W) hH1 ?_
    refine held_take (i := 4) (o := { dst := some 21, op := Op.move (Operand.tmp 20), type := 4, pos := "law.go:30", after := #[{ on := 3, ground := Ground.data }, { on := 1, ground := Ground.chain }], guard := none }) (v := .bool true) (by kernel_rfl) (by kernel_rfl) (by kernel_rfl) (by kernel_rfl) (fun _ _ _ h => h) (by kernel_rfl) (fun _ _ => by kernel_rfl) hH1 ?_
    refine held_take (i := 5) (o := { dst := some 22, op := Op.load 26 (Operand.tmp 2), type := 26, pos := "law.go:30", after := #[{ on := 4, ground := Ground.guard }], guard := some (4, true) }) (v := txV t (.slice ao m cap)) (by kernel_rfl) (by kernel_rfl) (by kernel_rfl) (by kernel_rfl) (fun _ _ _ h => h) (by kernel_rfl) (fun _ h => exec_ldT rfl (by kernel_rfl) h.a) hH1 ?_
    refine held_take (i := 6) (o := { dst := some 23, op := Op.load 26 (Operand.tmp 3), type := 26, pos := "law.go:30", after := #[{ on := 4, ground := Ground.guard }], guard := some (4, true) }) (v := txV t' (.slice ao' m' cap')) (by kernel_rfl) (by kernel_rfl) (by kernel_rfl) (by kernel_rfl) (fun _ _ _ h => h) (by kernel_rfl) (fun _ h => exec_ldT rfl (by kernel_rfl) h.b) hH1 ?_
    refine held_take (i := 8) (o := { dst := some 25, op := Op.load 26 (Operand.tmp 2), type := 26, pos := "law.go:30", after := #[{ on := 4, ground := Ground.guard }], guard := some (4, true) }) (v := txV t (.slice ao m cap)) (by kernel_rfl) (by kernel_rfl) (by kernel_rfl) (by kernel_rfl) (fun _ _ _ h => h) (by kernel_rfl) (fun _ h => exec_ldT rfl (by kernel_rfl) h.a) hH1 ?_
    refine held_take (i := 9) (o := { dst := some 26, op := Op.load 26 (Operand.tmp 3), type := 26, pos := "law.go:30", after := #[{ on := 4, ground := Ground.guard }], guard := some (4, true) }) (v := txV t' (.slice ao' m' cap')) (by kernel_rfl) (by kernel_rfl) (by kernel_rfl) (by kernel_rfl) (fun _ _ _ h => h) (by kernel_rfl) (fun _ h => exec_ldT rfl (by kernel_rfl) h.b) hH1 ?_
    refine held_callX (i := 7) (o := { dst := some 24, op := Op.call { callee := Callee.value (Operand.func 10), args := #[Operand.tmp 22, Operand.tmp 23], argTypes := #[26, 26] }, type := 3, pos := "law.go:30", after := #[{ on := 5, ground := Ground.data }, { on := 6, ground := Ground.data }, { on := 4, ground := Ground.chain }, { on := 4, ground := Ground.guard }], guard := some (4, true) }) (F := 10) (vs := #[txV t (.slice ao m cap), txV t' (.slice ao' m' cap')]) (by kernel_rfl) (by kernel_rfl) (by kernel_rfl) (fun _ => by kernel_rfl) (C10 _) ?_
    rintro e u2 ⟨rfl, hb2⟩
    have hH2 := hH1.on hb2
    refine ⟨.int .i64 z, rfl, hH2, ?_⟩
    refine held_callX (i := 10) (o := { dst := some 27, op := Op.call { callee := Callee.value (Operand.func 11), args := #[Operand.tmp 25, Operand.tmp 26], argTypes := #[26, 26] }, type := 3, pos := "law.go:30", after := #[{ on := 8, ground := Ground.data }, { on := 9, ground := Ground.data }, { on := 7, ground := Ground.chain }, { on := 4, ground := Ground.guard }], guard := some (4, true) }) (F := 11) (vs := #[txV t (.slice ao m cap), txV t' (.slice ao' m' cap')]) (by kernel_rfl) (by kernel_rfl) (by kernel_rfl) (fun _ => by kernel_rfl) (C11 _) ?_
    rintro e u3 ⟨rfl, hb3⟩
    have hH3 := hH2.on hb3
    refine ⟨.int .i64 z, rfl, hH3, ?_⟩
    refine held_take (i := 11) (o := { dst := some 28, op := Op.binOp BinOp.eql 3 (Operand.tmp 24) (Operand.tmp 27) 3, type := 4, pos := "law.go:30", after := #[{ on := 7, ground := Ground.data }, { on := 10, ground := Ground.data }, { on := 4, ground := Ground.guard }], guard := some (4, true) }) (v := .bool true) (by kernel_rfl) (by kernel_rfl) (by kernel_rfl) (by kernel_rfl) (fun _ _ _ h => h) (by kernel_rfl) (fun W _ => exec_bin rfl (by kernel_rfl) (by kernel_rfl) (fun _ => by kernel_rfl) (eqi_same (z)) W) hH3 ?_
    refine held_take (i := 12) (o := { dst := some 29, op := Op.pick (Operand.tmp 21) (Operand.tmp 28) (Operand.const (Value.bool false)), type := 4, pos := "law.go:30", after := #[{ on := 4, ground := Ground.data }, { on := 11, ground := Ground.data }], guard := none }) (v := .bool true) (by kernel_rfl) (by kernel_rfl) (by kernel_rfl) (by kernel_rfl) (fun _ _ _ h => h) (by kernel_rfl) (fun _ _ => by kernel_rfl) hH3 ?_
    refine held_take (i := 13) (o := { dst := some 30, op := Op.move (Operand.tmp 29), type := 4, pos := "law.go:30", after := #[{ on := 12, ground := Ground.data }, { on := 10, ground := Ground.chain }], guard := none }) (v := .bool true) (by kernel_rfl) (by kernel_rfl) (by kernel_rfl) (by kernel_rfl) (fun _ _ _ h => h) (by kernel_rfl) (fun _ _ => by kernel_rfl) hH3 ?_
    refine held_take (i := 14) (o := { dst := some 31, op := Op.load 26 (Operand.tmp 2), type := 26, pos := "law.go:30", after := #[{ on := 13, ground := Ground.guard }], guard := some (13, true) }) (v := txV t (.slice ao m cap)) (by kernel_rfl) (by kernel_rfl) (by kernel_rfl) (by kernel_rfl) (fun _ _ _ h => h) (by kernel_rfl) (fun _ h => exec_ldT rfl (by kernel_rfl) h.a) hH3 ?_
    refine held_take (i := 15) (o := { dst := some 32, op := Op.load 26 (Operand.tmp 3), type := 26, pos := "law.go:30", after := #[{ on := 13, ground := Ground.guard }], guard := some (13, true) }) (v := txV t' (.slice ao' m' cap')) (by kernel_rfl) (by kernel_rfl) (by kernel_rfl) (by kernel_rfl) (fun _ _ _ h => h) (by kernel_rfl) (fun _ h => exec_ldT rfl (by kernel_rfl) h.b) hH3 ?_
    refine held_take (i := 17) (o := { dst := some 34, op := Op.load 26 (Operand.tmp 2), type := 26, pos := "law.go:30", after := #[{ on := 13, ground := Ground.guard }], guard := some (13, true) }) (v := txV t (.slice ao m cap)) (by kernel_rfl) (by kernel_rfl) (by kernel_rfl) (by kernel_rfl) (fun _ _ _ h => h) (by kernel_rfl) (fun _ h => exec_ldT rfl (by kernel_rfl) h.a) hH3 ?_
    refine held_take (i := 18) (o := { dst := some 35, op := Op.load 26 (Operand.tmp 3), type := 26, pos := "law.go:30", after := #[{ on := 13, ground := Ground.guard }], guard := some (13, true) }) (v := txV t' (.slice ao' m' cap')) (by kernel_rfl) (by kernel_rfl) (by kernel_rfl) (by kernel_rfl) (fun _ _ _ h => h) (by kernel_rfl) (fun _ h => exec_ldT rfl (by kernel_rfl) h.b) hH3 ?_
    refine held_callX (i := 16) (o := { dst := some 33, op := Op.call { callee := Callee.value (Operand.func 12), args := #[Operand.tmp 31, Operand.tmp 32], argTypes := #[26, 26] }, type := 4, pos := "law.go:30", after := #[{ on := 14, ground := Ground.data }, { on := 15, ground := Ground.data }, { on := 13, ground := Ground.chain }, { on := 13, ground := Ground.guard }], guard := some (13, true) }) (F := 12) (vs := #[txV t (.slice ao m cap), txV t' (.slice ao' m' cap')]) (by kernel_rfl) (by kernel_rfl) (by kernel_rfl) (fun _ => by kernel_rfl) (C12 _ hH3.below) ?_
    rintro e u4 ⟨rfl, hb4⟩
    have hH4 := hH3.on hb4
    refine ⟨.bool s, rfl, hH4, ?_⟩
    refine held_callX (i := 19) (o := { dst := some 36, op := Op.call { callee := Callee.value (Operand.func 13), args := #[Operand.tmp 34, Operand.tmp 35], argTypes := #[26, 26] }, type := 4, pos := "law.go:30", after := #[{ on := 17, ground := Ground.data }, { on := 18, ground := Ground.data }, { on := 16, ground := Ground.chain }, { on := 13, ground := Ground.guard }], guard := some (13, true) }) (F := 13) (vs := #[txV t (.slice ao m cap), txV t' (.slice ao' m' cap')]) (by kernel_rfl) (by kernel_rfl) (by kernel_rfl) (fun _ => by kernel_rfl) (C13 _ hH4.below) ?_
    rintro e u5 ⟨rfl, hb5⟩
    have hH5 := hH4.on hb5
    refine ⟨.bool s, rfl, hH5, ?_⟩
    refine held_take (i := 20) (o := { dst := some 37, op := Op.binOp BinOp.eql 4 (Operand.tmp 33) (Operand.tmp 36) 4, type := 4, pos := "law.go:30", after := #[{ on := 16, ground := Ground.data }, { on := 19, ground := Ground.data }, { on := 13, ground := Ground.guard }], guard := some (13, true) }) (v := .bool true) (by kernel_rfl) (by kernel_rfl) (by kernel_rfl) (by kernel_rfl) (fun _ _ _ h => h) (by kernel_rfl) (fun W _ => exec_bin rfl (by kernel_rfl) (by kernel_rfl) (fun _ => by kernel_rfl) (eqb_same (s)) W) hH5 ?_
    refine held_take (i := 21) (o := { dst := some 38, op := Op.pick (Operand.tmp 30) (Operand.tmp 37) (Operand.const (Value.bool false)), type := 4, pos := "law.go:30", after := #[{ on := 13, ground := Ground.data }, { on := 20, ground := Ground.data }], guard := none }) (v := .bool true) (by kernel_rfl) (by kernel_rfl) (by kernel_rfl) (by kernel_rfl) (fun _ _ _ h => h) (by kernel_rfl) (fun _ _ => by kernel_rfl) hH5 ?_
    refine held_take (i := 22) (o := { dst := some 39, op := Op.move (Operand.tmp 38), type := 4, pos := "law.go:30", after := #[{ on := 21, ground := Ground.data }, { on := 19, ground := Ground.chain }], guard := none }) (v := .bool true) (by kernel_rfl) (by kernel_rfl) (by kernel_rfl) (by kernel_rfl) (fun _ _ _ h => h) (by kernel_rfl) (fun _ _ => by kernel_rfl) hH5 ?_
    refine held_take (i := 23) (o := { dst := some 40, op := Op.move (Operand.tmp 5), type := 3, pos := "law.go:30", after := #[{ on := 22, ground := Ground.guard }], guard := some (22, true) }) (v := .int .i64 (q : Int)) (by kernel_rfl) (by kernel_rfl) (by kernel_rfl) (by kernel_rfl) (fun _ _ _ h => h) (by kernel_rfl) (fun _ _ => by kernel_rfl) hH5 ?_
    refine held_take (i := 24) (o := { dst := some 41, op := Op.binOp BinOp.neq 3 (Operand.tmp 40) (Operand.const (Value.int IntKind.i64 0)) 3, type := 4, pos := "law.go:30", after := #[{ on := 23, ground := Ground.data }, { on := 22, ground := Ground.guard }], guard := some (22, true) }) (v := .bool true) (by kernel_rfl) (by kernel_rfl) (by kernel_rfl) (by kernel_rfl) (fun _ _ _ h => h) (by kernel_rfl) (fun W _ => exec_bin rfl (by kernel_rfl) (by kernel_rfl) (fun _ => by kernel_rfl) (neI hq) W) hH5 ?_
    refine held_take (i := 25) (o := { dst := some 42, op := Op.move (Operand.tmp 41), type := 4, pos := "law.go:30", after := #[{ on := 24, ground := Ground.data }, { on := 22, ground := Ground.chain }, { on := 22, ground := Ground.guard }], guard := some (22, true) }) (v := .bool true) (by kernel_rfl) (by kernel_rfl) (by kernel_rfl) (by kernel_rfl) (fun _ _ _ h => h) (by kernel_rfl) (fun _ _ => by kernel_rfl) hH5 ?_
    refine held_skip (i := 26) (o := { dst := some 43, op := Op.load 26 (Operand.tmp 2), type := 26, pos := "law.go:30", after := #[{ on := 25, ground := Ground.guard }], guard := some (25, false) }) (by kernel_rfl) (by kernel_rfl) (by kernel_rfl) (by kernel_rfl) (fun _ _ _ h => h) (by kernel_rfl) hH5 ?_
    refine held_skip (i := 28) (o := { dst := some 45, op := Op.load 26 (Operand.tmp 2), type := 26, pos := "law.go:30", after := #[{ on := 25, ground := Ground.guard }], guard := some (25, false) }) (by kernel_rfl) (by kernel_rfl) (by kernel_rfl) (by kernel_rfl) (fun _ _ _ h => h) (by kernel_rfl) hH5 ?_
    refine held_skip (i := 27) (o := { dst := some 44, op := Op.call { callee := Callee.value (Operand.func 14), args := #[Operand.tmp 43], argTypes := #[26] }, type := 9, pos := "law.go:30", after := #[{ on := 26, ground := Ground.data }, { on := 25, ground := Ground.chain }, { on := 25, ground := Ground.guard }], guard := some (25, false) }) (by kernel_rfl) (by kernel_rfl) (by kernel_rfl) (by kernel_rfl) (fun _ _ _ h => h) (by kernel_rfl) hH5 ?_
    refine held_skip (i := 29) (o := { dst := some 46, op := Op.call { callee := Callee.value (Operand.func 15), args := #[Operand.tmp 45], argTypes := #[26] }, type := 9, pos := "law.go:30", after := #[{ on := 28, ground := Ground.data }, { on := 27, ground := Ground.chain }, { on := 25, ground := Ground.guard }], guard := some (25, false) }) (by kernel_rfl) (by kernel_rfl) (by kernel_rfl) (by kernel_rfl) (fun _ _ _ h => h) (by kernel_rfl) hH5 ?_
    refine held_skip (i := 30) (o := { dst := some 47, op := Op.binOp BinOp.eql 9 (Operand.tmp 44) (Operand.tmp 46) 9, type := 4, pos := "law.go:30", after := #[{ on := 27, ground := Ground.data }, { on := 29, ground := Ground.data }, { on := 25, ground := Ground.guard }], guard := some (25, false) }) (by kernel_rfl) (by kernel_rfl) (by kernel_rfl) (by kernel_rfl) (fun _ _ _ h => h) (by kernel_rfl) hH5 ?_
    refine held_take (i := 31) (o := { dst := some 48, op := Op.pick (Operand.tmp 42) (Operand.const (Value.bool true)) (Operand.tmp 47), type := 4, pos := "law.go:30", after := #[{ on := 25, ground := Ground.data }, { on := 30, ground := Ground.data }, { on := 22, ground := Ground.guard }], guard := some (22, true) }) (v := .bool true) (by kernel_rfl) (by kernel_rfl) (by kernel_rfl) (by kernel_rfl) (fun _ _ _ h => h) (by kernel_rfl) (fun _ _ => by kernel_rfl) hH5 ?_
    refine held_take (i := 32) (o := { dst := some 49, op := Op.pick (Operand.tmp 39) (Operand.tmp 48) (Operand.const (Value.bool false)), type := 4, pos := "law.go:30", after := #[{ on := 22, ground := Ground.data }, { on := 31, ground := Ground.data }], guard := none }) (v := .bool true) (by kernel_rfl) (by kernel_rfl) (by kernel_rfl) (by kernel_rfl) (fun _ _ _ h => h) (by kernel_rfl) (fun _ _ => by kernel_rfl) hH5 ?_
    refine held_take (i := 33) (o := { dst := some 50, op := Op.move (Operand.tmp 49), type := 4, pos := "law.go:30", after := #[{ on := 32, ground := Ground.data }, { on := 29, ground := Ground.chain }], guard := none }) (v := .bool true) (by kernel_rfl) (by kernel_rfl) (by kernel_rfl) (by kernel_rfl) (fun _ _ _ h => h) (by kernel_rfl) (fun _ _ => by kernel_rfl) hH5 ?_
    refine held_callX (i := 34) (o := { dst := some 51, op := Op.call { callee := Callee.value (Operand.func 7), args := #[], argTypes := #[] }, type := 4, pos := "law.go:30", after := #[{ on := 33, ground := Ground.chain }, { on := 33, ground := Ground.guard }], guard := some (33, true) }) (F := 7) (vs := #[]) (by kernel_rfl) (by kernel_rfl) (by kernel_rfl) (fun _ => by kernel_rfl) (tawake_any _) ?_
    rintro e u6 ⟨rfl, hb6⟩
    have hH6 := hH5.on hb6
    refine ⟨.bool true, rfl, hH6, ?_⟩
    refine held_take (i := 35) (o := { dst := some 52, op := Op.pick (Operand.tmp 50) (Operand.tmp 51) (Operand.const (Value.bool false)), type := 4, pos := "law.go:30", after := #[{ on := 33, ground := Ground.data }, { on := 34, ground := Ground.data }], guard := none }) (v := .bool true) (by kernel_rfl) (by kernel_rfl) (by kernel_rfl) (by kernel_rfl) (fun _ _ _ h => h) (by kernel_rfl) (fun _ _ => by kernel_rfl) hH6 ?_
    refine held_do (i := 36) (o := { dst := some 4, op := Op.assign (Operand.tmp 52), type := 4, pos := "law.go:30", after := #[{ on := 35, ground := Ground.data }, { on := 34, ground := Ground.chain }, { on := 0, ground := Ground.phase }, { on := 1, ground := Ground.phase }, { on := 2, ground := Ground.phase }, { on := 3, ground := Ground.phase }, { on := 4, ground := Ground.phase }, { on := 5, ground := Ground.phase }, { on := 6, ground := Ground.phase }, { on := 7, ground := Ground.phase }, { on := 8, ground := Ground.phase }, { on := 9, ground := Ground.phase }, { on := 10, ground := Ground.phase }, { on := 11, ground := Ground.phase }, { on := 12, ground := Ground.phase }, { on := 13, ground := Ground.phase }, { on := 14, ground := Ground.phase }, { on := 15, ground := Ground.phase }, { on := 16, ground := Ground.phase }, { on := 17, ground := Ground.phase }, { on := 18, ground := Ground.phase }, { on := 19, ground := Ground.phase }, { on := 20, ground := Ground.phase }, { on := 21, ground := Ground.phase }, { on := 22, ground := Ground.phase }, { on := 23, ground := Ground.phase }, { on := 24, ground := Ground.phase }, { on := 25, ground := Ground.phase }, { on := 26, ground := Ground.phase }, { on := 27, ground := Ground.phase }, { on := 28, ground := Ground.phase }, { on := 29, ground := Ground.phase }, { on := 30, ground := Ground.phase }, { on := 31, ground := Ground.phase }, { on := 32, ground := Ground.phase }, { on := 33, ground := Ground.phase }, { on := 34, ground := Ground.phase }, { on := 35, ground := Ground.phase }], guard := none }) (v := .bool true) (by kernel_rfl) (by kernel_rfl) (by kernel_rfl) (by kernel_rfl) hH6 ?_
    refine wpAnyH_done (by kernel_rfl) ?_ _
    simp only [Act.put, List.setIfInBounds_toArray, List.set_cons_zero, List.set_cons_succ]
    go_wp2
    go_ret
    exact ⟨rfl, hH6.below⟩
end Go.Proofs.Ytghkjbekjkejpaa.O
/- Its arguments in the order in which they come in. -/
namespace Go.Proofs.Ytghkjbekjkejpaa
theorem txnTells_walk (t : Tx.Txn) (ov : Value) (t' : Tx.Txn) (ov' : Value) (w : World) (hw : O.txWide t) (ho : O.opsIn w ov t.ops) (hw' : O.txWide t') (ho' : O.opsIn w ov' t'.ops) :
    Calls Try.prog 3 #[O.txV t ov, O.txV t' ov'] w fun e w' => e = .returned (.bool true) ∧ Go.RowKit.Below w.heap.size w w' := O.txnTells_walk t ov t' ov' w hw ho hw' ho'
end Go.Proofs.Ytghkjbekjkejpaa
