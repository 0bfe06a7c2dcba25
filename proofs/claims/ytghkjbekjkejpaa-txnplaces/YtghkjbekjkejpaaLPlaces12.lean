/- 'short' of the statements, and the walk of the statement TxnPlaces. -/
import Derived.Test.YtghkjbekjkejpaaTxnPutR
import Derived.Test.YtghkjbekjkejpaaTxnOne
import Derived.Test.YtghkjbekjkejpaaTxnRises
namespace Go.Proofs.Ytghkjbekjkejpaa.O
open Go.RowKit

def shortL (l : List Tx.Txn) : Bool := decide (l.length ≤ 30) && l.all tshort
theorem shortL_parts {l : List Tx.Txn} (h : shortL l = true) : l.length ≤ 30 ∧ ∀ t ∈ l, t.ops.length ≤ 1000000 ∧ ∀ o ∈ t.ops, Os.short o = true := by
  simp only [shortL, Bool.and_eq_true, decide_eq_true_eq] at h
  refine ⟨h.1, fun t ht => ?_⟩
  have := tshort_parts (List.all_eq_true.1 h.2 t ht)
  exact ⟨by omega, this.2⟩
set_option maxRecDepth 20000 in
set_option maxHeartbeats 2000000 in
theorem shortL_any (v : Value) (l : List Tx.Txn) (w : World) (hw : ∀ t ∈ l, txWide t) (hv : txsIn w v l) :
    Calls Try.prog 16 #[v] w fun e w' => e = .returned (.bool (shortL l)) ∧ Below w.heap.size w w' := by
  have HV : Hid (txsIn w v l) := hv
  obtain ⟨ao, cap, rfl, -⟩ := hv
  obtain ⟨m, hm⟩ : ∃ m, m = l.length := ⟨_, rfl⟩
  have HM : Hid (m = l.length) := hm
  have HW : Hid (∀ t ∈ l, txWide t) := hw
  rw [← hm] at HV ⊢
  clear hw
  by_cases h30 : m ≤ 30
  rotate_left
  · rw [show shortL l = false by unfold shortL; rw [decide_eq_false (by omega)]; rfl]
    have h30' : (30 : Int) < (m : Int) := by omega
    clear hm
    go_enter Try.func16, Try.ntmps16
    go_wp2
    go_ret
    exact ⟨rfl, Below.refl _ _⟩
  have h30' : ¬ (30 : Int) < (m : Int) := by omega
  have HT : Hid (shortL l = l.all tshort) := by
    have h : shortL l = l.all tshort := by unfold shortL; rw [decide_eq_true (by omega)]; rfl
    exact h
  rw [HT.out]
  clear hm
  go_enter Try.func16, Try.ntmps16
  go_wp2
  go_loopw [3] (fun i wr => ∃ k : Nat, k ≤ m ∧ i = .int .i64 k ∧ Hid (allTo tshort l k) ∧ Below w.heap.size w wr) (fun i _ => m - (intOf i).toNat)
  case atStart => exact ⟨0, by omega, rfl, by have h := allTo_zero tshort l; exact h, Below.refl _ _⟩
  case round =>
    obtain ⟨k, hk, rfl, HS, hbw⟩ := hrel
    by_cases hlt : k < m
    · have hkx : k < l.length := by have := HM.out; omega
      obtain ⟨ad, ov, rfl, hA, ho⟩ := (HV.out.on hbw).get hkx
      have hwd := HW.out _ (List.getElem_mem hkx)
      have hi0 : (0 : Int) ≤ (k : Int) := by omega
      have hi1 : (k : Int) < (m : Int) := by omega
      have C17 := tshort_any _ ov wr hwd ho
      obtain ⟨a0, a1, a2, a3, a4, a5⟩ := hA
      cases hs : tshort l[k] with
      | false =>
        have HL : Hid (l.all tshort = false) := by have h := all_not hkx hs; exact h
        rw [hs] at C17
        clear hwd ho HS hs
        generalize l[k] = x at *
        go_wp2_with (go_at_call 6; refine C17.mono ?_; rintro e w2 ⟨rfl, hb2⟩)
        go_ret
        exact ⟨ret_bool HL.out.symm, bchain hbw hb2⟩
      | true =>
        have HY' : Hid (allTo tshort l (k + 1)) := by have h := allTo_step HS.out hkx hs; exact h
        rw [hs] at C17
        clear hwd ho HS hs
        generalize l[k] = x at *
        go_wp2_with (go_at_call 6; refine C17.mono ?_; rintro e w2 ⟨rfl, hb2⟩)
        go_roundw
        case rel => exact ⟨k + 1, by omega, by go_num, HY', bchain hbw hb2⟩
        case measure => simp [intOf]; omega
    · have HL : Hid (l.all tshort = true) := by
        have h := allTo_end HS.out (by have := HM.out; omega)
        exact h
      go_wp2
      go_ret
      exact ⟨ret_bool HL.out.symm, hbw⟩
theorem put_len_le {t : Tx.Txn} : ∀ l : List Tx.Txn, (Tx.put l t).length ≤ l.length + 1
  | [] => by simp [Tx.put]
  | y :: r => by
    unfold Tx.put
    split
    · simp
    · split
      · simp
      · have := put_len_le (t := t) r
        simp only [List.length_cons]
        omega
theorem find_put {l : List Tx.Txn} {t : Tx.Txn} (hp : Tx.Rises l) : 0 ≤ Tx.find (Tx.put l t) t.d := by
  have hx : ∃ x ∈ Tx.put l t, x.d = t.d := by
    by_cases hf : ∃ x ∈ l, x.d = t.d
    · obtain ⟨x, hx, he⟩ := hf
      exact ⟨x, Tx.put_old x hx, he⟩
    · exact ⟨t, Tx.put_new fun x hx e => hf ⟨x, hx, e⟩, rfl⟩
  obtain ⟨x, hx, he⟩ := hx
  obtain ⟨i, hi, rfl⟩ := List.mem_iff_getElem.1 hx
  rw [Tx.find_at (Tx.put_rises hp) hi he]
  omega
theorem put_short {l : List Tx.Txn} {t : Tx.Txn} (hl : ∀ x ∈ l, x.ops.length ≤ 1000000 ∧ ∀ o ∈ x.ops, Os.short o = true) (ht : t.ops.length ≤ 1000000 ∧ ∀ o ∈ t.ops, Os.short o = true) :
    ∀ x ∈ Tx.put l t, x.ops.length ≤ 1000000 ∧ ∀ o ∈ x.ops, Os.short o = true := fun x hx => by
  rcases Tx.put_mem x hx with rfl | hx
  · exact ht
  · exact hl x hx
/-- What stands while the law is walked: the transaction's variable, the list that was made; what was there. -/
structure PL (w : World) (t : Tx.Txn) (ov r1 : Value) (ms : List Tx.Txn) (W : World) : Prop where
  a : TAt W w.heap.size t ov
  m : txsIn W r1 ms
  below : Below w.heap.size w W
theorem PL.on {w : World} {t : Tx.Txn} {ov r1 : Value} {ms : List Tx.Txn} {W W' : World} (h : PL w t ov r1 ms W) (hb : Below W.heap.size W W') : PL w t ov r1 ms W' := ⟨h.a.on hb, h.m.on hb, bchain h.below hb⟩
theorem exec_ldTd {o : Oper} {a : Act} {w : World} {b : Nat} {t : Tx.Txn} {ov : Value} {x : Operand} (ho : o.op = .load 23 x) (hx : a.eval x = .pointer (some ⟨b, 0, none⟩)) (h : TAt w b t ov) :
    (execOp a.eval o).run Try.prog w = .ok (.value (dV t.d)) w := by
  obtain ⟨h0, h1, -, -, -, -⟩ := h
  unfold execOp
  simp only [ho, hx, Sem.run_bind]
  go_simp
theorem exec_tfld0 {o : Oper} {a : Act} {b : Nat} {x : Operand} (ho : o.op = .fieldAddr 26 x 0) (hx : a.eval x = .pointer (some ⟨b, 0, none⟩)) (w : World) :
    (execOp a.eval o).run Try.prog w = .ok (.value (.pointer (some ⟨b, 0, none⟩))) w := exec_tfld (i := 0) (by omega) ho hx w
theorem geI {q : Int} (h : 0 ≤ q) (w : World) : (binOp .geq 3 (.int .i64 q) (.int .i64 0)).run Try.prog w = .ok (.bool true) w := by go_simp

set_option maxRecDepth 20000 in
set_option maxHeartbeats 4000000 in
theorem txnPlaces_walk (v : Value) (l : List Tx.Txn) (t : Tx.Txn) (ov : Value) (w : World) (hw : ∀ t ∈ l, txWide t) (hv : txsIn w v l) (hwt : txWide t) (ho : opsIn w ov t.ops) :
    Calls Try.prog 4 #[v, txV t ov] w fun e w' => e = .returned (.bool true) ∧ Below w.heap.size w w' := by
  have O0 := TAt.new w t ov
  have B0 := below_new w (txO t ov)
  have C16 := fun W (hb : Below w.heap.size w W) => shortL_any v l W hw (hv.on hb)
  have C6 := fun W (hb : Below w.heap.size w W) => tshort_any t ov W hwt (ho.on hb)
  obtain ⟨oa, oc, rfl⟩ := ho.slice
  have HO : Hid (opsIn w (.slice oa t.ops.length oc) t.ops) := ho
  obtain ⟨om, hom⟩ : ∃ om, om = t.ops.length := ⟨_, rfl⟩
  rw [← hom] at HO C6 O0 B0 ⊢
  cases h1 : shortL l with
  | false =>
    have C16t : ∀ W, Below w.heap.size w W → Calls Try.prog 16 #[v] W fun e w' => e = .returned (.bool false) ∧ Below W.heap.size W w' := fun W hb => by have h := C16 W hb; rw [h1] at h; exact h
    clear hw hv hwt ho hom h1 C16 C6
    go_enter Try.func4, Try.ntmps4
    go_wp2_with (first
      | (go_at_call 16; refine (C16t _ B0).mono ?_; rintro e w1 ⟨rfl, hb1⟩)
      | (go_at_call 7; refine (tawake_any _).mono ?_; rintro e w2 ⟨rfl, hb2⟩))
    go_ret
    exact ⟨rfl, bchain (bchain B0 hb1) hb2⟩
  | true =>
  have C16t : ∀ W, Below w.heap.size w W → Calls Try.prog 16 #[v] W fun e w' => e = .returned (.bool true) ∧ Below W.heap.size W w' := fun W hb => by have h := C16 W hb; rw [h1] at h; exact h
  cases h2 : tshort t with
  | false =>
    have C6t : ∀ W, Below w.heap.size w W → Calls Try.prog 6 #[txV t (.slice oa om oc)] W fun e w' => e = .returned (.bool false) ∧ Below W.heap.size W w' := fun W hb => by have h := C6 W hb; rw [h2] at h; exact h
    clear hw hv hwt ho hom h1 h2 C16 C6
    go_enter Try.func4, Try.ntmps4
    go_wp2_with fail
    refine (C16t _ B0).mono ?_
    rintro e w1 ⟨rfl, hb1⟩
    have O1 := O0.on hb1
    have B1 := bchain B0 hb1
    obtain ⟨c0, c1, c2, c3, c4, c5⟩ := id O1
    go_wp2_with fail
    refine (C6t _ B1).mono ?_
    rintro e w2 ⟨rfl, hb2⟩
    go_wp2_with fail
    refine (tawake_any _).mono ?_
    rintro e w3 ⟨rfl, hb3⟩
    go_wp2
    go_ret
    exact ⟨rfl, bchain (bchain B1 hb2) hb3⟩
  | true =>
  have C6t : ∀ W, Below w.heap.size w W → Calls Try.prog 6 #[txV t (.slice oa om oc)] W fun e w' => e = .returned (.bool true) ∧ Below W.heap.size W w' := fun W hb => by have h := C6 W hb; rw [h2] at h; exact h
  obtain ⟨hn, hsh⟩ := shortL_parts h1
  have hst := tshort_parts h2
  have C17 := fun W (hb : Below w.heap.size w W) => trises_any v l W (hv.on hb) (by omega)
  have C18 := fun W (hb : Below w.heap.size w W) => refTrises_any v l W (hv.on hb) (by omega)
  cases h3 : Tx.rises l with
  | false =>
    have C17t : ∀ W, Below w.heap.size w W → Calls Try.prog 17 #[v] W fun e w' => e = .returned (.bool false) ∧ Below W.heap.size W w' := fun W hb => by have h := C17 W hb; rw [h3] at h; exact h
    have C18t : ∀ W, Below w.heap.size w W → Calls Try.prog 18 #[v] W fun e w' => e = .returned (.bool false) ∧ Below W.heap.size W w' := fun W hb => by have h := C18 W hb; rw [h3] at h; exact h
    clear hw hv hwt ho hom h1 h2 h3 hsh hst hn C16 C6 C17 C18
    go_enter Try.func4, Try.ntmps4
    go_wp2_with fail
    refine (C16t _ B0).mono ?_
    rintro e w1 ⟨rfl, hb1⟩
    have O1 := O0.on hb1
    have B1 := bchain B0 hb1
    obtain ⟨c0, c1, c2, c3, c4, c5⟩ := id O1
    go_wp2_with fail
    refine (C6t _ B1).mono ?_
    rintro e w2 ⟨rfl, hb2⟩
    have B2 := bchain B1 hb2
    go_wp2_with fail
    refine (C17t _ B2).mono ?_
    rintro e w3 ⟨rfl, hb3⟩
    have B3 := bchain B2 hb3
    go_wp2_with fail
    refine (C18t _ B3).mono ?_
    rintro e w4 ⟨rfl, hb4⟩
    have B4 := bchain B3 hb4
    go_wp2_with fail
    refine (C18t _ B4).mono ?_
    rintro e w5 ⟨rfl, hb5⟩
    go_wp2_with fail
    refine (tawake_any _).mono ?_
    rintro e w6 ⟨rfl, hb6⟩
    go_wp2
    go_ret
    exact ⟨rfl, bchain (bchain B4 hb5) hb6⟩
  | true =>
  have C17t : ∀ W, Below w.heap.size w W → Calls Try.prog 17 #[v] W fun e w' => e = .returned (.bool true) ∧ Below W.heap.size W w' := fun W hb => by have h := C17 W hb; rw [h3] at h; exact h
  have C18t : ∀ W, Below w.heap.size w W → Calls Try.prog 18 #[v] W fun e w' => e = .returned (.bool true) ∧ Below W.heap.size W w' := fun W hb => by have h := C18 W hb; rw [h3] at h; exact h
  have hp := Tx.rises_iff.1 h3
  have hpp := Tx.put_rises (t := t) hp
  have hpl := put_len_le (t := t) l
  have hps := put_short hsh ⟨by omega, hst.2⟩
  have C19 := fun W (hb : Below w.heap.size w W) => tput_any v l t _ W (hv.on hb) (HO.out.on hb) (by omega) hp
  have C23 := fun W (hb : Below w.heap.size w W) => refTput_any v l t _ W (hv.on hb) (HO.out.on hb) (by omega) hp
  have C20 := fun W (hb : Below w.heap.size w W) => tfind_any v l t.d W (hv.on hb) (by omega) hp
  have C21 := fun W (hb : Below w.heap.size w W) => refTfind_any v l t.d W (hv.on hb) (by omega)
  have C22 := fun W r1 r2 (h1 : txsIn W r1 (Tx.put l t)) (h2 : txsIn W r2 (Tx.put l t)) => tall_any r1 r2 (Tx.put l t) W hps (by omega) h1 h2
  have C18b := fun W r1 (h1 : txsIn W r1 (Tx.put l t)) => refTrises_any r1 (Tx.put l t) W h1 (by omega)
  rw [Tx.rises_iff.2 hpp] at C18b
  have C20b := fun W r1 (h1 : txsIn W r1 (Tx.put l t)) => tfind_any r1 (Tx.put l t) t.d W h1 (by omega) hpp
  have hz2 := find_put (t := t) hp
  clear hw hv hwt ho hom h1 h2 h3 hsh hst hn C16 C6 C17 C18 hp hpp hpl hps
  generalize Tx.find (Tx.put l t) t.d = z2 at *
  generalize Tx.find l t.d = z at *
  generalize Tx.put l t = ms at *
  go_enter Try.func4, Try.ntmps4
  go_wp2_with fail
  refine (C16t _ B0).mono ?_
  rintro e w1 ⟨rfl, hb1⟩
  have O1 := O0.on hb1
  have B1 := bchain B0 hb1
  obtain ⟨c0, c1, c2, c3, c4, c5⟩ := id O1
  go_wp2_with fail
  refine (C6t _ B1).mono ?_
  rintro e w2 ⟨rfl, hb2⟩
  have B2 := bchain B1 hb2
  have O2 := O1.on hb2
  go_wp2_with fail
  refine (C17t _ B2).mono ?_
  rintro e w3 ⟨rfl, hb3⟩
  have B3 := bchain B2 hb3
  have O3 := O2.on hb3
  go_wp2_with fail
  refine (C18t _ B3).mono ?_
  rintro e w4 ⟨rfl, hb4⟩
  have B4 := bchain B3 hb4
  have O4 := O3.on hb4
  go_wp2_with fail
  refine (C18t _ B4).mono ?_
  rintro e w5 ⟨rfl, hb5⟩
  have B5 := bchain B4 hb5
  have O5 := O4.on hb5
  clear c0 c1 c2 c3 c4 c5
  obtain ⟨c0, c1, c2, c3, c4, c5⟩ := id O5
  go_wp2_with fail
  refine (C19 _ B5).mono ?_
  rintro e w6 ⟨r1, rfl, hr1, hb6⟩
  have T6 : PL w t (.slice oa om oc) r1 ms w6 := ⟨O5.on hb6, hr1, bchain B5 hb6⟩
  clear c0 c1 c2 c3 c4 c5 C16t C6t C17t C18t C19 O0 O1 O2 O3 O4 O5 B0 B1 B2 B3 B4 B5 hb1 hb2 hb3 hb4 hb5 hb6 hr1
  go_wp2
  refine wp_region_held_drew (S := fun W => PL w t (.slice oa om oc) r1 ms W) (by kernel_rfl) (T6.on (Below.refl _ _).drew) (fun hH0 => ?_)
  refine held_take (i := 0) (o := { dst := some 27, op := Op.move (Operand.tmp 0), type := 35, pos := "law.go:58", after := #[], guard := none }) (v := v) (by kernel_rfl) (by kernel_rfl) (by kernel_rfl) (by kernel_rfl) (fun _ _ _ h => h) (by kernel_rfl) (fun _ _ => by kernel_rfl) hH0 ?_
  refine held_take (i := 1) (o := { dst := some 28, op := Op.fieldAddr 26 (Operand.tmp 3) 0, type := 0, pos := "law.go:58", after := #[], guard := none }) (v := .pointer (some ⟨w.heap.size, 0, none⟩)) (by kernel_rfl) (by kernel_rfl) (by kernel_rfl) (by kernel_rfl) (fun _ _ _ h => h) (by kernel_rfl) (fun W _ => exec_tfld0 rfl (by kernel_rfl) W) hH0 ?_
  refine held_take (i := 2) (o := { dst := some 29, op := Op.load 23 (Operand.tmp 28), type := 23, pos := "law.go:58", after := #[{ on := 1, ground := Ground.data }], guard := none }) (v := dV t.d) (by kernel_rfl) (by kernel_rfl) (by kernel_rfl) (by kernel_rfl) (fun _ _ _ h => h) (by kernel_rfl) (fun _ h => exec_ldTd rfl (by kernel_rfl) h.a) hH0 ?_
  refine held_take (i := 4) (o := { dst := some 31, op := Op.move (Operand.tmp 0), type := 35, pos := "law.go:58", after := #[], guard := none }) (v := v) (by kernel_rfl) (by kernel_rfl) (by kernel_rfl) (by kernel_rfl) (fun _ _ _ h => h) (by kernel_rfl) (fun _ _ => by kernel_rfl) hH0 ?_
  refine held_take (i := 5) (o := { dst := some 32, op := Op.fieldAddr 26 (Operand.tmp 3) 0, type := 0, pos := "law.go:58", after := #[], guard := none }) (v := .pointer (some ⟨w.heap.size, 0, none⟩)) (by kernel_rfl) (by kernel_rfl) (by kernel_rfl) (by kernel_rfl) (fun _ _ _ h => h) (by kernel_rfl) (fun W _ => exec_tfld0 rfl (by kernel_rfl) W) hH0 ?_
  refine held_take (i := 6) (o := { dst := some 33, op := Op.load 23 (Operand.tmp 32), type := 23, pos := "law.go:58", after := #[{ on := 5, ground := Ground.data }], guard := none }) (v := dV t.d) (by kernel_rfl) (by kernel_rfl) (by kernel_rfl) (by kernel_rfl) (fun _ _ _ h => h) (by kernel_rfl) (fun _ h => exec_ldTd rfl (by kernel_rfl) h.a) hH0 ?_
  refine held_callX (i := 3) (o := { dst := some 30, op := Op.call { callee := Callee.value (Operand.func 20), args := #[Operand.tmp 27, Operand.tmp 29], argTypes := #[35, 23] }, type := 3, pos := "law.go:58", after := #[{ on := 0, ground := Ground.data }, { on := 2, ground := Ground.data }], guard := none }) (F := 20) (vs := #[v, dV t.d]) (by kernel_rfl) (by kernel_rfl) (by kernel_rfl) (fun _ => by kernel_rfl) (C20 _ hH0.below) ?_
  rintro e u1 ⟨rfl, hb1⟩
  have hH1 := hH0.on hb1
  refine ⟨.int .i64 z, rfl, hH1, ?_⟩
  refine held_callX (i := 7) (o := { dst := some 34, op := Op.call { callee := Callee.value (Operand.func 21), args := #[Operand.tmp 31, Operand.tmp 33], argTypes := #[35, 23] }, type := 3, pos := "law.go:58", after := #[{ on := 4, ground := Ground.data }, { on := 6, ground := Ground.data }, { on := 3, ground := Ground.chain }], guard := none }) (F := 21) (vs := #[v, dV t.d]) (by kernel_rfl) (by kernel_rfl) (by kernel_rfl) (fun _ => by kernel_rfl) (C21 _ hH1.below) ?_
  rintro e u2 ⟨rfl, hb2⟩
  have hH2 := hH1.on hb2
  refine ⟨.int .i64 z, rfl, hH2, ?_⟩
  refine held_take (i := 8) (o := { dst := some 35, op := Op.binOp BinOp.eql 3 (Operand.tmp 30) (Operand.tmp 34) 3, type := 4, pos := "law.go:58", after := #[{ on := 3, ground := Ground.data }, { on := 7, ground := Ground.data }], guard := none }) (v := .bool true) (by kernel_rfl) (by kernel_rfl) (by kernel_rfl) (by kernel_rfl) (fun _ _ _ h => h) (by kernel_rfl) (fun W _ => exec_bin rfl (by kernel_rfl) (by kernel_rfl) (fun _ => by kernel_rfl) (eqi_same (z)) W) hH2 ?_
  refine held_take (i := 9) (o := { dst := some 36, op := Op.move (Operand.tmp 35), type := 4, pos := "law.go:58", after := #[{ on := 8, ground := Ground.data }, { on := 7, ground := Ground.chain }], guard := none }) (v := .bool true) (by kernel_rfl) (by kernel_rfl) (by kernel_rfl) (by kernel_rfl) (fun _ _ _ h => h) (by kernel_rfl) (fun _ _ => by kernel_rfl) hH2 ?_
  refine held_take (i := 10) (o := { dst := some 37, op := Op.move (Operand.tmp 5), type := 35, pos := "law.go:58", after := #[{ on := 9, ground := Ground.guard }], guard := some (9, true) }) (v := r1) (by kernel_rfl) (by kernel_rfl) (by kernel_rfl) (by kernel_rfl) (fun _ _ _ h => h) (by kernel_rfl) (fun _ _ => by kernel_rfl) hH2 ?_
  refine held_take (i := 11) (o := { dst := some 38, op := Op.move (Operand.tmp 0), type := 35, pos := "law.go:58", after := #[{ on := 9, ground := Ground.guard }], guard := some (9, true) }) (v := v) (by kernel_rfl) (by kernel_rfl) (by kernel_rfl) (by kernel_rfl) (fun _ _ _ h => h) (by kernel_rfl) (fun _ _ => by kernel_rfl) hH2 ?_
  refine held_take (i := 12) (o := { dst := some 39, op := Op.load 26 (Operand.tmp 3), type := 26, pos := "law.go:58", after := #[{ on := 9, ground := Ground.guard }], guard := some (9, true) }) (v := txV t (.slice oa om oc)) (by kernel_rfl) (by kernel_rfl) (by kernel_rfl) (by kernel_rfl) (fun _ _ _ h => h) (by kernel_rfl) (fun _ h => exec_ldT rfl (by kernel_rfl) h.a) hH2 ?_
  refine held_callX (i := 13) (o := { dst := some 40, op := Op.call { callee := Callee.value (Operand.func 23), args := #[Operand.tmp 38, Operand.tmp 39], argTypes := #[35, 26] }, type := 35, pos := "law.go:58", after := #[{ on := 11, ground := Ground.data }, { on := 12, ground := Ground.data }, { on := 9, ground := Ground.chain }, { on := 9, ground := Ground.guard }], guard := some (9, true) }) (F := 23) (vs := #[v, txV t (.slice oa om oc)]) (by kernel_rfl) (by kernel_rfl) (by kernel_rfl) (fun _ => by kernel_rfl) (C23 _ hH2.below) ?_
  rintro e u3 ⟨r2, rfl, hr2, hb3⟩
  have hH3 := hH2.on hb3
  refine ⟨r2, rfl, hH3, ?_⟩
  refine held_callX (i := 14) (o := { dst := some 41, op := Op.call { callee := Callee.value (Operand.func 22), args := #[Operand.tmp 37, Operand.tmp 40], argTypes := #[35, 35] }, type := 4, pos := "law.go:58", after := #[{ on := 10, ground := Ground.data }, { on := 13, ground := Ground.data }, { on := 13, ground := Ground.chain }, { on := 9, ground := Ground.guard }], guard := some (9, true) }) (F := 22) (vs := #[r1, r2]) (by kernel_rfl) (by kernel_rfl) (by kernel_rfl) (fun _ => by kernel_rfl) (C22 _ r1 r2 hH3.m hr2) ?_
  rintro e u4 ⟨rfl, hb4⟩
  have hH4 := hH3.on hb4
  refine ⟨.bool true, rfl, hH4, ?_⟩
  refine held_take (i := 15) (o := { dst := some 42, op := Op.pick (Operand.tmp 36) (Operand.tmp 41) (Operand.const (Value.bool false)), type := 4, pos := "law.go:58", after := #[{ on := 9, ground := Ground.data }, { on := 14, ground := Ground.data }], guard := none }) (v := .bool true) (by kernel_rfl) (by kernel_rfl) (by kernel_rfl) (by kernel_rfl) (fun _ _ _ h => h) (by kernel_rfl) (fun _ _ => by kernel_rfl) hH4 ?_
  refine held_take (i := 16) (o := { dst := some 43, op := Op.move (Operand.tmp 42), type := 4, pos := "law.go:58", after := #[{ on := 15, ground := Ground.data }, { on := 14, ground := Ground.chain }], guard := none }) (v := .bool true) (by kernel_rfl) (by kernel_rfl) (by kernel_rfl) (by kernel_rfl) (fun _ _ _ h => h) (by kernel_rfl) (fun _ _ => by kernel_rfl) hH4 ?_
  refine held_take (i := 17) (o := { dst := some 44, op := Op.move (Operand.tmp 5), type := 35, pos := "law.go:58", after := #[{ on := 16, ground := Ground.guard }], guard := some (16, true) }) (v := r1) (by kernel_rfl) (by kernel_rfl) (by kernel_rfl) (by kernel_rfl) (fun _ _ _ h => h) (by kernel_rfl) (fun _ _ => by kernel_rfl) hH4 ?_
  refine held_callX (i := 18) (o := { dst := some 45, op := Op.call { callee := Callee.value (Operand.func 18), args := #[Operand.tmp 44], argTypes := #[35] }, type := 4, pos := "law.go:58", after := #[{ on := 17, ground := Ground.data }, { on := 16, ground := Ground.chain }, { on := 16, ground := Ground.guard }], guard := some (16, true) }) (F := 18) (vs := #[r1]) (by kernel_rfl) (by kernel_rfl) (by kernel_rfl) (fun _ => by kernel_rfl) (C18b _ r1 hH4.m) ?_
  rintro e u5 ⟨rfl, hb5⟩
  have hH5 := hH4.on hb5
  refine ⟨.bool true, rfl, hH5, ?_⟩
  refine held_take (i := 19) (o := { dst := some 46, op := Op.pick (Operand.tmp 43) (Operand.tmp 45) (Operand.const (Value.bool false)), type := 4, pos := "law.go:58", after := #[{ on := 16, ground := Ground.data }, { on := 18, ground := Ground.data }], guard := none }) (v := .bool true) (by kernel_rfl) (by kernel_rfl) (by kernel_rfl) (by kernel_rfl) (fun _ _ _ h => h) (by kernel_rfl) (fun _ _ => by kernel_rfl) hH5 ?_
  refine held_take (i := 20) (o := { dst := some 47, op := Op.move (Operand.tmp 46), type := 4, pos := "law.go:58", after := #[{ on := 19, ground := Ground.data }, { on := 18, ground := Ground.chain }], guard := none }) (v := .bool true) (by kernel_rfl) (by kernel_rfl) (by kernel_rfl) (by kernel_rfl) (fun _ _ _ h => h) (by kernel_rfl) (fun _ _ => by kernel_rfl) hH5 ?_
  refine held_take (i := 21) (o := { dst := some 48, op := Op.move (Operand.tmp 5), type := 35, pos := "law.go:58", after := #[{ on := 20, ground := Ground.guard }], guard := some (20, true) }) (v := r1) (by kernel_rfl) (by kernel_rfl) (by kernel_rfl) (by kernel_rfl) (fun _ _ _ h => h) (by kernel_rfl) (fun _ _ => by kernel_rfl) hH5 ?_
  refine held_take (i := 22) (o := { dst := some 49, op := Op.fieldAddr 26 (Operand.tmp 3) 0, type := 0, pos := "law.go:58", after := #[{ on := 20, ground := Ground.guard }], guard := some (20, true) }) (v := .pointer (some ⟨w.heap.size, 0, none⟩)) (by kernel_rfl) (by kernel_rfl) (by kernel_rfl) (by kernel_rfl) (fun _ _ _ h => h) (by kernel_rfl) (fun W _ => exec_tfld0 rfl (by kernel_rfl) W) hH5 ?_
  refine held_take (i := 23) (o := { dst := some 50, op := Op.load 23 (Operand.tmp 49), type := 23, pos := "law.go:58", after := #[{ on := 22, ground := Ground.data }, { on := 20, ground := Ground.guard }], guard := some (20, true) }) (v := dV t.d) (by kernel_rfl) (by kernel_rfl) (by kernel_rfl) (by kernel_rfl) (fun _ _ _ h => h) (by kernel_rfl) (fun _ h => exec_ldTd rfl (by kernel_rfl) h.a) hH5 ?_
  refine held_callX (i := 24) (o := { dst := some 51, op := Op.call { callee := Callee.value (Operand.func 20), args := #[Operand.tmp 48, Operand.tmp 50], argTypes := #[35, 23] }, type := 3, pos := "law.go:58", after := #[{ on := 21, ground := Ground.data }, { on := 23, ground := Ground.data }, { on := 20, ground := Ground.chain }, { on := 20, ground := Ground.guard }], guard := some (20, true) }) (F := 20) (vs := #[r1, dV t.d]) (by kernel_rfl) (by kernel_rfl) (by kernel_rfl) (fun _ => by kernel_rfl) (C20b _ r1 hH5.m) ?_
  rintro e u6 ⟨rfl, hb6⟩
  have hH6 := hH5.on hb6
  refine ⟨.int .i64 z2, rfl, hH6, ?_⟩
  refine held_take (i := 25) (o := { dst := some 52, op := Op.binOp BinOp.geq 3 (Operand.tmp 51) (Operand.const (Value.int IntKind.i64 0)) 3, type := 4, pos := "law.go:58", after := #[{ on := 24, ground := Ground.data }, { on := 20, ground := Ground.guard }], guard := some (20, true) }) (v := .bool true) (by kernel_rfl) (by kernel_rfl) (by kernel_rfl) (by kernel_rfl) (fun _ _ _ h => h) (by kernel_rfl) (fun W _ => exec_bin rfl (by kernel_rfl) (by kernel_rfl) (fun _ => by kernel_rfl) (geI hz2) W) hH6 ?_
  refine held_take (i := 26) (o := { dst := some 53, op := Op.pick (Operand.tmp 47) (Operand.tmp 52) (Operand.const (Value.bool false)), type := 4, pos := "law.go:58", after := #[{ on := 20, ground := Ground.data }, { on := 25, ground := Ground.data }], guard := none }) (v := .bool true) (by kernel_rfl) (by kernel_rfl) (by kernel_rfl) (by kernel_rfl) (fun _ _ _ h => h) (by kernel_rfl) (fun _ _ => by kernel_rfl) hH6 ?_
  refine held_take (i := 27) (o := { dst := some 54, op := Op.move (Operand.tmp 53), type := 4, pos := "law.go:58", after := #[{ on := 26, ground := Ground.data }, { on := 24, ground := Ground.chain }], guard := none }) (v := .bool true) (by kernel_rfl) (by kernel_rfl) (by kernel_rfl) (by kernel_rfl) (fun _ _ _ h => h) (by kernel_rfl) (fun _ _ => by kernel_rfl) hH6 ?_
  refine held_callX (i := 28) (o := { dst := some 55, op := Op.call { callee := Callee.value (Operand.func 7), args := #[], argTypes := #[] }, type := 4, pos := "law.go:58", after := #[{ on := 27, ground := Ground.chain }, { on := 27, ground := Ground.guard }], guard := some (27, true) }) (F := 7) (vs := #[]) (by kernel_rfl) (by kernel_rfl) (by kernel_rfl) (fun _ => by kernel_rfl) (tawake_any _) ?_
  rintro e u7 ⟨rfl, hb7⟩
  have hH7 := hH6.on hb7
  refine ⟨.bool true, rfl, hH7, ?_⟩
  refine held_take (i := 29) (o := { dst := some 56, op := Op.pick (Operand.tmp 54) (Operand.tmp 55) (Operand.const (Value.bool false)), type := 4, pos := "law.go:58", after := #[{ on := 27, ground := Ground.data }, { on := 28, ground := Ground.data }], guard := none }) (v := .bool true) (by kernel_rfl) (by kernel_rfl) (by kernel_rfl) (by kernel_rfl) (fun _ _ _ h => h) (by kernel_rfl) (fun _ _ => by kernel_rfl) hH7 ?_
  refine held_do (i := 30) (o := { dst := some 4, op := Op.assign (Operand.tmp 56), type := 4, pos := "law.go:58", after := #[{ on := 29, ground := Ground.data }, { on := 28, ground := Ground.chain }, { on := 0, ground := Ground.phase }, { on := 1, ground := Ground.phase }, { on := 2, ground := Ground.phase }, { on := 3, ground := Ground.phase }, { on := 4, ground := Ground.phase }, { on := 5, ground := Ground.phase }, { on := 6, ground := Ground.phase }, { on := 7, ground := Ground.phase }, { on := 8, ground := Ground.phase }, { on := 9, ground := Ground.phase }, { on := 10, ground := Ground.phase }, { on := 11, ground := Ground.phase }, { on := 12, ground := Ground.phase }, { on := 13, ground := Ground.phase }, { on := 14, ground := Ground.phase }, { on := 15, ground := Ground.phase }, { on := 16, ground := Ground.phase }, { on := 17, ground := Ground.phase }, { on := 18, ground := Ground.phase }, { on := 19, ground := Ground.phase }, { on := 20, ground := Ground.phase }, { on := 21, ground := Ground.phase }, { on := 22, ground := Ground.phase }, { on := 23, ground := Ground.phase }, { on := 24, ground := Ground.phase }, { on := 25, ground := Ground.phase }, { on := 26, ground := Ground.phase }, { on := 27, ground := Ground.phase }, { on := 28, ground := Ground.phase }, { on := 29, ground := Ground.phase }], guard := none }) (v := .bool true) (by kernel_rfl) (by kernel_rfl) (by kernel_rfl) (by kernel_rfl) hH7 ?_
  refine wpAnyH_done (by kernel_rfl) ?_ _
  simp only [Act.put, List.setIfInBounds_toArray, List.set_cons_zero, List.set_cons_succ]
  go_wp2
  go_ret
  exact ⟨rfl, hH7.below⟩
end Go.Proofs.Ytghkjbekjkejpaa.O
/- Its arguments in the order in which they come in. -/
namespace Go.Proofs.Ytghkjbekjkejpaa
theorem txnPlaces_walk (v : Value) (l : List Tx.Txn) (t : Tx.Txn) (ov : Value) (w : World) (hw : ∀ t ∈ l, O.txWide t) (hv : O.txsIn w v l) (hwt : O.txWide t) (ho : O.opsIn w ov t.ops) :
    Calls Try.prog 4 #[v, O.txV t ov] w fun e w' => e = .returned (.bool true) ∧ Go.RowKit.Below w.heap.size w w' := O.txnPlaces_walk v l t ov w hw hv hwt ho
end Go.Proofs.Ytghkjbekjkejpaa
