/- The document's Good, and the walk of the statement TxnBack. -/
import Derived.Test.YtghkjbekjkejpaaGreatTxnRead
import Derived.Test.YtghkjbekjkejpaaGreatTxnOne
namespace Go.Proofs.YtghkjbekjkejpaaGreat.O
open Go.RowKit

def goodT (t : Tx.Txn) : Bool := tshort t && decide (Tx.check t = 0)
def tgood (l : List Tx.Txn) : Bool := decide (l.length ≤ 30) && (Tx.rises l && l.all goodT)
theorem goodT_parts {t : Tx.Txn} (h : goodT t = true) : tshort t = true ∧ Tx.check t = 0 := by
  simpa [goodT] using h
theorem tgood_parts {l : List Tx.Txn} (h : tgood l = true) : l.length ≤ 30 ∧ Tx.Rises l ∧ ∀ t ∈ l, goodT t = true := by
  simp only [tgood, Bool.and_eq_true, decide_eq_true_eq] at h
  exact ⟨h.1, Tx.rises_iff.1 h.2.1, List.all_eq_true.1 h.2.2⟩

set_option maxRecDepth 20000 in
set_option maxHeartbeats 4000000 in
theorem tgood_any (v : Value) (l : List Tx.Txn) (w : World) (hw : ∀ t ∈ l, txWide t) (hv : txsIn w v l) :
    Calls Tryz.prog 4 #[v, .int .i64 30] w fun e w' => e = .returned (.bool (tgood l)) ∧ Below w.heap.size w w' := by
  have HV : Hid (txsIn w v l) := hv
  have HVR := fun hn => trises_any v l w hv hn
  obtain ⟨ao, cap, rfl, -⟩ := hv
  obtain ⟨m, hm⟩ : ∃ m, m = l.length := ⟨_, rfl⟩
  have HM : Hid (m = l.length) := hm
  have HW : Hid (∀ t ∈ l, txWide t) := hw
  rw [← hm] at HV HVR ⊢
  clear hw
  by_cases h30 : m ≤ 30
  rotate_left
  · rw [show tgood l = false by unfold tgood; rw [decide_eq_false (by omega)]; rfl]
    have h30' : (30 : Int) < (m : Int) := by omega
    clear hm HVR
    go_enter Tryz.func4, Tryz.ntmps4
    go_wp2
    go_ret
    exact ⟨rfl, Below.refl _ _⟩
  have h30' : ¬ (30 : Int) < (m : Int) := by omega
  have C16 : Calls Tryz.prog 16 #[.slice ao m cap] w fun e w' => e = .returned (.bool (Tx.rises l)) ∧ Below w.heap.size w w' := by
    rw [hm]
    rw [hm] at HV
    exact refTrises_any _ l w HV.out (by omega)
  clear HVR
  have HT : Hid (tgood l = (Tx.rises l && l.all goodT)) := by
    have h : tgood l = (Tx.rises l && l.all goodT) := by unfold tgood; rw [decide_eq_true (by omega)]; rfl
    exact h
  clear hm
  cases hr : Tx.rises l with
  | false =>
    rw [hr] at C16 HT
    rw [show tgood l = false from HT.out]
    clear hr
    go_enter Tryz.func4, Tryz.ntmps4
    go_wp2_with (go_at_call 16; refine C16.mono ?_; rintro e w1 ⟨rfl, hb1⟩)
    go_ret
    exact ⟨rfl, hb1⟩
  | true =>
  rw [hr] at C16 HT
  have HT2 : Hid (tgood l = l.all goodT) := HT.out
  rw [HT2.out]
  clear hr HT
  go_enter Tryz.func4, Tryz.ntmps4
  go_wp2_with (go_at_call 16; refine C16.mono ?_; rintro e w1 ⟨rfl, hb1⟩)
  clear C16
  go_loopw [5] (fun i wr => ∃ k : Nat, k ≤ m ∧ i = .int .i64 k ∧ Hid (allTo goodT l k) ∧ Below w.heap.size w wr) (fun i _ => m - (intOf i).toNat)
  case atStart => exact ⟨0, by omega, rfl, by have h := allTo_zero goodT l; exact h, hb1⟩
  case round =>
    clear hb1
    obtain ⟨k, hk, rfl, HS, hbw⟩ := hrel
    by_cases hlt : k < m
    · have hkx : k < l.length := by have := HM.out; omega
      obtain ⟨ad, ov, rfl, hA, ho⟩ := (HV.out.on hbw).get hkx
      have hwd := HW.out _ (List.getElem_mem hkx)
      have hi0 : (0 : Int) ≤ (k : Int) := by omega
      have hi1 : (k : Int) < (m : Int) := by omega
      have C17 := tshort_any _ ov wr hwd ho
      have HN : Hid (goodT l[k] = false → l.all goodT = false) := by have h := all_not (f := goodT) hkx; exact h
      have HY : Hid (goodT l[k] = true → allTo goodT l (k + 1)) := by have h := allTo_step HS.out hkx; exact h
      have HSH : Hid (tshort l[k] = true → l[k].ops.length ≤ 20 ∧ ∀ o ∈ l[k].ops, Os.short o = true) := by have h := tshort_parts (t := l[k]); exact h
      have HO : Hid (opsIn wr ov l[k].ops) := ho
      obtain ⟨a0, a1, a2, a3, a4, a5⟩ := id hA
      clear hwd ho HS
      generalize l[k] = x at *
      cases hs : tshort x with
      | false =>
        rw [hs] at C17
        have HL : Hid (l.all goodT = false) := by
          have h := HN.out (by unfold goodT; rw [hs]; rfl)
          exact h
        clear HN HY HSH hs
        go_wp2_with (go_at_call 17; refine C17.mono ?_; rintro e w2 ⟨rfl, hb2⟩)
        go_ret
        exact ⟨ret_bool HL.out.symm, bchain hbw hb2⟩
      | true =>
        rw [hs] at C17
        have hp := HSH.out hs
        have C18 := fun W (hb : Below wr.heap.size wr W) => refTcheck_any x ov W hp.2 (by omega) (HO.out.on hb)
        by_cases hc : Tx.check x = 0
        · have HY' : Hid (allTo goodT l (k + 1)) := by
            have h := HY.out (by unfold goodT; rw [hs, hc]; rfl)
            exact h
          rw [hc] at C18
          clear HN HY HSH hs hp hc
          go_wp2_with (first
            | (go_at_call 17; refine C17.mono ?_; rintro e w2 ⟨rfl, hb2⟩; obtain ⟨b0, b1, b2, b3, b4, b5⟩ := hA.on hb2)
            | (go_at_call 18; refine (C18 _ hb2).mono ?_; rintro e w3 ⟨rfl, hb3⟩))
          go_roundw
          case rel => exact ⟨k + 1, by omega, by go_num, HY', bchain hbw (bchain hb2 hb3)⟩
          case measure => simp [intOf]; omega
        · have HL : Hid (l.all goodT = false) := by
            have h := HN.out (by unfold goodT; rw [hs, decide_eq_false hc]; rfl)
            exact h
          have hc1 : ((Tx.check x : Nat) : Int) ≠ 0 := by omega
          have hc2 : (((Tx.check x : Nat) : Int) != 0) = true := by simpa using hc1
          clear HN HY HSH hs hp hc hc1
          generalize Tx.check x = q at *
          go_wp2_with (first
            | (go_at_call 17; refine C17.mono ?_; rintro e w2 ⟨rfl, hb2⟩; obtain ⟨b0, b1, b2, b3, b4, b5⟩ := hA.on hb2)
            | (go_at_call 18; refine (C18 _ hb2).mono ?_; rintro e w3 ⟨rfl, hb3⟩))
          go_ret
          exact ⟨ret_bool HL.out.symm, bchain hbw (bchain hb2 hb3)⟩
    · have HL : Hid (l.all goodT = true) := by
        have h := allTo_end HS.out (by have := HM.out; omega)
        exact h
      go_wp2
      go_ret
      exact ⟨ret_bool HL.out.symm, hbw⟩

/-! ### The law -/
theorem eqE (w : World) : (binOp .neq 30 (.int .i64 0) (.int .i64 0)).run Tryz.prog w = .ok (.bool false) w := by go_simp
theorem open_list (l : List UInt8) (w : World) :
    Calls Tryz.prog 6 #[.string ⟨l.toArray⟩] w fun e w' => ∃ b, e = .returned (.pointer (some ⟨b, 0, none⟩)) ∧ w.heap.size ≤ b ∧ Rd w' b l 0 ∧ Below w.heap.size w w' := open_rd ⟨l.toArray⟩ w
/-- All that was there is there. -/
structure LS (w W : World) : Prop where
  below : Below w.heap.size w W
theorem LS.on {w W W' : World} (h : LS w W) (hb : Below W.heap.size W W') : LS w W' := ⟨bchain h.below hb⟩
theorem LS.but {w W W' : World} {g : Nat} (h : LS w W) (hb : But g W W') (hg : w.heap.size ≤ g) : LS w W' := ⟨h.below.trans (hb.below hg h.below.size)⟩
section
variable {o : Oper} {a : Act} {w : World}
theorem exec_idxT {x y : Operand} {ad : Addr} {n c k : Nat} (ho : o.op = .indexAddr 22 x y) (hx : a.eval x = .slice (some ad) n c) (hy : a.eval y = .int .i64 (k : Int)) (hk : k < n) (w : World) :
    (execOp a.eval o).run Tryz.prog w = .ok (.value (.pointer (some (ad.add (k * 6))))) w := by
  have h0 : (0 : Int) ≤ (k : Int) := by omega
  have h1 : (k : Int) < (n : Int) := by omega
  unfold execOp
  simp only [ho, hx, hy, Sem.run_bind]
  go_simp
theorem exec_ldTc {x : Operand} {p : Addr} {t : Tx.Txn} {ov : Value} (ho : o.op = .load 37 x) (hx : a.eval x = .pointer (some p)) (h : TcAt w p t ov) :
    (execOp a.eval o).run Tryz.prog w = .ok (.value (txV t ov)) w := by
  obtain ⟨h0, h1, h2, h3, h4, h5⟩ := h
  unfold execOp
  simp only [ho, hx, Sem.run_bind]
  go_simp
theorem exec_fldTc {x : Operand} {p : Addr} (ho : o.op = .fieldAddr 37 x 0) (hx : a.eval x = .pointer (some p)) (w : World) :
    (execOp a.eval o).run Tryz.prog w = .ok (.value (.pointer (some p))) w := by
  unfold execOp
  simp only [ho, hx, Sem.run_bind]
  go_simp
theorem exec_ldDc {x : Operand} {p : Addr} {t : Tx.Txn} {ov : Value} (ho : o.op = .load 34 x) (hx : a.eval x = .pointer (some p)) (h : TcAt w p t ov) :
    (execOp a.eval o).run Tryz.prog w = .ok (.value (dV t.d)) w := by
  obtain ⟨h0, h1, -, -, -, -⟩ := h
  unfold execOp
  simp only [ho, hx, Sem.run_bind]
  go_simp
end

set_option maxRecDepth 20000 in
set_option maxHeartbeats 4000000 in
theorem txnBack_walk (v : Value) (l : List Tx.Txn) (w : World) (hw : ∀ t ∈ l, txWide t) (hv : txsIn w v l) :
    Calls Tryz.prog 3 #[v] w fun e w' => e = .returned (.bool true) ∧ Below w.heap.size w w' := by
  have C4 := tgood_any v l w hw hv
  cases hg : tgood l with
  | false =>
    rw [hg] at C4
    clear hw hv hg
    go_enter Tryz.func3, Tryz.ntmps3
    go_wp2_with (first
      | (go_at_call 4; refine C4.mono ?_; rintro e w1 ⟨rfl, hb1⟩)
      | (go_at_call 5; refine (tawake_any _).mono ?_; rintro e w2 ⟨rfl, hb2⟩))
    go_ret
    exact ⟨rfl, bchain hb1 hb2⟩
  | true =>
  rw [hg] at C4
  obtain ⟨hn, hp, hall⟩ := tgood_parts hg
  have hc : ∀ t ∈ l, Tx.check t = 0 := fun t ht => (goodT_parts (hall t ht)).2
  have hsh : ∀ t ∈ l, t.ops.length ≤ 1000000 ∧ ∀ o ∈ t.ops, Os.short o = true := fun t ht => by
    have h := tshort_parts (goodT_parts (hall t ht)).1
    exact ⟨by omega, h.2⟩
  have C7 := fun W (hb : Below w.heap.size w W) => tlist_any v l W (hv.on hb) hn hc
  have C8 := fun W (hb : Below w.heap.size w W) => refTlist_any v l W (hv.on hb) hn hc
  have C10 := fun W b (h : Rd W b (Tx.list l) 0) => treadList_ok h hn hc hp
  have C9 := fun W v2 (hb : Below w.heap.size w W) (h2 : txsIn W v2 l) => tall_any v2 v l W hsh (by omega) h2 (hv.on hb)
  have HV : Hid (txsIn w v l) := hv
  have HC : Hid (∀ t ∈ l, Tx.check t = 0) := hc
  have HSH : Hid (∀ t ∈ l, t.ops.length ≤ 1000000 ∧ ∀ o ∈ t.ops, Os.short o = true) := hsh
  have hrd0 : rdEnd [] 0 = 0 := rfl
  obtain ⟨ao, cap, rfl, -⟩ := hv
  obtain ⟨m, hm⟩ : ∃ m, m = l.length := ⟨_, rfl⟩
  have HM : Hid (m = l.length) := hm
  rw [← hm] at HV C4 C7 C8 C9 ⊢
  have hm30 : m ≤ 30 := by omega
  clear hw hg hn hp hall hc hsh hm
  generalize Tx.list l = cd at *
  have C6 := open_list cd
  go_enter Tryz.func3, Tryz.ntmps3
  go_wp2_with fail
  refine C4.mono ?_
  rintro e w1 ⟨rfl, hb1⟩
  go_wp2_with fail
  refine (C7 _ hb1).mono ?_
  rintro e w2 ⟨rfl, hb2⟩
  have B2 := bchain hb1 hb2
  go_wp2_with fail
  refine (C6 _).mono ?_
  rintro e w3 ⟨rb, rfl, hrb, hr3, hb3⟩
  have B3 := bchain B2 hb3
  have hq : w.heap.size ≤ rb := by have := B2.size; omega
  go_wp2_with fail
  refine (C7 _ B3).mono ?_
  rintro e w4 ⟨rfl, hb4⟩
  have B4 := bchain B3 hb4
  go_wp2_with fail
  refine (C8 _ B4).mono ?_
  rintro e w5 ⟨rfl, hb5⟩
  have B5 := bchain B4 hb5
  have hr5 := (hr3.on hb4).on hb5
  go_wp2_with fail
  refine (C10 _ rb hr5).mono ?_
  rintro e w6 ⟨v2, rfl, hv6, hr6, hb6⟩
  have B6 := B5.trans (hb6.below hq B5.size)
  go_wp2_with fail
  refine (C9 _ v2 B6 hv6).mono ?_
  rintro e w7 ⟨rfl, hb7⟩
  have B7 := bchain B6 hb7
  have hE := end_rd (hr6.on hb7)
  rw [hrd0] at hE
  go_wp2_with fail
  refine hE.mono ?_
  rintro e w8 ⟨rfl, -, hb8⟩
  have B8 := B7.trans (hb8.below hq B7.size)
  clear C4 C6 C7 C8 C9 C10 hb1 hb2 B2 hrb hr3 hb3 B3 hb4 B4 hb5 B5 hr5 hv6 hr6 hb6 B6 hb7 B7 hE hb8 hq
  go_wp2
  go_loopw [4, 5] (fun i _ wr => ∃ k : Nat, k ≤ m ∧ i = .int .i64 k ∧ Below w.heap.size w wr) (fun i _ _ => m - (intOf i).toNat)
  case atStart => exact ⟨0, by omega, rfl, B8⟩
  case round =>
    clear B8
    obtain ⟨k, hk, rfl, hbw⟩ := hrel
    by_cases hlt : k < m
    · have hkx : k < l.length := by have := HM.out; omega
      obtain ⟨ad, ov, rfl, hA0, ho0⟩ := HV.out.get hkx
      have hA := hA0.on hbw
      have hc := HC.out _ (List.getElem_mem hkx)
      have hsh := HSH.out _ (List.getElem_mem hkx)
      have hi0 : (0 : Int) ≤ (k : Int) := by omega
      have hi1 : (k : Int) < (m : Int) := by omega
      have C12 := fun W (hb : Below w.heap.size w W) => tcode_any l[k] ov W hc (ho0.on hb)
      have C14 := fun W b (h : Rd W b (Tx.code l[k]) 0) => tread_ok (w := W) (b := b) l[k] [] hc (by simp) (by rw [List.append_nil]; exact h)
      have C13 := fun W ov2 (hb : Below w.heap.size w W) (h2 : opsOwn W (0 : Nat) ov2 l[k].ops) => refTsame_any l[k] l[k] ov2 ov W hsh.2 hsh.1 (opsIn_own h2) (ho0.on hb)
      rw [Tx.same_self] at C13
      have C15 := fun W => D.refRight_any l[k].d.1 l[k].d.2 W
      rw [(Tx.check_zero hc).1] at C15
      have C6 := open_list (Tx.code l[k])
      clear hc hsh ho0
      generalize Tx.code l[k] = cx at *
      generalize l[k] = x at *
      obtain ⟨a0, a1, a2, a3, a4, a5⟩ := id hA
      go_wp2_with (first
        | (go_at_call 12; refine (C12 _ hbw).mono ?_; rintro e w9 ⟨rfl, hb9⟩)
        | (go_at_call 6; refine (C6 _).mono ?_; rintro e w10 ⟨yb, rfl, hyb, hr10, hb10⟩))
      have B10 := bchain (bchain hbw hb9) hb10
      have hq : w.heap.size ≤ yb := by have := (bchain hbw hb9).size; omega
      clear a0 a1 a2 a3 a4 a5 hA hbw hb9 hb10 hyb C12 C6
      refine wp_region_held_drew (S := fun W => LS w W) (by kernel_rfl) (LS.mk B10.drew) (fun hH0 => ?_)
      refine held_take (i := 0) (o := { dst := some 42, op := Op.move (Operand.tmp 5), type := 25, pos := "law.go:107", after := #[], guard := none }) (v := .pointer (some ⟨yb, 0, none⟩)) (by kernel_rfl) (by kernel_rfl) (by kernel_rfl) (by kernel_rfl) (fun _ _ _ h => h) (by kernel_rfl) (fun _ _ => by kernel_rfl) hH0 ?_
      refine held_take (i := 2) (o := { dst := some 44, op := Op.move (Operand.tmp 0), type := 22, pos := "law.go:107", after := #[], guard := none }) (v := .slice (some ad) m cap) (by kernel_rfl) (by kernel_rfl) (by kernel_rfl) (by kernel_rfl) (fun _ _ _ h => h) (by kernel_rfl) (fun _ _ => by kernel_rfl) hH0 ?_
      refine held_take (i := 3) (o := { dst := some 45, op := Op.move (Operand.tmp 4), type := 3, pos := "law.go:107", after := #[], guard := none }) (v := .int .i64 (k : Int)) (by kernel_rfl) (by kernel_rfl) (by kernel_rfl) (by kernel_rfl) (fun _ _ _ h => h) (by kernel_rfl) (fun _ _ => by kernel_rfl) hH0 ?_
      refine held_take (i := 4) (o := { dst := some 46, op := Op.indexAddr 22 (Operand.tmp 44) (Operand.tmp 45), type := 0, pos := "law.go:107", after := #[{ on := 2, ground := Ground.data }, { on := 3, ground := Ground.data }], guard := none }) (v := .pointer (some (ad.add (k * 6)))) (by kernel_rfl) (by kernel_rfl) (by kernel_rfl) (by kernel_rfl) (fun _ _ _ h => h) (by kernel_rfl) (fun W _ => exec_idxT (n := m) (c := cap) (k := k) rfl (by kernel_rfl) (by kernel_rfl) hlt W) hH0 ?_
      refine held_take (i := 5) (o := { dst := some 47, op := Op.load 37 (Operand.tmp 46), type := 37, pos := "law.go:107", after := #[{ on := 4, ground := Ground.data }], guard := none }) (v := txV x ov) (by kernel_rfl) (by kernel_rfl) (by kernel_rfl) (by kernel_rfl) (fun _ _ _ h => h) (by kernel_rfl) (fun _ h => exec_ldTc rfl (by kernel_rfl) (hA0.on h.below)) hH0 ?_
      refine held_callX (i := 1) (o := { dst := some 43, op := Op.call { callee := Callee.value (Operand.func 14), args := #[Operand.tmp 42], argTypes := #[25] }, type := 37, pos := "law.go:107", after := #[{ on := 0, ground := Ground.data }], guard := none }) (F := 14) (vs := #[.pointer (some ⟨yb, 0, none⟩)]) (by kernel_rfl) (by kernel_rfl) (by kernel_rfl) (fun _ => by kernel_rfl) (C14 _ yb (hr10.on (Below.refl _ _).drew)) ?_
      rintro e u1 ⟨ov2, rfl, hO2, hr1, hb1⟩
      have hH1 := hH0.but hb1 hq
      refine ⟨txV x ov2, rfl, hH1, ?_⟩
      refine held_callX (i := 6) (o := { dst := some 48, op := Op.call { callee := Callee.value (Operand.func 13), args := #[Operand.tmp 43, Operand.tmp 47], argTypes := #[37, 37] }, type := 4, pos := "law.go:107", after := #[{ on := 1, ground := Ground.data }, { on := 5, ground := Ground.data }, { on := 1, ground := Ground.chain }], guard := none }) (F := 13) (vs := #[txV x ov2, txV x ov]) (by kernel_rfl) (by kernel_rfl) (by kernel_rfl) (fun _ => by kernel_rfl) (C13 _ ov2 hH1.below (hO2.base (Nat.zero_le _))) ?_
      rintro e u2 ⟨rfl, hb2⟩
      have hH2 := hH1.on hb2
      refine ⟨.bool true, rfl, hH2, ?_⟩
      refine held_take (i := 7) (o := { dst := some 49, op := Op.unOp UnOp.not 4 (Operand.tmp 48), type := 4, pos := "law.go:107", after := #[{ on := 6, ground := Ground.data }], guard := none }) (v := .bool false) (by kernel_rfl) (by kernel_rfl) (by kernel_rfl) (by kernel_rfl) (fun _ _ _ h => h) (by kernel_rfl) (fun W _ => exec_un rfl (by kernel_rfl) (not_of true) W) hH2 ?_
      refine held_take (i := 8) (o := { dst := some 50, op := Op.move (Operand.tmp 49), type := 4, pos := "law.go:107", after := #[{ on := 7, ground := Ground.data }, { on := 6, ground := Ground.chain }], guard := none }) (v := .bool false) (by kernel_rfl) (by kernel_rfl) (by kernel_rfl) (by kernel_rfl) (fun _ _ _ h => h) (by kernel_rfl) (fun _ _ => by kernel_rfl) hH2 ?_
      refine held_take (i := 9) (o := { dst := some 51, op := Op.move (Operand.tmp 5), type := 25, pos := "law.go:107", after := #[{ on := 8, ground := Ground.guard }], guard := some (8, false) }) (v := .pointer (some ⟨yb, 0, none⟩)) (by kernel_rfl) (by kernel_rfl) (by kernel_rfl) (by kernel_rfl) (fun _ _ _ h => h) (by kernel_rfl) (fun _ _ => by kernel_rfl) hH2 ?_
      refine held_callX (i := 10) (o := { dst := some 52, op := Op.call { callee := Callee.value (Operand.func 11), args := #[Operand.tmp 51], argTypes := #[25] }, type := 30, pos := "law.go:107", after := #[{ on := 9, ground := Ground.data }, { on := 8, ground := Ground.chain }, { on := 8, ground := Ground.guard }], guard := some (8, false) }) (F := 11) (vs := #[.pointer (some ⟨yb, 0, none⟩)]) (by kernel_rfl) (by kernel_rfl) (by kernel_rfl) (fun _ => by kernel_rfl) (end_rd (hr1.on hb2)) ?_
      rintro e u3 ⟨rfl, hr3, hb3⟩
      have hH3 := hH2.but hb3 hq
      refine ⟨.int .i64 0, rfl, hH3, ?_⟩
      refine held_take (i := 11) (o := { dst := some 53, op := Op.binOp BinOp.neq 30 (Operand.tmp 52) (Operand.const (Value.int IntKind.i64 0)) 30, type := 4, pos := "law.go:107", after := #[{ on := 10, ground := Ground.data }, { on := 8, ground := Ground.guard }], guard := some (8, false) }) (v := .bool false) (by kernel_rfl) (by kernel_rfl) (by kernel_rfl) (by kernel_rfl) (fun _ _ _ h => h) (by kernel_rfl) (fun W _ => exec_bin rfl (by kernel_rfl) (by kernel_rfl) (fun _ => by kernel_rfl) (eqE) W) hH3 ?_
      refine held_take (i := 12) (o := { dst := some 54, op := Op.pick (Operand.tmp 50) (Operand.const (Value.bool true)) (Operand.tmp 53), type := 4, pos := "law.go:107", after := #[{ on := 8, ground := Ground.data }, { on := 11, ground := Ground.data }], guard := none }) (v := .bool false) (by kernel_rfl) (by kernel_rfl) (by kernel_rfl) (by kernel_rfl) (fun _ _ _ h => h) (by kernel_rfl) (fun _ _ => by kernel_rfl) hH3 ?_
      refine held_take (i := 13) (o := { dst := some 55, op := Op.move (Operand.tmp 54), type := 4, pos := "law.go:107", after := #[{ on := 12, ground := Ground.data }, { on := 10, ground := Ground.chain }], guard := none }) (v := .bool false) (by kernel_rfl) (by kernel_rfl) (by kernel_rfl) (by kernel_rfl) (fun _ _ _ h => h) (by kernel_rfl) (fun _ _ => by kernel_rfl) hH3 ?_
      refine held_take (i := 14) (o := { dst := some 56, op := Op.move (Operand.tmp 0), type := 22, pos := "law.go:107", after := #[{ on := 13, ground := Ground.guard }], guard := some (13, false) }) (v := .slice (some ad) m cap) (by kernel_rfl) (by kernel_rfl) (by kernel_rfl) (by kernel_rfl) (fun _ _ _ h => h) (by kernel_rfl) (fun _ _ => by kernel_rfl) hH3 ?_
      refine held_take (i := 15) (o := { dst := some 57, op := Op.move (Operand.tmp 4), type := 3, pos := "law.go:107", after := #[{ on := 13, ground := Ground.guard }], guard := some (13, false) }) (v := .int .i64 (k : Int)) (by kernel_rfl) (by kernel_rfl) (by kernel_rfl) (by kernel_rfl) (fun _ _ _ h => h) (by kernel_rfl) (fun _ _ => by kernel_rfl) hH3 ?_
      refine held_take (i := 16) (o := { dst := some 58, op := Op.indexAddr 22 (Operand.tmp 56) (Operand.tmp 57), type := 0, pos := "law.go:107", after := #[{ on := 14, ground := Ground.data }, { on := 15, ground := Ground.data }, { on := 13, ground := Ground.guard }], guard := some (13, false) }) (v := .pointer (some (ad.add (k * 6)))) (by kernel_rfl) (by kernel_rfl) (by kernel_rfl) (by kernel_rfl) (fun _ _ _ h => h) (by kernel_rfl) (fun W _ => exec_idxT (n := m) (c := cap) (k := k) rfl (by kernel_rfl) (by kernel_rfl) hlt W) hH3 ?_
      refine held_take (i := 17) (o := { dst := some 59, op := Op.fieldAddr 37 (Operand.tmp 58) 0, type := 0, pos := "law.go:107", after := #[{ on := 16, ground := Ground.data }, { on := 13, ground := Ground.guard }], guard := some (13, false) }) (v := .pointer (some (ad.add (k * 6)))) (by kernel_rfl) (by kernel_rfl) (by kernel_rfl) (by kernel_rfl) (fun _ _ _ h => h) (by kernel_rfl) (fun W _ => exec_fldTc rfl (by kernel_rfl) W) hH3 ?_
      refine held_take (i := 18) (o := { dst := some 60, op := Op.load 34 (Operand.tmp 59), type := 34, pos := "law.go:107", after := #[{ on := 17, ground := Ground.data }, { on := 13, ground := Ground.guard }], guard := some (13, false) }) (v := dV x.d) (by kernel_rfl) (by kernel_rfl) (by kernel_rfl) (by kernel_rfl) (fun _ _ _ h => h) (by kernel_rfl) (fun _ h => exec_ldDc rfl (by kernel_rfl) (hA0.on h.below)) hH3 ?_
      refine held_callX (i := 19) (o := { dst := some 61, op := Op.call { callee := Callee.value (Operand.func 15), args := #[Operand.tmp 60], argTypes := #[34] }, type := 4, pos := "law.go:107", after := #[{ on := 18, ground := Ground.data }, { on := 13, ground := Ground.chain }, { on := 13, ground := Ground.guard }], guard := some (13, false) }) (F := 15) (vs := #[dV x.d]) (by kernel_rfl) (by kernel_rfl) (by kernel_rfl) (fun _ => by kernel_rfl) (C15 _) ?_
      rintro e u4 ⟨rfl, hb4⟩
      have hH4 := hH3.on hb4
      refine ⟨.bool true, rfl, hH4, ?_⟩
      refine held_take (i := 20) (o := { dst := some 62, op := Op.unOp UnOp.not 4 (Operand.tmp 61), type := 4, pos := "law.go:107", after := #[{ on := 19, ground := Ground.data }, { on := 13, ground := Ground.guard }], guard := some (13, false) }) (v := .bool false) (by kernel_rfl) (by kernel_rfl) (by kernel_rfl) (by kernel_rfl) (fun _ _ _ h => h) (by kernel_rfl) (fun W _ => exec_un rfl (by kernel_rfl) (not_of true) W) hH4 ?_
      refine held_take (i := 21) (o := { dst := some 63, op := Op.pick (Operand.tmp 55) (Operand.const (Value.bool true)) (Operand.tmp 62), type := 4, pos := "law.go:107", after := #[{ on := 13, ground := Ground.data }, { on := 20, ground := Ground.data }], guard := none }) (v := .bool false) (by kernel_rfl) (by kernel_rfl) (by kernel_rfl) (by kernel_rfl) (fun _ _ _ h => h) (by kernel_rfl) (fun _ _ => by kernel_rfl) hH4 ?_
      refine wpAnyH_done (by kernel_rfl) ?_ _
      simp only [Act.put, List.setIfInBounds_toArray, List.set_cons_zero, List.set_cons_succ]
      go_wp2
      go_roundw
      case rel => exact ⟨k + 1, by omega, by go_num, hH4.below⟩
      case measure => simp [intOf]; omega
    · go_wp2_with (go_at_call 5; refine (tawake_any _).mono ?_; rintro e w2 ⟨rfl, hb2⟩)
      go_ret
      exact ⟨rfl, bchain hbw hb2⟩
end Go.Proofs.YtghkjbekjkejpaaGreat.O
/- Its arguments in the order in which they come in. -/
namespace Go.Proofs.YtghkjbekjkejpaaGreat
theorem txnBack_walk (v : Value) (l : List Tx.Txn) (w : World) (hw : ∀ t ∈ l, O.txWide t) (hv : O.txsIn w v l) :
    Calls Tryz.prog 3 #[v] w fun e w' => e = .returned (.bool true) ∧ Go.RowKit.Below w.heap.size w w' := O.txnBack_walk v l w hw hv
end Go.Proofs.YtghkjbekjkejpaaGreat
