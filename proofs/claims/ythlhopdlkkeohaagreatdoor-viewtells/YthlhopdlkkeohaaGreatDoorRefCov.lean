/- The walk of the document's Covered: does a transaction that counts cover it? -/
import Derived.Test.YthlhopdlkkeohaaGreatDoorOpWrapAll
import Derived.Test.YthlhopdlkkeohaaGreatDoorThinsAll
import Derived.Test.YthlhopdlkkeohaaGreatDoorTSameAll
namespace Go.Proofs.YthlhopdlkkeohaaGreatDoor.O
open Go.RowKit

theorem refSeenD_any (v : Value) (u : List U) (d : D) (w : World) (hv : T.cntsIn w v u) (hn : u.length ≤ 1000000) (hp : Ct.Std u) :
    Calls Tryz.prog 30 #[v, dV d] w fun e w' => e = .returned (.bool (seenD u d)) ∧ Below w.heap.size w w' := T.refSeen_any v u d w hv hn hp
/-- A transaction, one of its operations, and the reference that is looked for, while they are asked. -/
structure CvS (w : World) (p q : Addr) (t : Tx.Txn) (ov : Value) (o : Os.Op) (pv sv : Value) (bx : Nat) (x : U) (W : World) : Prop where
  tx : TcAt W p t ov
  op : OcAt W q o pv sv
  rf : CAt W ⟨bx, 0, none⟩ x
  below : Below w.heap.size w W
theorem CAt.on9 {w w' : World} {p : Addr} {x : U} (h : CAt w p x) (hb : Below w.heap.size w w') : CAt w' p x := ⟨keep_cell hb h.1, keep_cell hb h.2.1, keep_cell hb h.2.2⟩
theorem CvS.on {w : World} {p q : Addr} {t : Tx.Txn} {ov : Value} {o : Os.Op} {pv sv : Value} {bx : Nat} {x : U} {W W' : World} (h : CvS w p q t ov o pv sv bx x W) (hb : Below W.heap.size W W') : CvS w p q t ov o pv sv bx x W' :=
  ⟨h.tx.on hb, h.op.on hb, h.rf.on9 hb, bchain h.below hb⟩
/-- None of the first transactions covers it; of one none of the first operations. -/
def cvTo (ts : List Tx.Txn) (sn : D → Bool) (x : U) (k : Nat) : Prop := Lv.covered (ts.take k) sn x = false
def cvIn (t : Tx.Txn) (sn : D → Bool) (x : U) (j : Nat) : Prop := (sn t.d && Lv.names (t.ops.take j) x) = false
theorem cvTo_zero (ts : List Tx.Txn) (sn : D → Bool) (x : U) : cvTo ts sn x 0 := rfl
theorem cvIn_zero (t : Tx.Txn) (sn : D → Bool) (x : U) : cvIn t sn x 0 := by simp [cvIn, Lv.names]
theorem cvIn_step {t : Tx.Txn} {sn : D → Bool} {x : U} {j : Nat} (h : cvIn t sn x j) (hj : j < t.ops.length) (he : (hasR t.ops[j].l x && sn t.d) = false) : cvIn t sn x (j + 1) := by
  unfold cvIn Lv.names at *
  rw [List.take_succ_eq_append_getElem hj, List.any_append]
  have e : [t.ops[j]].any (fun o => decide (x ∈ o.l)) = hasR t.ops[j].l x := by simp [hasR]
  rw [e, Bool.and_or_distrib_left, h, Bool.false_or, Bool.and_comm]
  exact he
theorem cvTo_step {ts : List Tx.Txn} {sn : D → Bool} {x : U} {k : Nat} (h : cvTo ts sn x k) (hk : k < ts.length) (he : cvIn ts[k] sn x ts[k].ops.length) : cvTo ts sn x (k + 1) := by
  unfold cvTo cvIn Lv.covered at *
  rw [List.take_length] at he
  rw [List.take_succ_eq_append_getElem hk, List.any_append, h, Bool.false_or]
  simpa using he
theorem cvTo_end {ts : List Tx.Txn} {sn : D → Bool} {x : U} {k : Nat} (h : cvTo ts sn x k) (hk : ¬ k < ts.length) : Lv.covered ts sn x = false := by
  unfold cvTo at h
  rwa [List.take_of_length_le (by omega)] at h
theorem cv_hit {ts : List Tx.Txn} {sn : D → Bool} {x : U} {k : Nat} (hk : k < ts.length) {j : Nat} (hj : j < ts[k].ops.length) (h1 : hasR ts[k].ops[j].l x = true) (h2 : sn ts[k].d = true) : Lv.covered ts sn x = true := by
  unfold Lv.covered Lv.names
  rw [List.any_eq_true]
  refine ⟨_, List.getElem_mem hk, ?_⟩
  rw [h2, Bool.true_and, List.any_eq_true]
  exact ⟨_, List.getElem_mem hj, h1⟩

set_option maxRecDepth 20000 in
set_option maxHeartbeats 1000000 in
theorem refCovered_any (v vu : Value) (ts : List Tx.Txn) (u : List U) (x : U) (w : World) (hv : txsIn w v ts) (hu : T.cntsIn w vu u) (hn : ts.length ≤ 1000) (hf : ∀ t ∈ ts, t.ops.length ≤ 1000 ∧ ∀ o ∈ t.ops, o.l.length ≤ 1000) (hun : u.length ≤ 1000000) (hp : Ct.Std u) :
    Calls Tryz.prog 31 #[v, vu, uV x] w fun e w' => e = .returned (.bool (Lv.covered ts (seenD u) x)) ∧ Below w.heap.size w w' := by
  obtain ⟨ao, cap, rfl, _, _, _⟩ := id hv
  obtain ⟨n, hn0⟩ : ∃ n, n = ts.length := ⟨_, rfl⟩
  have HN : Hid (n = ts.length) := hn0
  rw [← hn0] at hv hn ⊢
  have HV : Hid (txsIn w (.slice ao n cap) ts) := hv
  have HF : Hid (∀ t ∈ ts, t.ops.length ≤ 1000 ∧ ∀ o ∈ t.ops, o.l.length ≤ 1000) := hf
  have HU : Hid (∀ W, Below w.heap.size w W → ∀ d, Calls Tryz.prog 30 #[vu, dV d] W fun e w' => e = .returned (.bool (seenD u d)) ∧ Below W.heap.size W w') := by
    have h := fun W (hb : Below w.heap.size w W) d => refSeenD_any vu u d W (hu.on hb) hun hp
    exact h
  obtain ⟨sn, hsn⟩ : ∃ sn, sn = seenD u := ⟨_, rfl⟩
  rw [← hsn] at HU ⊢
  clear hn0 hv hf hu hun hp hsn
  obtain ⟨W0, hW0⟩ : ∃ W0, W0 = w.alloc (uO x) := ⟨_, rfl⟩
  have B0 : Below w.heap.size w W0 := by rw [hW0]; exact below_new _ _
  obtain ⟨bx, hbx⟩ : ∃ bx, bx = w.heap.size := ⟨_, rfl⟩
  have X0 : CAt W0 ⟨bx, 0, none⟩ x := by rw [hW0, hbx]; exact CAt.new w x
  have HBX : Hid (bx = w.heap.size) := hbx
  have HC0 : Hid (cvTo ts sn x 0) := by have h := cvTo_zero ts sn x; exact h
  clear hbx
  go_enter Tryz.func31, Tryz.ntmps31
  go_wp2
  rw [← hW0]
  simp only [← HBX.out]
  clear hW0
  go_loopw [7, 8] (fun i _ wr => ∃ k : Nat, k ≤ n ∧ i = .int .i64 k ∧ Hid (cvTo ts sn x k) ∧ Below W0.heap.size W0 wr) (fun i _ _ => n - (intOf i).toNat)
  case atStart => exact ⟨0, by omega, rfl, HC0, Below.refl _ _⟩
  case round =>
    clear HC0
    obtain ⟨k, hk, rfl, HC, hbw⟩ := hrel
    by_cases hkn : k < n
    · have hkx : k < ts.length := by rw [← HN.out]; exact hkn
      obtain ⟨ad, ov, rfl, hA0, ho0⟩ := HV.out.get hkx
      have HA : Hid (TcAt w (ad.add (k * 6)) ts[k] ov) := hA0
      obtain ⟨oo, oc, rfl⟩ := ho0.slice
      have hfew := HF.out _ (List.getElem_mem hkx)
      have HH : Hid (∀ j (hj : j < ts[k].ops.length), hasR ts[k].ops[j].l x = true → sn ts[k].d = true → Lv.covered ts sn x = true) := by
        have h := fun j (hj : j < ts[k].ops.length) => cv_hit (sn := sn) (x := x) hkx hj
        exact h
      have HK : Hid (cvIn ts[k] sn x ts[k].ops.length → cvTo ts sn x (k + 1)) := by
        have h := cvTo_step HC.out hkx
        exact h
      have HI0 : Hid (cvIn ts[k] sn x 0) := by have h := cvIn_zero ts[k] sn x; exact h
      generalize ts[k] = t at *
      obtain ⟨m, hm⟩ : ∃ m, m = t.ops.length := ⟨_, rfl⟩
      have HM : Hid (m = t.ops.length) := hm
      rw [← hm] at ho0 HA
      have hm1 : m ≤ 1000 := by rw [hm]; exact hfew.1
      have HO : Hid (opsIn w (.slice oo m oc) t.ops) := ho0
      have HL : Hid (∀ o ∈ t.ops, o.l.length ≤ 1000) := hfew.2
      clear hm ho0 hA0 hfew HC
      go_wp2
      go_loopw [8] (fun i wr => ∃ j : Nat, j ≤ m ∧ i = .int .i64 j ∧ Hid (cvIn t sn x j) ∧ Below W0.heap.size W0 wr) (fun i _ => m - (intOf i).toNat)
      case atStart => exact ⟨0, by omega, rfl, HI0, hbw⟩
      case round =>
        clear HI0 hbw
        obtain ⟨j, hj, rfl, HI, hbw⟩ := hrel
        have hT := HA.out.on (bchain B0 hbw)
        obtain ⟨c0, c1, c2, c3, c4, c5⟩ := id hT
        by_cases hjm : j < m
        · have hjx : j < t.ops.length := by rw [← HM.out]; exact hjm
          obtain ⟨oad, pv, sv, rfl, hB, _, hs⟩ := HO.out.get hjx
          have hB := hB.on (bchain B0 hbw)
          have hll := HL.out _ (List.getElem_mem hjx)
          have HCv := fun W (hb : Below wr.heap.size wr W) => refCovers_any t.ops[j].k pv t.ops[j].vk t.ops[j].vn t.ops[j].vs t.ops[j].n sv t.ops[j].l x W (by omega) (hs.on (bchain (bchain B0 hbw) hb))
          have HSn := fun W (hb : Below wr.heap.size wr W) => HU.out W (bchain (bchain B0 hbw) hb) t.d
          have HY : Hid (hasR t.ops[j].l x = true → sn t.d = true → Lv.covered ts sn x = true) := by have h := HH.out j hjx; exact h
          have HZ : Hid ((hasR t.ops[j].l x && sn t.d) = false → cvIn t sn x (j + 1)) := by have h := cvIn_step HI.out hjx; exact h
          clear hll hs HI
          generalize t.ops[j] = o at *
          have hCS : CvS wr (ad.add (k * 6)) (oad.add (j * 7)) t (.slice (some oad) m oc) o pv sv bx x wr.drew := ⟨hT.on (Below.refl _ _).drew, hB.on (Below.refl _ _).drew, (X0.on9 hbw).on9 (Below.refl _ _).drew, (Below.refl _ _).drew⟩
          clear hT hB
          cases h1 : hasR o.l x with
          | true =>
            rw [h1] at HCv
            cases h2 : sn t.d with
            | true =>
              rw [h2] at HSn
              have HE : Hid (Lv.covered ts sn x = true) := by have h := HY.out h1 h2; exact h
              clear HY HZ
              go_wp2
              refine wp_region_held_drew (S := fun W => CvS wr (ad.add (k * 6)) (oad.add (j * 7)) t (.slice (some oad) m oc) o pv sv bx x W) (by kernel_rfl) (hCS) (fun hH0 => ?_)
              refine held_take (i := 0) (o := { dst := some 25, op := Op.move (Operand.tmp 0), type := 22, pos := "ref.go:22", after := #[], guard := none }) (v := .slice (some ad) n cap) (by kernel_rfl) (by kernel_rfl) (by kernel_rfl) (by kernel_rfl) (fun _ _ _ h => h) (by kernel_rfl) (fun _ _ => by kernel_rfl) hH0 ?_
              refine held_take (i := 1) (o := { dst := some 26, op := Op.move (Operand.tmp 7), type := 3, pos := "ref.go:22", after := #[], guard := none }) (v := .int .i64 (k : Int)) (by kernel_rfl) (by kernel_rfl) (by kernel_rfl) (by kernel_rfl) (fun _ _ _ h => h) (by kernel_rfl) (fun _ _ => by kernel_rfl) hH0 ?_
              refine held_take (i := 2) (o := { dst := some 27, op := Op.indexAddr 22 (Operand.tmp 25) (Operand.tmp 26), type := 0, pos := "ref.go:22", after := #[{ on := 0, ground := Ground.data }, { on := 1, ground := Ground.data }], guard := none }) (v := .pointer (some (ad.add (k * 6)))) (by kernel_rfl) (by kernel_rfl) (by kernel_rfl) (by kernel_rfl) (fun _ _ _ h => h) (by kernel_rfl) (fun W _ => ex_i_txns (n := n) (c := cap) (k := k) rfl (by kernel_rfl) (by kernel_rfl) hkn W) hH0 ?_
              refine held_take (i := 3) (o := { dst := some 28, op := Op.fieldAddr 56 (Operand.tmp 27) 4, type := 0, pos := "ref.go:22", after := #[{ on := 2, ground := Ground.data }], guard := none }) (v := .pointer (some ⟨(ad.add (k * 6)).block, (ad.add (k * 6)).off + 5, none⟩)) (by kernel_rfl) (by kernel_rfl) (by kernel_rfl) (by kernel_rfl) (fun _ _ _ h => h) (by kernel_rfl) (fun W _ => ex_f_txn_4 rfl (by kernel_rfl) W) hH0 ?_
              refine held_take (i := 4) (o := { dst := some 29, op := Op.load 54 (Operand.tmp 28), type := 54, pos := "ref.go:22", after := #[{ on := 3, ground := Ground.data }], guard := none }) (v := .slice (some oad) m oc) (by kernel_rfl) (by kernel_rfl) (by kernel_rfl) (by kernel_rfl) (fun _ _ _ h => h) (by kernel_rfl) (fun _ h => ex_l1_ops rfl (by kernel_rfl) (h.tx.c5)) hH0 ?_
              refine held_take (i := 5) (o := { dst := some 30, op := Op.move (Operand.tmp 8), type := 3, pos := "ref.go:22", after := #[], guard := none }) (v := .int .i64 (j : Int)) (by kernel_rfl) (by kernel_rfl) (by kernel_rfl) (by kernel_rfl) (fun _ _ _ h => h) (by kernel_rfl) (fun _ _ => by kernel_rfl) hH0 ?_
              refine held_take (i := 6) (o := { dst := some 31, op := Op.indexAddr 54 (Operand.tmp 29) (Operand.tmp 30), type := 0, pos := "ref.go:22", after := #[{ on := 4, ground := Ground.data }, { on := 5, ground := Ground.data }], guard := none }) (v := .pointer (some (oad.add (j * 7)))) (by kernel_rfl) (by kernel_rfl) (by kernel_rfl) (by kernel_rfl) (fun _ _ _ h => h) (by kernel_rfl) (fun W _ => ex_i_ops (n := m) (c := oc) (k := j) rfl (by kernel_rfl) (by kernel_rfl) hjm W) hH0 ?_
              refine held_take (i := 7) (o := { dst := some 32, op := Op.load 65 (Operand.tmp 31), type := 65, pos := "ref.go:22", after := #[{ on := 6, ground := Ground.data }], guard := none }) (v := .agg #[.int .i64 o.k, pv, .int .i64 o.vk, .int .i64 o.vn, .string ⟨o.vs.toArray⟩, .int .i64 o.n, sv]) (by kernel_rfl) (by kernel_rfl) (by kernel_rfl) (by kernel_rfl) (fun _ _ _ h => h) (by kernel_rfl) (fun _ h => ex_l_op rfl (by kernel_rfl) (h.op.c0) (h.op.c1) (h.op.c2) (h.op.c3) (h.op.c4) (h.op.c5) (h.op.c6)) hH0 ?_
              refine held_take (i := 8) (o := { dst := some 33, op := Op.load 70 (Operand.tmp 5), type := 70, pos := "ref.go:22", after := #[], guard := none }) (v := .agg #[.int .i64 x.1.1, .int .i64 x.1.2, .int .i64 x.2]) (by kernel_rfl) (by kernel_rfl) (by kernel_rfl) (by kernel_rfl) (fun _ _ _ h => h) (by kernel_rfl) (fun _ h => ex_l_ref rfl (by kernel_rfl) (h.rf.1) (h.rf.2.1) (h.rf.2.2)) hH0 ?_
              refine held_callX (i := 9) (o := { dst := some 34, op := Op.call { callee := Callee.value (Operand.func 68), args := #[Operand.tmp 32, Operand.tmp 33], argTypes := #[65, 70] }, type := 4, pos := "ref.go:22", after := #[{ on := 7, ground := Ground.data }, { on := 8, ground := Ground.data }], guard := none }) (F := 68) (vs := #[.agg #[.int .i64 o.k, pv, .int .i64 o.vk, .int .i64 o.vn, .string ⟨o.vs.toArray⟩, .int .i64 o.n, sv], .agg #[.int .i64 x.1.1, .int .i64 x.1.2, .int .i64 x.2]]) (by kernel_rfl) (by kernel_rfl) (by kernel_rfl) (fun _ => by kernel_rfl) (HCv _ hH0.below) ?_
              rintro e w1 ⟨rfl, hb1⟩
              have hH1 := hH0.on hb1
              refine ⟨.bool true, rfl, hH1, ?_⟩
              refine held_take (i := 10) (o := { dst := some 35, op := Op.move (Operand.tmp 34), type := 4, pos := "ref.go:22", after := #[{ on := 9, ground := Ground.data }, { on := 9, ground := Ground.chain }], guard := none }) (v := .bool true) (by kernel_rfl) (by kernel_rfl) (by kernel_rfl) (by kernel_rfl) (fun _ _ _ h => h) (by kernel_rfl) (fun _ _ => by kernel_rfl) hH1 ?_
              refine held_take (i := 11) (o := { dst := some 36, op := Op.move (Operand.tmp 1), type := 23, pos := "ref.go:22", after := #[{ on := 10, ground := Ground.guard }], guard := some (10, true) }) (v := vu) (by kernel_rfl) (by kernel_rfl) (by kernel_rfl) (by kernel_rfl) (fun _ _ _ h => h) (by kernel_rfl) (fun _ _ => by kernel_rfl) hH1 ?_
              refine held_take (i := 12) (o := { dst := some 37, op := Op.move (Operand.tmp 0), type := 22, pos := "ref.go:22", after := #[{ on := 10, ground := Ground.guard }], guard := some (10, true) }) (v := .slice (some ad) n cap) (by kernel_rfl) (by kernel_rfl) (by kernel_rfl) (by kernel_rfl) (fun _ _ _ h => h) (by kernel_rfl) (fun _ _ => by kernel_rfl) hH1 ?_
              refine held_take (i := 13) (o := { dst := some 38, op := Op.move (Operand.tmp 7), type := 3, pos := "ref.go:22", after := #[{ on := 10, ground := Ground.guard }], guard := some (10, true) }) (v := .int .i64 (k : Int)) (by kernel_rfl) (by kernel_rfl) (by kernel_rfl) (by kernel_rfl) (fun _ _ _ h => h) (by kernel_rfl) (fun _ _ => by kernel_rfl) hH1 ?_
              refine held_take (i := 14) (o := { dst := some 39, op := Op.indexAddr 22 (Operand.tmp 37) (Operand.tmp 38), type := 0, pos := "ref.go:22", after := #[{ on := 12, ground := Ground.data }, { on := 13, ground := Ground.data }, { on := 10, ground := Ground.guard }], guard := some (10, true) }) (v := .pointer (some (ad.add (k * 6)))) (by kernel_rfl) (by kernel_rfl) (by kernel_rfl) (by kernel_rfl) (fun _ _ _ h => h) (by kernel_rfl) (fun W _ => ex_i_txns (n := n) (c := cap) (k := k) rfl (by kernel_rfl) (by kernel_rfl) hkn W) hH1 ?_
              refine held_take (i := 15) (o := { dst := some 40, op := Op.fieldAddr 56 (Operand.tmp 39) 0, type := 0, pos := "ref.go:22", after := #[{ on := 14, ground := Ground.data }, { on := 10, ground := Ground.guard }], guard := some (10, true) }) (v := .pointer (some (ad.add (k * 6)))) (by kernel_rfl) (by kernel_rfl) (by kernel_rfl) (by kernel_rfl) (fun _ _ _ h => h) (by kernel_rfl) (fun W _ => ex_f_txn_0 rfl (by kernel_rfl) W) hH1 ?_
              refine held_take (i := 16) (o := { dst := some 41, op := Op.load 53 (Operand.tmp 40), type := 53, pos := "ref.go:22", after := #[{ on := 15, ground := Ground.data }, { on := 10, ground := Ground.guard }], guard := some (10, true) }) (v := .agg #[.int .i64 t.d.1, .int .i64 t.d.2]) (by kernel_rfl) (by kernel_rfl) (by kernel_rfl) (by kernel_rfl) (fun _ _ _ h => h) (by kernel_rfl) (fun _ h => ex_l_dot rfl (by kernel_rfl) (h.tx.c0) (h.tx.c1)) hH1 ?_
              refine held_callX (i := 17) (o := { dst := some 42, op := Op.call { callee := Callee.value (Operand.func 30), args := #[Operand.tmp 36, Operand.tmp 41], argTypes := #[23, 53] }, type := 4, pos := "ref.go:22", after := #[{ on := 11, ground := Ground.data }, { on := 16, ground := Ground.data }, { on := 10, ground := Ground.chain }, { on := 10, ground := Ground.guard }], guard := some (10, true) }) (F := 30) (vs := #[vu, .agg #[.int .i64 t.d.1, .int .i64 t.d.2]]) (by kernel_rfl) (by kernel_rfl) (by kernel_rfl) (fun _ => by kernel_rfl) (HSn _ hH1.below) ?_
              rintro e w2 ⟨rfl, hb2⟩
              have hH2 := hH1.on hb2
              refine ⟨.bool true, rfl, hH2, ?_⟩
              refine held_take (i := 18) (o := { dst := some 43, op := Op.pick (Operand.tmp 35) (Operand.tmp 42) (Operand.const (Value.bool false)), type := 4, pos := "ref.go:22", after := #[{ on := 10, ground := Ground.data }, { on := 17, ground := Ground.data }], guard := none }) (v := .bool true) (by kernel_rfl) (by kernel_rfl) (by kernel_rfl) (by kernel_rfl) (fun _ _ _ h => h) (by kernel_rfl) (fun _ _ => by kernel_rfl) hH2 ?_
              refine wpAnyH_done (by kernel_rfl) ?_ _
              simp only [Act.put, List.setIfInBounds_toArray, List.set_cons_zero, List.set_cons_succ]
              go_wp2
              go_ret
              exact ⟨ret_bool HE.out.symm, bchain B0 (bchain hbw hH2.below)⟩
            | false =>
              rw [h2] at HSn
              have HE : Hid (cvIn t sn x (j + 1)) := by have h := HZ.out (by rw [h1, h2]; rfl); exact h
              clear HY HZ
              go_wp2
              refine wp_region_held_drew (S := fun W => CvS wr (ad.add (k * 6)) (oad.add (j * 7)) t (.slice (some oad) m oc) o pv sv bx x W) (by kernel_rfl) (hCS) (fun hH0 => ?_)
              refine held_take (i := 0) (o := { dst := some 25, op := Op.move (Operand.tmp 0), type := 22, pos := "ref.go:22", after := #[], guard := none }) (v := .slice (some ad) n cap) (by kernel_rfl) (by kernel_rfl) (by kernel_rfl) (by kernel_rfl) (fun _ _ _ h => h) (by kernel_rfl) (fun _ _ => by kernel_rfl) hH0 ?_
              refine held_take (i := 1) (o := { dst := some 26, op := Op.move (Operand.tmp 7), type := 3, pos := "ref.go:22", after := #[], guard := none }) (v := .int .i64 (k : Int)) (by kernel_rfl) (by kernel_rfl) (by kernel_rfl) (by kernel_rfl) (fun _ _ _ h => h) (by kernel_rfl) (fun _ _ => by kernel_rfl) hH0 ?_
              refine held_take (i := 2) (o := { dst := some 27, op := Op.indexAddr 22 (Operand.tmp 25) (Operand.tmp 26), type := 0, pos := "ref.go:22", after := #[{ on := 0, ground := Ground.data }, { on := 1, ground := Ground.data }], guard := none }) (v := .pointer (some (ad.add (k * 6)))) (by kernel_rfl) (by kernel_rfl) (by kernel_rfl) (by kernel_rfl) (fun _ _ _ h => h) (by kernel_rfl) (fun W _ => ex_i_txns (n := n) (c := cap) (k := k) rfl (by kernel_rfl) (by kernel_rfl) hkn W) hH0 ?_
              refine held_take (i := 3) (o := { dst := some 28, op := Op.fieldAddr 56 (Operand.tmp 27) 4, type := 0, pos := "ref.go:22", after := #[{ on := 2, ground := Ground.data }], guard := none }) (v := .pointer (some ⟨(ad.add (k * 6)).block, (ad.add (k * 6)).off + 5, none⟩)) (by kernel_rfl) (by kernel_rfl) (by kernel_rfl) (by kernel_rfl) (fun _ _ _ h => h) (by kernel_rfl) (fun W _ => ex_f_txn_4 rfl (by kernel_rfl) W) hH0 ?_
              refine held_take (i := 4) (o := { dst := some 29, op := Op.load 54 (Operand.tmp 28), type := 54, pos := "ref.go:22", after := #[{ on := 3, ground := Ground.data }], guard := none }) (v := .slice (some oad) m oc) (by kernel_rfl) (by kernel_rfl) (by kernel_rfl) (by kernel_rfl) (fun _ _ _ h => h) (by kernel_rfl) (fun _ h => ex_l1_ops rfl (by kernel_rfl) (h.tx.c5)) hH0 ?_
              refine held_take (i := 5) (o := { dst := some 30, op := Op.move (Operand.tmp 8), type := 3, pos := "ref.go:22", after := #[], guard := none }) (v := .int .i64 (j : Int)) (by kernel_rfl) (by kernel_rfl) (by kernel_rfl) (by kernel_rfl) (fun _ _ _ h => h) (by kernel_rfl) (fun _ _ => by kernel_rfl) hH0 ?_
              refine held_take (i := 6) (o := { dst := some 31, op := Op.indexAddr 54 (Operand.tmp 29) (Operand.tmp 30), type := 0, pos := "ref.go:22", after := #[{ on := 4, ground := Ground.data }, { on := 5, ground := Ground.data }], guard := none }) (v := .pointer (some (oad.add (j * 7)))) (by kernel_rfl) (by kernel_rfl) (by kernel_rfl) (by kernel_rfl) (fun _ _ _ h => h) (by kernel_rfl) (fun W _ => ex_i_ops (n := m) (c := oc) (k := j) rfl (by kernel_rfl) (by kernel_rfl) hjm W) hH0 ?_
              refine held_take (i := 7) (o := { dst := some 32, op := Op.load 65 (Operand.tmp 31), type := 65, pos := "ref.go:22", after := #[{ on := 6, ground := Ground.data }], guard := none }) (v := .agg #[.int .i64 o.k, pv, .int .i64 o.vk, .int .i64 o.vn, .string ⟨o.vs.toArray⟩, .int .i64 o.n, sv]) (by kernel_rfl) (by kernel_rfl) (by kernel_rfl) (by kernel_rfl) (fun _ _ _ h => h) (by kernel_rfl) (fun _ h => ex_l_op rfl (by kernel_rfl) (h.op.c0) (h.op.c1) (h.op.c2) (h.op.c3) (h.op.c4) (h.op.c5) (h.op.c6)) hH0 ?_
              refine held_take (i := 8) (o := { dst := some 33, op := Op.load 70 (Operand.tmp 5), type := 70, pos := "ref.go:22", after := #[], guard := none }) (v := .agg #[.int .i64 x.1.1, .int .i64 x.1.2, .int .i64 x.2]) (by kernel_rfl) (by kernel_rfl) (by kernel_rfl) (by kernel_rfl) (fun _ _ _ h => h) (by kernel_rfl) (fun _ h => ex_l_ref rfl (by kernel_rfl) (h.rf.1) (h.rf.2.1) (h.rf.2.2)) hH0 ?_
              refine held_callX (i := 9) (o := { dst := some 34, op := Op.call { callee := Callee.value (Operand.func 68), args := #[Operand.tmp 32, Operand.tmp 33], argTypes := #[65, 70] }, type := 4, pos := "ref.go:22", after := #[{ on := 7, ground := Ground.data }, { on := 8, ground := Ground.data }], guard := none }) (F := 68) (vs := #[.agg #[.int .i64 o.k, pv, .int .i64 o.vk, .int .i64 o.vn, .string ⟨o.vs.toArray⟩, .int .i64 o.n, sv], .agg #[.int .i64 x.1.1, .int .i64 x.1.2, .int .i64 x.2]]) (by kernel_rfl) (by kernel_rfl) (by kernel_rfl) (fun _ => by kernel_rfl) (HCv _ hH0.below) ?_
              rintro e w1 ⟨rfl, hb1⟩
              have hH1 := hH0.on hb1
              refine ⟨.bool true, rfl, hH1, ?_⟩
              refine held_take (i := 10) (o := { dst := some 35, op := Op.move (Operand.tmp 34), type := 4, pos := "ref.go:22", after := #[{ on := 9, ground := Ground.data }, { on := 9, ground := Ground.chain }], guard := none }) (v := .bool true) (by kernel_rfl) (by kernel_rfl) (by kernel_rfl) (by kernel_rfl) (fun _ _ _ h => h) (by kernel_rfl) (fun _ _ => by kernel_rfl) hH1 ?_
              refine held_take (i := 11) (o := { dst := some 36, op := Op.move (Operand.tmp 1), type := 23, pos := "ref.go:22", after := #[{ on := 10, ground := Ground.guard }], guard := some (10, true) }) (v := vu) (by kernel_rfl) (by kernel_rfl) (by kernel_rfl) (by kernel_rfl) (fun _ _ _ h => h) (by kernel_rfl) (fun _ _ => by kernel_rfl) hH1 ?_
              refine held_take (i := 12) (o := { dst := some 37, op := Op.move (Operand.tmp 0), type := 22, pos := "ref.go:22", after := #[{ on := 10, ground := Ground.guard }], guard := some (10, true) }) (v := .slice (some ad) n cap) (by kernel_rfl) (by kernel_rfl) (by kernel_rfl) (by kernel_rfl) (fun _ _ _ h => h) (by kernel_rfl) (fun _ _ => by kernel_rfl) hH1 ?_
              refine held_take (i := 13) (o := { dst := some 38, op := Op.move (Operand.tmp 7), type := 3, pos := "ref.go:22", after := #[{ on := 10, ground := Ground.guard }], guard := some (10, true) }) (v := .int .i64 (k : Int)) (by kernel_rfl) (by kernel_rfl) (by kernel_rfl) (by kernel_rfl) (fun _ _ _ h => h) (by kernel_rfl) (fun _ _ => by kernel_rfl) hH1 ?_
              refine held_take (i := 14) (o := { dst := some 39, op := Op.indexAddr 22 (Operand.tmp 37) (Operand.tmp 38), type := 0, pos := "ref.go:22", after := #[{ on := 12, ground := Ground.data }, { on := 13, ground := Ground.data }, { on := 10, ground := Ground.guard }], guard := some (10, true) }) (v := .pointer (some (ad.add (k * 6)))) (by kernel_rfl) (by kernel_rfl) (by kernel_rfl) (by kernel_rfl) (fun _ _ _ h => h) (by kernel_rfl) (fun W _ => ex_i_txns (n := n) (c := cap) (k := k) rfl (by kernel_rfl) (by kernel_rfl) hkn W) hH1 ?_
              refine held_take (i := 15) (o := { dst := some 40, op := Op.fieldAddr 56 (Operand.tmp 39) 0, type := 0, pos := "ref.go:22", after := #[{ on := 14, ground := Ground.data }, { on := 10, ground := Ground.guard }], guard := some (10, true) }) (v := .pointer (some (ad.add (k * 6)))) (by kernel_rfl) (by kernel_rfl) (by kernel_rfl) (by kernel_rfl) (fun _ _ _ h => h) (by kernel_rfl) (fun W _ => ex_f_txn_0 rfl (by kernel_rfl) W) hH1 ?_
              refine held_take (i := 16) (o := { dst := some 41, op := Op.load 53 (Operand.tmp 40), type := 53, pos := "ref.go:22", after := #[{ on := 15, ground := Ground.data }, { on := 10, ground := Ground.guard }], guard := some (10, true) }) (v := .agg #[.int .i64 t.d.1, .int .i64 t.d.2]) (by kernel_rfl) (by kernel_rfl) (by kernel_rfl) (by kernel_rfl) (fun _ _ _ h => h) (by kernel_rfl) (fun _ h => ex_l_dot rfl (by kernel_rfl) (h.tx.c0) (h.tx.c1)) hH1 ?_
              refine held_callX (i := 17) (o := { dst := some 42, op := Op.call { callee := Callee.value (Operand.func 30), args := #[Operand.tmp 36, Operand.tmp 41], argTypes := #[23, 53] }, type := 4, pos := "ref.go:22", after := #[{ on := 11, ground := Ground.data }, { on := 16, ground := Ground.data }, { on := 10, ground := Ground.chain }, { on := 10, ground := Ground.guard }], guard := some (10, true) }) (F := 30) (vs := #[vu, .agg #[.int .i64 t.d.1, .int .i64 t.d.2]]) (by kernel_rfl) (by kernel_rfl) (by kernel_rfl) (fun _ => by kernel_rfl) (HSn _ hH1.below) ?_
              rintro e w2 ⟨rfl, hb2⟩
              have hH2 := hH1.on hb2
              refine ⟨.bool false, rfl, hH2, ?_⟩
              refine held_take (i := 18) (o := { dst := some 43, op := Op.pick (Operand.tmp 35) (Operand.tmp 42) (Operand.const (Value.bool false)), type := 4, pos := "ref.go:22", after := #[{ on := 10, ground := Ground.data }, { on := 17, ground := Ground.data }], guard := none }) (v := .bool false) (by kernel_rfl) (by kernel_rfl) (by kernel_rfl) (by kernel_rfl) (fun _ _ _ h => h) (by kernel_rfl) (fun _ _ => by kernel_rfl) hH2 ?_
              refine wpAnyH_done (by kernel_rfl) ?_ _
              simp only [Act.put, List.setIfInBounds_toArray, List.set_cons_zero, List.set_cons_succ]
              go_wp2
              go_roundw
              case rel => exact ⟨j + 1, by omega, by go_num, HE, bchain hbw hH2.below⟩
              case measure => simp [intOf]; omega
          | false =>
            rw [h1] at HCv
            have HE : Hid (cvIn t sn x (j + 1)) := by have h := HZ.out (by rw [h1]; rfl); exact h
            clear HY HZ
            go_wp2
            refine wp_region_held_drew (S := fun W => CvS wr (ad.add (k * 6)) (oad.add (j * 7)) t (.slice (some oad) m oc) o pv sv bx x W) (by kernel_rfl) (hCS) (fun hH0 => ?_)
            refine held_take (i := 0) (o := { dst := some 25, op := Op.move (Operand.tmp 0), type := 22, pos := "ref.go:22", after := #[], guard := none }) (v := .slice (some ad) n cap) (by kernel_rfl) (by kernel_rfl) (by kernel_rfl) (by kernel_rfl) (fun _ _ _ h => h) (by kernel_rfl) (fun _ _ => by kernel_rfl) hH0 ?_
            refine held_take (i := 1) (o := { dst := some 26, op := Op.move (Operand.tmp 7), type := 3, pos := "ref.go:22", after := #[], guard := none }) (v := .int .i64 (k : Int)) (by kernel_rfl) (by kernel_rfl) (by kernel_rfl) (by kernel_rfl) (fun _ _ _ h => h) (by kernel_rfl) (fun _ _ => by kernel_rfl) hH0 ?_
            refine held_take (i := 2) (o := { dst := some 27, op := Op.indexAddr 22 (Operand.tmp 25) (Operand.tmp 26), type := 0, pos := "ref.go:22", after := #[{ on := 0, ground := Ground.data }, { on := 1, ground := Ground.data }], guard := none }) (v := .pointer (some (ad.add (k * 6)))) (by kernel_rfl) (by kernel_rfl) (by kernel_rfl) (by kernel_rfl) (fun _ _ _ h => h) (by kernel_rfl) (fun W _ => ex_i_txns (n := n) (c := cap) (k := k) rfl (by kernel_rfl) (by kernel_rfl) hkn W) hH0 ?_
            refine held_take (i := 3) (o := { dst := some 28, op := Op.fieldAddr 56 (Operand.tmp 27) 4, type := 0, pos := "ref.go:22", after := #[{ on := 2, ground := Ground.data }], guard := none }) (v := .pointer (some ⟨(ad.add (k * 6)).block, (ad.add (k * 6)).off + 5, none⟩)) (by kernel_rfl) (by kernel_rfl) (by kernel_rfl) (by kernel_rfl) (fun _ _ _ h => h) (by kernel_rfl) (fun W _ => ex_f_txn_4 rfl (by kernel_rfl) W) hH0 ?_
            refine held_take (i := 4) (o := { dst := some 29, op := Op.load 54 (Operand.tmp 28), type := 54, pos := "ref.go:22", after := #[{ on := 3, ground := Ground.data }], guard := none }) (v := .slice (some oad) m oc) (by kernel_rfl) (by kernel_rfl) (by kernel_rfl) (by kernel_rfl) (fun _ _ _ h => h) (by kernel_rfl) (fun _ h => ex_l1_ops rfl (by kernel_rfl) (h.tx.c5)) hH0 ?_
            refine held_take (i := 5) (o := { dst := some 30, op := Op.move (Operand.tmp 8), type := 3, pos := "ref.go:22", after := #[], guard := none }) (v := .int .i64 (j : Int)) (by kernel_rfl) (by kernel_rfl) (by kernel_rfl) (by kernel_rfl) (fun _ _ _ h => h) (by kernel_rfl) (fun _ _ => by kernel_rfl) hH0 ?_
            refine held_take (i := 6) (o := { dst := some 31, op := Op.indexAddr 54 (Operand.tmp 29) (Operand.tmp 30), type := 0, pos := "ref.go:22", after := #[{ on := 4, ground := Ground.data }, { on := 5, ground := Ground.data }], guard := none }) (v := .pointer (some (oad.add (j * 7)))) (by kernel_rfl) (by kernel_rfl) (by kernel_rfl) (by kernel_rfl) (fun _ _ _ h => h) (by kernel_rfl) (fun W _ => ex_i_ops (n := m) (c := oc) (k := j) rfl (by kernel_rfl) (by kernel_rfl) hjm W) hH0 ?_
            refine held_take (i := 7) (o := { dst := some 32, op := Op.load 65 (Operand.tmp 31), type := 65, pos := "ref.go:22", after := #[{ on := 6, ground := Ground.data }], guard := none }) (v := .agg #[.int .i64 o.k, pv, .int .i64 o.vk, .int .i64 o.vn, .string ⟨o.vs.toArray⟩, .int .i64 o.n, sv]) (by kernel_rfl) (by kernel_rfl) (by kernel_rfl) (by kernel_rfl) (fun _ _ _ h => h) (by kernel_rfl) (fun _ h => ex_l_op rfl (by kernel_rfl) (h.op.c0) (h.op.c1) (h.op.c2) (h.op.c3) (h.op.c4) (h.op.c5) (h.op.c6)) hH0 ?_
            refine held_take (i := 8) (o := { dst := some 33, op := Op.load 70 (Operand.tmp 5), type := 70, pos := "ref.go:22", after := #[], guard := none }) (v := .agg #[.int .i64 x.1.1, .int .i64 x.1.2, .int .i64 x.2]) (by kernel_rfl) (by kernel_rfl) (by kernel_rfl) (by kernel_rfl) (fun _ _ _ h => h) (by kernel_rfl) (fun _ h => ex_l_ref rfl (by kernel_rfl) (h.rf.1) (h.rf.2.1) (h.rf.2.2)) hH0 ?_
            refine held_callX (i := 9) (o := { dst := some 34, op := Op.call { callee := Callee.value (Operand.func 68), args := #[Operand.tmp 32, Operand.tmp 33], argTypes := #[65, 70] }, type := 4, pos := "ref.go:22", after := #[{ on := 7, ground := Ground.data }, { on := 8, ground := Ground.data }], guard := none }) (F := 68) (vs := #[.agg #[.int .i64 o.k, pv, .int .i64 o.vk, .int .i64 o.vn, .string ⟨o.vs.toArray⟩, .int .i64 o.n, sv], .agg #[.int .i64 x.1.1, .int .i64 x.1.2, .int .i64 x.2]]) (by kernel_rfl) (by kernel_rfl) (by kernel_rfl) (fun _ => by kernel_rfl) (HCv _ hH0.below) ?_
            rintro e w1 ⟨rfl, hb1⟩
            have hH1 := hH0.on hb1
            refine ⟨.bool false, rfl, hH1, ?_⟩
            refine held_take (i := 10) (o := { dst := some 35, op := Op.move (Operand.tmp 34), type := 4, pos := "ref.go:22", after := #[{ on := 9, ground := Ground.data }, { on := 9, ground := Ground.chain }], guard := none }) (v := .bool false) (by kernel_rfl) (by kernel_rfl) (by kernel_rfl) (by kernel_rfl) (fun _ _ _ h => h) (by kernel_rfl) (fun _ _ => by kernel_rfl) hH1 ?_
            refine held_skip (i := 11) (o := { dst := some 36, op := Op.move (Operand.tmp 1), type := 23, pos := "ref.go:22", after := #[{ on := 10, ground := Ground.guard }], guard := some (10, true) }) (by kernel_rfl) (by kernel_rfl) (by kernel_rfl) (by kernel_rfl) (fun _ _ _ h => h) (by kernel_rfl) hH1 ?_
            refine held_skip (i := 12) (o := { dst := some 37, op := Op.move (Operand.tmp 0), type := 22, pos := "ref.go:22", after := #[{ on := 10, ground := Ground.guard }], guard := some (10, true) }) (by kernel_rfl) (by kernel_rfl) (by kernel_rfl) (by kernel_rfl) (fun _ _ _ h => h) (by kernel_rfl) hH1 ?_
            refine held_skip (i := 13) (o := { dst := some 38, op := Op.move (Operand.tmp 7), type := 3, pos := "ref.go:22", after := #[{ on := 10, ground := Ground.guard }], guard := some (10, true) }) (by kernel_rfl) (by kernel_rfl) (by kernel_rfl) (by kernel_rfl) (fun _ _ _ h => h) (by kernel_rfl) hH1 ?_
            refine held_skip (i := 14) (o := { dst := some 39, op := Op.indexAddr 22 (Operand.tmp 37) (Operand.tmp 38), type := 0, pos := "ref.go:22", after := #[{ on := 12, ground := Ground.data }, { on := 13, ground := Ground.data }, { on := 10, ground := Ground.guard }], guard := some (10, true) }) (by kernel_rfl) (by kernel_rfl) (by kernel_rfl) (by kernel_rfl) (fun _ _ _ h => h) (by kernel_rfl) hH1 ?_
            refine held_skip (i := 15) (o := { dst := some 40, op := Op.fieldAddr 56 (Operand.tmp 39) 0, type := 0, pos := "ref.go:22", after := #[{ on := 14, ground := Ground.data }, { on := 10, ground := Ground.guard }], guard := some (10, true) }) (by kernel_rfl) (by kernel_rfl) (by kernel_rfl) (by kernel_rfl) (fun _ _ _ h => h) (by kernel_rfl) hH1 ?_
            refine held_skip (i := 16) (o := { dst := some 41, op := Op.load 53 (Operand.tmp 40), type := 53, pos := "ref.go:22", after := #[{ on := 15, ground := Ground.data }, { on := 10, ground := Ground.guard }], guard := some (10, true) }) (by kernel_rfl) (by kernel_rfl) (by kernel_rfl) (by kernel_rfl) (fun _ _ _ h => h) (by kernel_rfl) hH1 ?_
            refine held_skip (i := 17) (o := { dst := some 42, op := Op.call { callee := Callee.value (Operand.func 30), args := #[Operand.tmp 36, Operand.tmp 41], argTypes := #[23, 53] }, type := 4, pos := "ref.go:22", after := #[{ on := 11, ground := Ground.data }, { on := 16, ground := Ground.data }, { on := 10, ground := Ground.chain }, { on := 10, ground := Ground.guard }], guard := some (10, true) }) (by kernel_rfl) (by kernel_rfl) (by kernel_rfl) (by kernel_rfl) (fun _ _ _ h => h) (by kernel_rfl) hH1 ?_
            refine held_take (i := 18) (o := { dst := some 43, op := Op.pick (Operand.tmp 35) (Operand.tmp 42) (Operand.const (Value.bool false)), type := 4, pos := "ref.go:22", after := #[{ on := 10, ground := Ground.data }, { on := 17, ground := Ground.data }], guard := none }) (v := .bool false) (by kernel_rfl) (by kernel_rfl) (by kernel_rfl) (by kernel_rfl) (fun _ _ _ h => h) (by kernel_rfl) (fun _ _ => by kernel_rfl) hH1 ?_
            refine wpAnyH_done (by kernel_rfl) ?_ _
            simp only [Act.put, List.setIfInBounds_toArray, List.set_cons_zero, List.set_cons_succ]
            go_wp2
            go_roundw
            case rel => exact ⟨j + 1, by omega, by go_num, HE, bchain hbw hH1.below⟩
            case measure => simp [intOf]; omega
        · obtain rfl : j = m := by omega
          have HE : Hid (cvTo ts sn x (k + 1)) := by
            have h := HK.out (by have h9 := HI.out; rw [HM.out] at h9; exact h9)
            exact h
          go_wp2
          go_roundw
          case rel => exact ⟨k + 1, by omega, by go_num, HE, hbw⟩
          case measure => simp [intOf]; omega
    · have HE : Hid (Lv.covered ts sn x = false) := by
        have h := cvTo_end HC.out (by rw [← HN.out]; exact hkn)
        exact h
      go_wp2
      go_ret
      exact ⟨ret_bool HE.out.symm, bchain B0 hbw⟩
end Go.Proofs.YthlhopdlkkeohaaGreatDoor.O
