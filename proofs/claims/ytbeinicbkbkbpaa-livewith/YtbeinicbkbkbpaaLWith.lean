/- The walk of the statement LiveWith. -/
import Derived.Test.YtbeinicbkbkbpaaLTwice
import Derived.Test.YtbeinicbkbkbpaaTxnPutR
namespace Go.Proofs.Ytbeinicbkbkbpaa.O
open Go.RowKit

/-- The transaction in its variable. -/
structure WiS (w : World) (bt : Nat) (t : Tx.Txn) (ov : Value) (W : World) : Prop where
  tx : TcAt W ⟨bt, 0, none⟩ t ov
  below : Below w.heap.size w W
theorem WiS.on {w : World} {bt : Nat} {t : Tx.Txn} {ov : Value} {W W' : World} (h : WiS w bt t ov W) (hb : Below W.heap.size W W') : WiS w bt t ov W' := ⟨h.tx.on hb, bchain h.below hb⟩
theorem put_len9 (t : Tx.Txn) : ∀ l : List Tx.Txn, (Tx.put l t).length ≤ l.length + 1
  | [] => by simp [Tx.put]
  | x :: r => by
    have := put_len9 t r
    unfold Tx.put
    split
    · simp
    · split
      · simp
      · simp only [List.length_cons]; omega
theorem find_has {l : List Tx.Txn} (hp : Tx.Rises l) (d : D) : (0 ≤ Tx.find l d) ∨ (Tx.find l d = -1 ∧ ∀ x ∈ l, x.d ≠ d) := by
  by_cases h : ∃ x ∈ l, x.d = d
  · obtain ⟨x, hx, e⟩ := h
    obtain ⟨i, hi, rfl⟩ := List.mem_iff_getElem.1 hx
    exact .inl (by rw [Tx.find_at hp hi e]; omega)
  · have h' : ∀ x ∈ l, x.d ≠ d := fun x hx e => h ⟨x, hx, e⟩
    exact .inr ⟨Tx.find_none h', h'⟩
/-- Few enough. -/
def lenOk9 (xs : List IE) : Prop := xs.length ≤ 1000000
/-- How many of the first ones are of other transactions. -/
def others (ys : List IE) (d : D) (k : Nat) : Nat := (ys.take k).countP fun y => decide (y.1.x.1 ≠ d)
theorem others_zero (ys : List IE) (d : D) : others ys d 0 = 0 := by simp [others]
theorem others_yes {ys : List IE} {d : D} {k : Nat} (hk : k < ys.length) (h : ys[k].1.x.1 ≠ d) : others ys d (k + 1) = others ys d k + 1 := by
  unfold others
  rw [List.take_succ_eq_append_getElem hk, List.countP_append]
  simp [h]
theorem others_no {ys : List IE} {d : D} {k : Nat} (hk : k < ys.length) (h : ys[k].1.x.1 = d) : others ys d (k + 1) = others ys d k := by
  unfold others
  rw [List.take_succ_eq_append_getElem hk, List.countP_append]
  simp [h]
theorem others_le (ys : List IE) (d : D) (k : Nat) : others ys d k ≤ k := by
  unfold others
  exact Nat.le_trans List.countP_le_length (by rw [List.length_take]; omega)

set_option maxRecDepth 20000 in
set_option maxHeartbeats 4000000 in
theorem liveWith_walk (v : Value) (ts : List Tx.Txn) (vu : Value) (u : List U) (t : Tx.Txn) (ov : Value) (w : World) (hw : ∀ t ∈ ts, txWide t) (hv : txsIn w v ts) (hu : T.cntsIn w vu u) (hwt : txWide t) (ho : opsIn w ov t.ops) :
    Calls Try.prog 7 #[v, vu, txV t ov] w fun e w' => e = .returned (.bool true) ∧ Below w.heap.size w w' := by
  obtain ⟨oo, oc, rfl⟩ := ho.slice
  obtain ⟨W0, hW0⟩ : ∃ W0, W0 = w.alloc (txO t (.slice oo t.ops.length oc)) := ⟨_, rfl⟩
  have B0 : Below w.heap.size w W0 := by rw [hW0]; exact below_new _ _
  have T0 : TAt W0 w.heap.size t (.slice oo t.ops.length oc) := by rw [hW0]; exact TAt.new w t _
  have HG := good_any v vu ts u W0 hw (hv.on B0) (hu.on B0)
  have HSh := fun W (hb : Below w.heap.size w W) => tshort_any t (.slice oo t.ops.length oc) W hwt (ho.on hb)
  cases hg : good13 ts u with
  | false =>
    rw [hg] at HG
    obtain ⟨ao, cap, rfl⟩ := txs_slice hv
    obtain ⟨uo, uc, rfl⟩ := cnts_slice hu
    clear hv hu hw hg ho HSh
    generalize ts.length = n at *
    generalize u.length = m at *
    generalize t.ops.length = q at *
    go_enter Try.func7, Try.ntmps7
    go_wp2_with (first
      | (go_at_call 8; rw [← hW0]; refine HG.mono ?_; rintro e w1 ⟨rfl, hb1⟩)
      | (go_at_call 10; refine (awake_any _).mono ?_; rintro e w2 ⟨rfl, hb2⟩))
    go_ret
    exact ⟨rfl, bchain B0 (bchain hb1 hb2)⟩
  | true =>
    rw [hg] at HG
    obtain ⟨⟨h20, hr, hok⟩, h100, hstd⟩ := good13_parts hg
    cases hsh : tshort t with
    | false =>
      rw [hsh] at HSh
      obtain ⟨ao, cap, rfl⟩ := txs_slice hv
      obtain ⟨uo, uc, rfl⟩ := cnts_slice hu
      clear hv hu hw hg ho h20 hr hok h100 hstd hsh
      generalize ts.length = n at *
      generalize u.length = m at *
      generalize t.ops.length = q at *
      go_enter Try.func7, Try.ntmps7
      go_wp2_with (first
        | (go_at_call 8; rw [← hW0]; refine HG.mono ?_; rintro e w1 ⟨rfl, hb1⟩; obtain ⟨c0, c1, c2, c3, c4, c5⟩ := T0.on hb1)
        | (go_at_call 28; refine (HSh _ (bchain B0 hb1)).mono ?_; rintro e w3 ⟨rfl, hb3⟩)
        | (go_at_call 10; refine (awake_any _).mono ?_; rintro e w2 ⟨rfl, hb2⟩))
      go_ret
      exact ⟨rfl, bchain B0 (bchain hb1 (bchain hb3 hb2))⟩
    | true =>
      rw [hsh] at HSh
      have hts := tshort_parts hsh
      have HCk := fun W (hb : Below w.heap.size w W) => refTcheck_any t (.slice oo t.ops.length oc) W hts.2 (by omega) (ho.on hb)
      by_cases hck : Tx.check t = 0
      · rw [hck] at HCk
        have HFd := fun W (hb : Below w.heap.size w W) => refTfind_any v ts t.d W (hv.on hb) (by omega)
        rcases find_has hr t.d with hf | ⟨hf, hnd⟩
        · generalize Tx.find ts t.d = z at *
          obtain ⟨ao, cap, rfl⟩ := txs_slice hv
          obtain ⟨uo, uc, rfl⟩ := cnts_slice hu
          clear hv hu hw hg ho h20 hr hok h100 hstd hsh hts hck
          generalize ts.length = n at *
          generalize u.length = m at *
          generalize t.ops.length = q at *
          go_enter Try.func7, Try.ntmps7
          go_wp2_with (first
            | (go_at_call 8; rw [← hW0]; refine HG.mono ?_; rintro e w1 ⟨rfl, hb1⟩; obtain ⟨c0, c1, c2, c3, c4, c5⟩ := T0.on hb1)
            | (go_at_call 28; refine (HSh _ (bchain B0 hb1)).mono ?_; rintro e w3 ⟨rfl, hb3⟩; obtain ⟨c0, c1, c2, c3, c4, c5⟩ := T0.on (bchain hb1 hb3))
            | (go_at_call 29; refine (HCk _ (bchain B0 (bchain hb1 hb3))).mono ?_; rintro e w4 ⟨rfl, hb4⟩; obtain ⟨c0, c1, c2, c3, c4, c5⟩ := T0.on (bchain hb1 (bchain hb3 hb4)))
            | (go_at_call 25; refine (HFd _ (bchain B0 (bchain hb1 (bchain hb3 hb4)))).mono ?_; rintro e w5 ⟨rfl, hb5⟩)
            | (go_at_call 10; refine (awake_any _).mono ?_; rintro e w2 ⟨rfl, hb2⟩))
          go_ret
          exact ⟨rfl, bchain B0 (bchain hb1 (bchain hb3 (bchain hb4 (bchain hb5 hb2))))⟩
        · rw [hf] at HFd
          have hpos := (Tx.check_zero hck).2.2.2.1.1
          have HX : Hid (AllC 11 w v vu (Lv.all ts (seenD u))) := allC hv hu (by omega) hok (by omega) hstd
          have hok' : ∀ y ∈ Tx.put ts t, okT y = true := fun y hy => by
            rcases Tx.put_mem y hy with rfl | hy
            · simp [okT, hsh, hck]
            · exact hok y hy
          have HY : Hid (∀ r W, Below w.heap.size w W → txsIn W r (Tx.put ts t) → AllC 11 W r vu (Lv.all (Tx.put ts t) (seenD u))) := fun r W hb h =>
            allC h (hu.on hb) (by have := put_len9 t ts; omega) hok' (by omega) hstd
          have HW : Hid (∀ W, Below w.heap.size w W → Calls Try.prog 30 #[v, txV t (.slice oo t.ops.length oc)] W fun e w' => ∃ r, e = .returned r ∧ txsIn w' r (Tx.put ts t) ∧ Below W.heap.size W w') := fun W hb =>
            with_any v ts t (.slice oo t.ops.length oc) W (hv.on hb) (ho.on hb) (by omega) hr (by omega)
          have HC1 : Hid ((∀ o ∈ t.ops, o.l = []) → (Lv.all (Tx.put ts t) (seenD u)).countP (fun i => decide (i.x.1 ≠ t.d)) = (Lv.all ts (seenD u)).length) := fun h => Lv.count_put h hnd (seenD u)
          have HC2 : Hid ((∀ o ∈ t.ops, o.l = []) → ∀ x, x ∈ Lv.refs (Lv.all ts (seenD u)) → x ∈ Lv.refs (Lv.all (Tx.put ts t) (seenD u))) := fun h x hx => Lv.refs_put h hnd (seenD u) hx
          generalize Lv.all (Tx.put ts t) (seenD u) = its2 at *
          generalize Lv.all ts (seenD u) = its1 at *
          generalize Tx.put ts t = tsp at *
          obtain ⟨ao, cap, rfl⟩ := txs_slice hv
          obtain ⟨uo, uc, rfl⟩ := cnts_slice hu
          generalize ts.length = n at *
          generalize u.length = um at *
          obtain ⟨vu, hvu⟩ : ∃ vu, vu = Value.slice uo um uc := ⟨_, rfl⟩
          rw [← hvu] at HX HG HY ⊢
          obtain ⟨m, hm⟩ : ∃ m, m = t.ops.length := ⟨_, rfl⟩
          have HM : Hid (m = t.ops.length) := hm
          rw [← hm] at ho HW HSh HCk T0 hW0 ⊢
          have hm1 : m ≤ 20 := by rw [hm]; exact hts.1
          have HO : Hid (opsIn w (.slice oo m oc) t.ops) := ho
          have HL : Hid (∀ o ∈ t.ops, o.l.length ≤ 300) := fun o ho => (short_parts (hts.2 o ho)).2.2
          have HZ : Hid (allTo (fun o : Os.Op => decide (o.l = [])) t.ops 0) := by have h := allTo_zero (fun o : Os.Op => decide (o.l = [])) t.ops; exact h
          clear hv hu hw hg ho hr hok hok' hstd hsh hts hck hf hpos hvu hm hnd
          obtain ⟨bt, hbt⟩ : ∃ bt, bt = w.heap.size := ⟨_, rfl⟩
          have HBT : Hid (bt = w.heap.size) := hbt
          rw [← hbt] at T0
          clear hbt
          go_enter Try.func7, Try.ntmps7
          go_wp2_with (first
            | (go_at_call 8; rw [← hW0]; refine HG.mono ?_; rintro e w1 ⟨rfl, hb1⟩; obtain ⟨c0, c1, c2, c3, c4, c5⟩ := T0.on hb1; rw [HBT.out] at c0 c1 c2 c3 c4 c5)
            | (go_at_call 28; refine (HSh _ (bchain B0 hb1)).mono ?_; rintro e w3 ⟨rfl, hb3⟩; obtain ⟨c0, c1, c2, c3, c4, c5⟩ := T0.on (bchain hb1 hb3); rw [HBT.out] at c0 c1 c2 c3 c4 c5)
            | (go_at_call 29; refine (HCk _ (bchain B0 (bchain hb1 hb3))).mono ?_; rintro e w4 ⟨rfl, hb4⟩; obtain ⟨c0, c1, c2, c3, c4, c5⟩ := T0.on (bchain hb1 (bchain hb3 hb4)); rw [HBT.out] at c0 c1 c2 c3 c4 c5)
            | (go_at_call 25; refine (HFd _ (bchain B0 (bchain hb1 (bchain hb3 hb4)))).mono ?_; rintro e w5 ⟨rfl, hb5⟩))
          have k5 : Below W0.heap.size W0 w5 := bchain hb1 (bchain hb3 (bchain hb4 hb5))
          simp only [← HBT.out]
          clear HG HSh HCk HFd hW0
          go_loopw [7] (fun i wr => ∃ k : Nat, k ≤ m ∧ i = .int .i64 k ∧ Hid (allTo (fun o : Os.Op => decide (o.l = [])) t.ops k) ∧ Below W0.heap.size W0 wr) (fun i _ => m - (intOf i).toNat)
          case atStart => exact ⟨0, by omega, rfl, HZ, k5⟩
          case round =>
            clear HZ k5 hb1 hb3 hb4 hb5
            obtain ⟨k, hk, rfl, HS, hbw⟩ := hrel
            have hT := T0.on hbw
            obtain ⟨c0, c1, c2, c3, c4, c5⟩ := id hT
            by_cases hkm : k < m
            · have hkx : k < t.ops.length := by rw [← HM.out]; exact hkm
              obtain ⟨oad, pv, sv, rfl, hB, -, hs⟩ := HO.out.get hkx
              obtain ⟨so, sn, sc, rfl⟩ := refs_slice hs
              obtain rfl := hs.len
              have hl9 := HL.out _ (List.getElem_mem hkx)
              obtain ⟨b0, b1, b2, b3, b4, b5, b6⟩ := hB.on (bchain B0 hbw)
              have hi0 : (0 : Int) ≤ (k : Int) := by omega
              have hi1 : (k : Int) < (m : Int) := by omega
              by_cases he : t.ops[k].l.length = 0
              · have HE : Hid (allTo (fun o : Os.Op => decide (o.l = [])) t.ops (k + 1)) := by
                  have h := allTo_step HS.out hkx (by simpa using List.eq_nil_of_length_eq_zero he)
                  exact h
                rw [he] at b6
                clear HS hs hB
                generalize t.ops[k] = o at *
                go_wp2
                go_roundw
                case rel => exact ⟨k + 1, by omega, by go_num, HE, hbw⟩
                case measure => simp [intOf]; omega
              · clear HS hs hB
                generalize t.ops[k] = o at *
                generalize o.l.length = z at *
                have hz : (0 : Int) < (z : Int) := by omega
                go_wp2_with (go_at_call 10; refine (awake_any _).mono ?_; rintro e w6 ⟨rfl, hb6⟩)
                go_ret
                exact ⟨rfl, bchain B0 (bchain hbw hb6)⟩
            · have hall : ∀ o ∈ t.ops, o.l = [] := fun o ho => by
                have h := allTo_end HS.out (by rw [← HM.out]; exact hkm)
                exact of_decide_eq_true (List.all_eq_true.1 h o ho)
              have HD1 : Hid (its2.countP (fun i => decide (i.x.1 ≠ t.d)) = its1.length) := by have h := HC1.out hall; exact h
              have HD2 : Hid (∀ x, x ∈ Lv.refs its1 → x ∈ Lv.refs its2) := by have h := HC2.out hall; exact h
              have hWS : WiS W0 bt t (.slice oo m oc) wr.drew := ⟨⟨(hT.on (Below.refl _ _).drew).c0, (hT.on (Below.refl _ _).drew).c1, (hT.on (Below.refl _ _).drew).c2, (hT.on (Below.refl _ _).drew).c3, (hT.on (Below.refl _ _).drew).c4, (hT.on (Below.refl _ _).drew).c5⟩, bchain hbw (Below.refl _ _).drew⟩
              clear HC1 HC2 HS hall hT
              go_wp2
              refine wp_region_held_drew (S := fun W => WiS W0 bt t (.slice oo m oc) W) (by kernel_rfl) (hWS) (fun hH0 => ?_)
              refine held_take (i := 0) (o := { dst := some 51, op := Op.move (Operand.tmp 0), type := 22, pos := "law.go:135", after := #[], guard := none }) (v := .slice ao n cap) (by kernel_rfl) (by kernel_rfl) (by kernel_rfl) (by kernel_rfl) (fun _ _ _ h => h) (by kernel_rfl) (fun _ _ => by kernel_rfl) hH0 ?_
              refine held_take (i := 1) (o := { dst := some 52, op := Op.move (Operand.tmp 1), type := 23, pos := "law.go:135", after := #[], guard := none }) (v := vu) (by kernel_rfl) (by kernel_rfl) (by kernel_rfl) (by kernel_rfl) (fun _ _ _ h => h) (by kernel_rfl) (fun _ _ => by kernel_rfl) hH0 ?_
              refine held_take (i := 3) (o := { dst := some 54, op := Op.move (Operand.tmp 0), type := 22, pos := "law.go:135", after := #[], guard := none }) (v := .slice ao n cap) (by kernel_rfl) (by kernel_rfl) (by kernel_rfl) (by kernel_rfl) (fun _ _ _ h => h) (by kernel_rfl) (fun _ _ => by kernel_rfl) hH0 ?_
              refine held_take (i := 4) (o := { dst := some 55, op := Op.load 48 (Operand.tmp 5), type := 48, pos := "law.go:135", after := #[], guard := none }) (v := .agg #[.int .i64 t.d.1, .int .i64 t.d.2, .int .i64 t.u, .int .i64 t.t, .bool t.thin, .slice oo m oc]) (by kernel_rfl) (by kernel_rfl) (by kernel_rfl) (by kernel_rfl) (fun _ _ _ h => h) (by kernel_rfl) (fun _ h => ex_l_txn (p := ⟨bt, 0, none⟩) rfl (by kernel_rfl) (h.tx.c0) (h.tx.c1) (h.tx.c2) (h.tx.c3) (h.tx.c4) (h.tx.c5)) hH0 ?_
              refine held_take (i := 6) (o := { dst := some 57, op := Op.move (Operand.tmp 1), type := 23, pos := "law.go:135", after := #[], guard := none }) (v := vu) (by kernel_rfl) (by kernel_rfl) (by kernel_rfl) (by kernel_rfl) (fun _ _ _ h => h) (by kernel_rfl) (fun _ _ => by kernel_rfl) hH0 ?_
              refine held_callX (i := 2) (o := { dst := some 53, op := Op.call { callee := Callee.value (Operand.func 11), args := #[Operand.tmp 51, Operand.tmp 52], argTypes := #[22, 23] }, type := 28, pos := "law.go:135", after := #[{ on := 0, ground := Ground.data }, { on := 1, ground := Ground.data }], guard := none }) (F := 11) (vs := #[.slice ao n cap, vu]) (by kernel_rfl) (by kernel_rfl) (by kernel_rfl) (fun _ => by kernel_rfl) (HX.out _ (bchain B0 hH0.below)) ?_
              rintro e w1 ⟨rx, xs, rfl, hx, hxe, hxs, hxn, hb1⟩
              have hH1 := hH0.on hb1
              refine ⟨rx, rfl, hH1, ?_⟩
              refine held_callX (i := 5) (o := { dst := some 56, op := Op.call { callee := Callee.value (Operand.func 30), args := #[Operand.tmp 54, Operand.tmp 55], argTypes := #[22, 48] }, type := 22, pos := "law.go:135", after := #[{ on := 3, ground := Ground.data }, { on := 4, ground := Ground.data }, { on := 2, ground := Ground.chain }], guard := none }) (F := 30) (vs := #[.slice ao n cap, .agg #[.int .i64 t.d.1, .int .i64 t.d.2, .int .i64 t.u, .int .i64 t.t, .bool t.thin, .slice oo m oc]]) (by kernel_rfl) (by kernel_rfl) (by kernel_rfl) (fun _ => by kernel_rfl) (HW.out _ (bchain B0 hH1.below)) ?_
              rintro e w2 ⟨rw9, rfl, hw2, hb2⟩
              have hH2 := hH1.on hb2
              refine ⟨rw9, rfl, hH2, ?_⟩
              refine held_callX (i := 7) (o := { dst := some 58, op := Op.call { callee := Callee.value (Operand.func 11), args := #[Operand.tmp 56, Operand.tmp 57], argTypes := #[22, 23] }, type := 28, pos := "law.go:135", after := #[{ on := 5, ground := Ground.data }, { on := 6, ground := Ground.data }, { on := 5, ground := Ground.chain }], guard := none }) (F := 11) (vs := #[rw9, vu]) (by kernel_rfl) (by kernel_rfl) (by kernel_rfl) (fun _ => by kernel_rfl) (HY.out _ _ (bchain B0 hH2.below) hw2 _ (Below.refl _ _)) ?_
              rintro e w3 ⟨ry, ys, rfl, hy, hye, hys, hyn, hb3⟩
              have hH3 := hH2.on hb3
              refine ⟨ry, rfl, hH3, ?_⟩
              refine held_do (i := 8) (o := { dst := some 8, op := Op.assign (Operand.tmp 53), type := 28, pos := "law.go:135", after := #[{ on := 2, ground := Ground.data }, { on := 7, ground := Ground.chain }, { on := 0, ground := Ground.phase }, { on := 1, ground := Ground.phase }, { on := 2, ground := Ground.phase }, { on := 3, ground := Ground.textOnly Departure.lateStores }, { on := 4, ground := Ground.textOnly Departure.lateStores }, { on := 5, ground := Ground.textOnly Departure.lateStoresUnsure }, { on := 6, ground := Ground.textOnly Departure.lateStores }, { on := 7, ground := Ground.textOnly Departure.lateStoresUnsure }], guard := none }) (v := rx) (by kernel_rfl) (by kernel_rfl) (by kernel_rfl) (by kernel_rfl) hH3 ?_
              refine held_do (i := 9) (o := { dst := some 9, op := Op.assign (Operand.tmp 58), type := 28, pos := "law.go:135", after := #[{ on := 7, ground := Ground.data }, { on := 8, ground := Ground.chain }, { on := 0, ground := Ground.phase }, { on := 1, ground := Ground.phase }, { on := 2, ground := Ground.phase }, { on := 3, ground := Ground.phase }, { on := 4, ground := Ground.phase }, { on := 5, ground := Ground.phase }, { on := 6, ground := Ground.phase }, { on := 7, ground := Ground.phase }, { on := 8, ground := Ground.phase }], guard := none }) (v := ry) (by kernel_rfl) (by kernel_rfl) (by kernel_rfl) (by kernel_rfl) hH3 ?_
              refine wpAnyH_done (by kernel_rfl) ?_ _
              simp only [Act.put, List.setIfInBounds_toArray, List.set_cons_zero, List.set_cons_succ]
              have kA : Below w.heap.size w w1 := bchain B0 (bchain hbw (bchain (Below.refl _ _).drew hb1))
              have kC : Below w.heap.size w w3 := bchain B0 hH3.below
              obtain ⟨xo, xc, rfl⟩ := hx.slice
              obtain ⟨yo, yc, rfl⟩ := hy.slice
              have T3 : TAt w3 bt t (.slice oo m oc) := T0.on hH3.below
              have HXI : Hid (itsE w3 (.slice xo xs.length xc) xs) := hx.on (bchain hb2 hb3)
              have HYI : Hid (itsE w3 (.slice yo ys.length yc) ys) := hy
              have HXM : Hid (xs.map (fun y => y.1.x) = Lv.refs its1) := by
                have h : xs.map (fun y => y.1.x) = Lv.refs its1 := by
                  rw [← hxe]
                  unfold Lv.refs
                  rw [List.map_map]
                  rfl
                exact h
              have HYM : Hid (ys.map (fun y => y.1.x) = Lv.refs its2) := by
                have h : ys.map (fun y => y.1.x) = Lv.refs its2 := by
                  rw [← hye]
                  unfold Lv.refs
                  rw [List.map_map]
                  rfl
                exact h
              have HCT : Hid (others ys t.d ys.length = xs.length) := by
                have h : others ys t.d ys.length = xs.length := by
                  have h1 := HD1.out
                  rw [← hye, ← hxe, List.countP_map, List.length_map] at h1
                  unfold others
                  rw [List.take_length]
                  exact h1
                exact h
              have HYN : Hid (lenOk9 ys) := hyn
              clear hx hy hxe hye hxs hys HD1 hw2 HX HY HW
              obtain ⟨xn, hxn0⟩ : ∃ xn, xn = xs.length := ⟨_, rfl⟩
              have HXN : Hid (xn = xs.length) := hxn0
              obtain ⟨yn, hyn0⟩ : ∃ yn, yn = ys.length := ⟨_, rfl⟩
              have HYN2 : Hid (yn = ys.length) := hyn0
              rw [← hxn0] at HXI HCT hxn
              rw [← hyn0] at HYI HCT hyn
              rw [← hxn0, ← hyn0]
              clear hxn0 hyn0
              have HO0 : Hid (others ys t.d 0 = 0) := others_zero ys t.d
              go_wp2
              go_loopw [10, 11] (fun c i wr => ∃ k : Nat, k ≤ yn ∧ i = .int .i64 k ∧ c = .int .i64 (others ys t.d k : Nat) ∧ Below w3.heap.size w3 wr) (fun _ i _ => yn - (intOf i).toNat)
              case atStart => exact ⟨0, by omega, rfl, by rw [HO0.out]; rfl, Below.refl _ _⟩
              case round =>
                clear hbw hkm hk
                obtain ⟨j, hj, rfl, rfl, hbj⟩ := hrel
                obtain ⟨d0, d1, -, -, -, -⟩ := T3.on hbj
                have hole := others_le ys t.d j
                by_cases hjn : j < yn
                · have hjx : j < ys.length := by rw [← HYN2.out]; exact hjn
                  obtain ⟨yad, rfl, -, hY, -⟩ := (HYI.out.on hbj).get hjx
                  obtain ⟨c0, c1, -, -, -, -, -, -, -, -, -⟩ := hY
                  have hE := neq_dot ys[j].1.x.1 t.d
                  have hi0 : (0 : Int) ≤ (j : Int) := by omega
                  have hi1 : (j : Int) < (yn : Int) := by omega
                  by_cases he : ys[j].1.x.1 = t.d
                  · have hst := others_no hjx he
                    simp only [he, decide_true, Bool.not_true] at hE
                    rw [he] at c0 c1
                    clear he
                    go_wp2
                    go_region
                    all_goals
                      go_wp2
                      go_roundw
                      case rel => exact ⟨j + 1, by omega, by go_num, by rw [hst], hbj.drew⟩
                      case measure => simp [intOf]; omega
                  · have hst := others_yes hjx he
                    simp only [he, decide_false, Bool.not_false] at hE
                    clear he
                    generalize ys[j].1.x.1 = yd at *
                    go_wp2
                    go_region
                    all_goals
                      go_wp2
                      go_roundw
                      case rel => exact ⟨j + 1, by omega, by go_num, by rw [hst]; go_num, hbj.drew⟩
                      case measure => simp [intOf]; omega
                · obtain rfl : j = yn := by omega
                  rw [HCT.out]
                  clear hole
                  go_wp2
                  go_loopw [12] (fun i wr => ∃ k : Nat, k ≤ xn ∧ i = .int .i64 k ∧ Below w3.heap.size w3 wr) (fun i _ => xn - (intOf i).toNat)
                  case atStart => exact ⟨0, by omega, rfl, hbj⟩
                  case round =>
                    clear hbj d0 d1
                    obtain ⟨i, hi, rfl, hbi⟩ := hrel
                    by_cases hin : i < xn
                    · have hix : i < xs.length := by rw [← HXN.out]; exact hin
                      obtain ⟨xad, rfl, -, hX, -⟩ := (HXI.out.on hbi).get hix
                      obtain ⟨c0, c1, c2, -, -, -, -, -, -, -, -⟩ := hX
                      have hmem : decide (xs[i].1.x ∈ ys.map fun y => y.1.x) = true := decide_eq_true (by
                        rw [HYM.out]
                        refine HD2.out _ ?_
                        rw [← HXM.out]
                        exact List.mem_map.2 ⟨_, List.getElem_mem hix, rfl⟩)
                      have HH := fun W (hb : Below w3.heap.size w3 W) => has_any _ ys xs[i].1.x W (HYI.out.on hb) HYN.out
                      rw [hmem] at HH
                      have hi0 : (0 : Int) ≤ (i : Int) := by omega
                      have hi1 : (i : Int) < (xn : Int) := by omega
                      clear hmem
                      generalize xs[i].1.x = z at *
                      go_wp2_with (go_at_call 27; refine (HH _ hbi).mono ?_; rintro e w8 ⟨rfl, hb8⟩)
                      go_roundw
                      case rel => exact ⟨i + 1, by omega, by go_num, bchain hbi hb8⟩
                      case measure => simp [intOf]; omega
                    · have hself : ((xn : Int) == (xn : Int)) = true := by simp
                      go_wp2_with (go_at_call 10; refine (awake_any _).mono ?_; rintro e w9 ⟨rfl, hb9⟩)
                      go_ret
                      exact ⟨rfl, bchain kC (bchain hbi hb9)⟩
      · have hcb : (((Tx.check t : Nat) : Int) != 0) = true := by simpa using hck
        generalize ((Tx.check t : Nat) : Int) = z at *
        obtain ⟨ao, cap, rfl⟩ := txs_slice hv
        obtain ⟨uo, uc, rfl⟩ := cnts_slice hu
        clear hv hu hw hg ho h20 hr hok h100 hstd hsh hts hck
        generalize ts.length = n at *
        generalize u.length = m at *
        generalize t.ops.length = q at *
        go_enter Try.func7, Try.ntmps7
        go_wp2_with (first
          | (go_at_call 8; rw [← hW0]; refine HG.mono ?_; rintro e w1 ⟨rfl, hb1⟩; obtain ⟨c0, c1, c2, c3, c4, c5⟩ := T0.on hb1)
          | (go_at_call 28; refine (HSh _ (bchain B0 hb1)).mono ?_; rintro e w3 ⟨rfl, hb3⟩; obtain ⟨c0, c1, c2, c3, c4, c5⟩ := T0.on (bchain hb1 hb3))
          | (go_at_call 29; refine (HCk _ (bchain B0 (bchain hb1 hb3))).mono ?_; rintro e w4 ⟨rfl, hb4⟩)
          | (go_at_call 10; refine (awake_any _).mono ?_; rintro e w2 ⟨rfl, hb2⟩))
        go_ret
        exact ⟨rfl, bchain B0 (bchain hb1 (bchain hb3 (bchain hb4 hb2)))⟩
end Go.Proofs.Ytbeinicbkbkbpaa.O
