/- The walk of the document's All · What Kinds, Under and the document's answers tell, by the items alone; the statement's same. -/
import Derived.Test.YthlhopdlkkeohaaGreatDoorKeysAll
import Derived.Test.YthlhopdlkkeohaaGreatDoorTRightAll
import Derived.Test.YthlhopdlkkeohaaGreatDoorTRLeaves
/- The walk of the document's All. -/
namespace Go.Proofs.YthlhopdlkkeohaaGreatDoor.O
open Go.RowKit

/-- A transaction that came in, an operation and a reference in variables, while an item is made. -/
structure AlS (w : World) (p : Addr) (t : Tx.Txn) (ov : Value) (bo : Nat) (o : Os.Op) (pv sv : Value) (bx : Nat) (x : U) (W : World) : Prop where
  tx : TcAt W p t ov
  op : OcAt W ⟨bo, 0, none⟩ o pv sv
  rf : CAt W ⟨bx, 0, none⟩ x
  below : Below w.heap.size w W
  tyo : ∃ cs, W.heap[bo]? = some (.cells cs 65 (0, 0))
  tyx : ∃ cs, W.heap[bx]? = some (.cells cs 70 (0, 0))
section
variable {w : World} {p : Addr} {t : Tx.Txn} {ov : Value} {bo : Nat} {o : Os.Op} {pv sv : Value} {bx : Nat} {x : U} {W W' : World}
theorem AlS.on (h : AlS w p t ov bo o pv sv bx x W) (hb : Below W.heap.size W W') : AlS w p t ov bo o pv sv bx x W' := by
  obtain ⟨h1, h2, h3, h4, ⟨c1, h5⟩, ⟨c2, h6⟩⟩ := h
  exact ⟨h1.on hb, h2.on hb, h3.on9 hb, bchain h4 hb, ⟨c1, (hb.block bo (heap_lt9 h5)).trans h5⟩, ⟨c2, (hb.block bx (heap_lt9 h6)).trans h6⟩⟩
theorem AlS.low (h : AlS w p t ov bo o pv sv bx x W) : w.heap.size ≤ W.heap.size := h.below.size
theorem AlS.grown (h : AlS w p t ov bo o pv sv bx x W) {v : Value} {xs : List Value} {n : Nat} {T : TypeId} {s : Nat} (hg : W.grownBy W' v.ownBlock) (hown : W.ownsRow w.heap.size T s v n xs) (hp : p.block < w.heap.size) (hT1 : (65 : TypeId) ≠ T := by decide) (hT2 : (70 : TypeId) ≠ T := by decide) : AlS w p t ov bo o pv sv bx x W' := by
  obtain ⟨h1, h2, h3, h4, ⟨c1, h5⟩, ⟨c2, h6⟩⟩ := h
  have n1 := own_ne_block hown h5 hT1
  have n2 := own_ne_block hown h6 hT2
  have n3 : some p.block ≠ v.ownBlock := fun e => by
    have := (hown.lt p.block e.symm).1
    omega
  obtain ⟨a0, a1, a2, a3, a4, a5⟩ := h1
  obtain ⟨b0, b1, b2, b3, b4, b5, b6⟩ := h2
  obtain ⟨d0, d1, d2⟩ := h3
  refine ⟨⟨hg.cell a0 n3, hg.cell a1 n3, hg.cell a2 n3, hg.cell a3 n3, hg.cell a4 n3, hg.cell a5 n3⟩, ⟨hg.cell b0 n1, hg.cell b1 n1, hg.cell b2 n1, hg.cell b3 n1, hg.cell b4 n1, hg.cell b5 n1, hg.cell b6 n1⟩, ⟨hg.cell d0 n2, hg.cell d1 n2, hg.cell d2 n2⟩,
    h4.grown hg h4.size (fun g e => (hown.lt g e).1), ⟨c1, ?_⟩, ⟨c2, ?_⟩⟩
  · rw [hg.block bo (heap_lt9 h5) n1]; exact h5
  · rw [hg.block bx (heap_lt9 h6) n2]; exact h6
end

set_option maxRecDepth 20000 in
set_option maxHeartbeats 1500000 in
theorem refAll_any (v vu : Value) (ts : List Tx.Txn) (u : List U) (w : World) (hv : txsIn w v ts) (hu : T.cntsIn w vu u) (hn : ts.length ≤ 1000) (hf : ∀ t ∈ ts, t.ops.length ≤ 1000 ∧ ∀ o ∈ t.ops, o.l.length ≤ 1000) (hun : u.length ≤ 1000000) (hp : Ct.Std u) :
    Calls Tryz.prog 10 #[v, vu] w fun e w' => ∃ r xs, e = .returned r ∧ itsE w' r xs ∧ xs.map (·.1) = Lv.all ts (seenD u) ∧ Below w.heap.size w w' := by
  have HCv : Hid (∀ W, Below w.heap.size w W → ∀ x, Calls Tryz.prog 31 #[v, vu, uV x] W fun e w' => e = .returned (.bool (Lv.covered ts (seenD u) x)) ∧ Below W.heap.size W w') := by
    have h := fun W (hb : Below w.heap.size w W) x => refCovered_any v vu ts u x W (hv.on hb) (hu.on hb) hn hf hun hp
    exact h
  have HU : Hid (∀ W, Below w.heap.size w W → ∀ d, Calls Tryz.prog 30 #[vu, dV d] W fun e w' => e = .returned (.bool (seenD u d)) ∧ Below W.heap.size W w') := by
    have h := fun W (hb : Below w.heap.size w W) d => refSeenD_any vu u d W (hu.on hb) hun hp
    exact h
  obtain ⟨uo, uc, rfl, _, _, h9⟩ := id hu
  clear h9
  obtain ⟨ao, cap, rfl, _, _, _⟩ := id hv
  obtain ⟨i0, hi0, hz0, hz1, hz2⟩ := iinfo81
  show Calls Tryz.prog 10 _ w fun e w' => ∃ r xs, e = .returned r ∧ itsE w' r xs ∧ xs.map (·.1) = Lv.allBy (Lv.covered ts (seenD u)) (seenD u) ts ∧ Below w.heap.size w w'
  obtain ⟨sn, hsn⟩ : ∃ sn, sn = seenD u := ⟨_, rfl⟩
  obtain ⟨cov, hcov⟩ : ∃ cov, cov = Lv.covered ts sn := ⟨_, rfl⟩
  rw [← hsn] at HU HCv ⊢
  rw [← hcov] at HCv ⊢
  clear hsn hcov hu hun hp
  obtain ⟨N9, hN9⟩ : ∃ N, (Lv.allBy cov sn ts).length = N := ⟨_, rfl⟩
  have hN9b : N9 ≤ 1000000 := by
    rw [← hN9]
    exact Nat.le_trans (Lv.allBy_len (B := 1000) fun t ht => (hf t ht).1) (Nat.mul_le_mul_right 1000 hn)
  have HN9 : Hid ((Lv.allBy cov sn ts).length = N9) := hN9
  obtain ⟨n, hn0⟩ : ∃ n, n = ts.length := ⟨_, rfl⟩
  have HN : Hid (n = ts.length) := hn0
  rw [← hn0] at hv hn HCv ⊢
  have HV : Hid (txsIn w (.slice ao n cap) ts) := hv
  have HF : Hid (∀ t ∈ ts, t.ops.length ≤ 1000) := fun t ht => (hf t ht).1
  clear hn0 hv hf hN9
  generalize u.length = un at *
  obtain ⟨vu, hvu⟩ : ∃ vu, vu = Value.slice uo un uc := ⟨_, rfl⟩
  rw [← hvu] at HU HCv ⊢
  clear hvu
  go_enter Tryz.func10, Tryz.ntmps10
  go_wp2
  go_loopw [5, 6, 7, 8, 9] (fun out i _ _ _ wr => ∃ (k : Nat) (acc : List IE), k ≤ n ∧ i = .int .i64 k ∧ Hid (acc.map (·.1) = Lv.allBy cov sn (ts.take k)) ∧ Hid (∀ x ∈ acc, IOk w x) ∧ wr.ownsRow w.heap.size 78 11 out acc.length (acc.flatMap icell) ∧ Below w.heap.size w wr) (fun _ i _ _ _ _ => n - (intOf i).toNat)
  case atStart => exact ⟨0, [], by omega, rfl, (allBy_zero cov sn ts).symm, by intro x hx; simp at hx, World.ownsRow_nil _ _ _ _, Below.refl _ _⟩
  case round =>
    obtain ⟨k, acc, hk, rfl, HA, HO, hown, hbw⟩ := hrel
    by_cases hkn : k < n
    · have hkx : k < ts.length := by rw [← HN.out]; exact hkn
      obtain ⟨ad, ov, rfl, hA0, ho0⟩ := HV.out.get hkx
      have HT : Hid (TcAt w (ad.add (k * 6)) ts[k] ov) := hA0
      obtain ⟨oo, oc, rfl⟩ := ho0.slice
      have hm1 := HF.out _ (List.getElem_mem hkx)
      have hst := Lv.allBy_step cov sn ts hkx
      have hle := allBy_le cov sn ts (k + 1)
      rw [hst, List.length_append, HN9.out] at hle
      have HE0 : Hid (acc.map (·.1) = Lv.allBy cov sn (ts.take k) ++ itTo cov sn ts[k] 0) := by
        have h := HA.out
        rw [show Lv.allBy cov sn (ts.take k) = Lv.allBy cov sn (ts.take k) ++ itTo cov sn ts[k] 0 by rw [itTo_zero, List.append_nil]] at h
        exact h
      have hlt6 : (ad.add (k * 6)).block < w.heap.size := World.block_lt_of_cell? w _ hA0.c0
      have HL : Hid (∀ j, (Lv.allBy cov sn (ts.take k)).length + (itTo cov sn ts[k] j).length ≤ N9) := fun j => by
        have := itTo_le cov sn ts[k] j
        omega
      have HS : Hid (Lv.allBy cov sn (ts.take (k + 1)) = Lv.allBy cov sn (ts.take k) ++ Lv.itemsOf cov sn ts[k]) := hst
      generalize Lv.allBy cov sn (ts.take k) = pre at *
      generalize ts[k] = t at *
      obtain ⟨m, hm⟩ : ∃ m, m = t.ops.length := ⟨_, rfl⟩
      have HM : Hid (m = t.ops.length) := hm
      rw [← hm] at ho0 HT hm1
      have HP : Hid (opsIn w (.slice oo m oc) t.ops) := ho0
      clear hm ho0 hA0 HA hst hle
      obtain ⟨-, -, -, -, -, c5⟩ := HT.out.on hbw
      go_wp2
      go_loopw [5, 7, 8, 9] (fun out i _ _ wr => ∃ (j : Nat) (acc : List IE), j ≤ m ∧ i = .int .i64 j ∧ Hid (acc.map (·.1) = pre ++ itTo cov sn t j) ∧ Hid (∀ x ∈ acc, IOk w x) ∧ wr.ownsRow w.heap.size 78 11 out acc.length (acc.flatMap icell) ∧ Below w.heap.size w wr) (fun _ i _ _ _ => m - (intOf i).toNat)
      case atStart => exact ⟨0, acc, by omega, rfl, HE0, HO, hown, hbw⟩
      case round =>
        clear HE0 hown hbw c5 HO
        obtain ⟨j, acc, hj, rfl, HA, HO, hown, hbw⟩ := hrel
        have hT := HT.out.on hbw
        obtain ⟨c0, c1, c2, c3, c4, c5⟩ := id hT
        by_cases hjm : j < m
        · have hjx : j < t.ops.length := by rw [← HM.out]; exact hjm
          obtain ⟨oad, pv, sv, rfl, hB, hps, hs⟩ := HP.out.get hjx
          obtain ⟨pa, pn, pc, rfl⟩ := strs_slice hps
          obtain ⟨sa, sq, sc, rfl⟩ := refs_slice hs
          have hM := fun h => itTo_miss (cov := cov) (sn := sn) hjx h
          have hH := fun h1 h2 h3 => itTo_hit (cov := cov) (sn := sn) hjx h1 h2 h3
          have hroom : acc.length + 1 ≤ 1000001 := by
            have h1 := congrArg List.length HA.out
            rw [List.length_map, List.length_append] at h1
            have := HL.out j
            omega
          have HU1 := fun W (hb : Below wr.heap.size wr W) => HU.out W (bchain hbw hb) t.d
          have HC1 := fun W (hb : Below wr.heap.size wr W) => HCv.out W (bchain hbw hb) (t.d, (j : Int))
          obtain ⟨b0, b1, b2, b3, b4, b5, b6⟩ := hB.on hbw
          generalize t.ops[j] = o at *
          have HM' : Hid (¬ (sn t.d = true ∧ Lv.able o.k = true ∧ cov (t.d, (j : Int)) = false) → acc.map (·.1) = pre ++ itTo cov sn t (j + 1)) := by
            have h : ¬ (sn t.d = true ∧ Lv.able o.k = true ∧ cov (t.d, (j : Int)) = false) → acc.map (·.1) = pre ++ itTo cov sn t (j + 1) := fun q => by rw [hM q]; exact HA.out
            exact h
          have HH' : Hid (sn t.d = true → Lv.able o.k = true → cov (t.d, (j : Int)) = false → (acc ++ [((⟨(t.d, (j : Int)), o, t.t⟩ : Lv.Item), Value.slice pa pn pc, Value.slice sa sq sc)]).map (·.1) = pre ++ itTo cov sn t (j + 1)) := by
            have h : sn t.d = true → Lv.able o.k = true → cov (t.d, (j : Int)) = false → (acc ++ [((⟨(t.d, (j : Int)), o, t.t⟩ : Lv.Item), Value.slice pa pn pc, Value.slice sa sq sc)]).map (·.1) = pre ++ itTo cov sn t (j + 1) := fun q1 q2 q3 => by
              rw [hH q1 q2 q3, List.map_append, HA.out, List.append_assoc]
              rfl
            exact h
          clear hM hH HA hB
          have bA := below_new wr (oO o (.slice pa pn pc) (.slice sa sq sc))
          have bB := below_new2 wr (oO o (.slice pa pn pc) (.slice sa sq sc)) (uO (t.d, (j : Int)))
          have a0 := keep_cell bA c0
          have a1 := keep_cell bA c1
          have d0 := keep_cell bB c0
          have d1 := keep_cell bB c1
          have X2 := (OAt.newU wr o.k (.slice pa pn pc) o.vk o.vn o.vs o.n (.slice sa sq sc) (t.d, (j : Int))).2
          have O2 := (OAt.newU wr o.k (.slice pa pn pc) o.vk o.vn o.vs o.n (.slice sa sq sc) (t.d, (j : Int))).1
          obtain ⟨v0, v1, v2, v3, v4, v5, v6⟩ := id O2
          by_cases h1 : o.k < 1
          · have HE : Hid (acc.map (·.1) = pre ++ itTo cov sn t (j + 1)) := by
              have h := HM'.out fun q => by
                have := of_decide_eq_true q.2.1
                omega
              exact h
            have h1' : ¬ (1 : Int) ≤ o.k := by omega
            clear HM' HH'
            go_wp2
            go_roundw
            case rel => exact ⟨j + 1, acc, by omega, by go_num, HE, HO, own_on hown bB, bchain hbw bB⟩
            case measure => simp [intOf]; omega
          · have h1' : (1 : Int) ≤ o.k := by omega
            by_cases h2 : o.k ≤ 3
            · have hab : Lv.able o.k = true := decide_eq_true ⟨h1', h2⟩
              cases hs1 : sn t.d with
              | false =>
                rw [hs1] at HU1
                have HE : Hid (acc.map (·.1) = pre ++ itTo cov sn t (j + 1)) := by
                  have h := HM'.out fun q => by rw [hs1] at q; cases q.1
                  exact h
                clear HM' HH'
                go_wp2_with (go_at_call 30; refine (HU1 _ bB).mono ?_; rintro e w1 ⟨rfl, hb1⟩)
                go_roundw
                case rel => exact ⟨j + 1, acc, by omega, by go_num, HE, HO, own_on hown (bchain bB hb1), bchain hbw (bchain bB hb1)⟩
                case measure => simp [intOf]; omega
              | true =>
                rw [hs1] at HU1
                cases hc1 : cov (t.d, (j : Int)) with
                | true =>
                  rw [hc1] at HC1
                  have HE : Hid (acc.map (·.1) = pre ++ itTo cov sn t (j + 1)) := by
                    have h := HM'.out fun q => by rw [hc1] at q; cases q.2.2
                    exact h
                  clear HM' HH'
                  go_wp2_with (first
                    | (go_at_call 30; refine (HU1 _ bB).mono ?_; rintro e w1 ⟨rfl, hb1⟩; obtain ⟨x0, x1, x2⟩ := X2.on9 hb1)
                    | (go_at_call 31; refine (HC1 _ (bchain bB hb1)).mono ?_; rintro e w2 ⟨rfl, hb2⟩))
                  go_roundw
                  case rel => exact ⟨j + 1, acc, by omega, by go_num, HE, HO, own_on hown (bchain bB (bchain hb1 hb2)), bchain hbw (bchain bB (bchain hb1 hb2))⟩
                  case measure => simp [intOf]; omega
                | false =>
                  rw [hc1] at HC1
                  have HE := HH'.out hs1 hab hc1
                  have HE : Hid ((acc ++ [((⟨(t.d, (j : Int)), o, t.t⟩ : Lv.Item), Value.slice pa pn pc, Value.slice sa sq sc)]).map (·.1) = pre ++ itTo cov sn t (j + 1)) := HE
                  have hiok : IOk w ((⟨(t.d, (j : Int)), o, t.t⟩ : Lv.Item), Value.slice pa pn pc, Value.slice sa sq sc) := ⟨hps, hs⟩
                  have HO' : Hid (∀ x ∈ acc ++ [((⟨(t.d, (j : Int)), o, t.t⟩ : Lv.Item), Value.slice pa pn pc, Value.slice sa sq sc)], IOk w x) := fun x hx => by
                    rcases List.mem_append.1 hx with hx | hx
                    · exact HO.out x hx
                    · rw [List.mem_singleton.1 hx]; exact hiok
                  have hone := icell_one hiok
                  clear HM' HH' hiok
                  go_wp2_with (first
                    | (go_at_call 30; refine (HU1 _ bB).mono ?_; rintro e w1 ⟨rfl, hb1⟩; obtain ⟨x0, x1, x2⟩ := X2.on9 hb1)
                    | (go_at_call 31; refine (HC1 _ (bchain bB hb1)).mono ?_; rintro e w2 ⟨rfl, hb2⟩))
                  have b9 := bchain bB (bchain hb1 (bchain hb2 (Below.refl _ _).drew))
                  have hown8 := own_on hown b9
                  have hO2 := (OAt.newU wr o.k (.slice pa pn pc) o.vk o.vn o.vs o.n (.slice sa sq sc) (t.d, (j : Int))).1.on (bchain hb1 (bchain hb2 (Below.refl _ _).drew))
                  have bw := bchain hb1 (bchain hb2 (Below.refl w2.heap.size w2).drew)
                  have hto : ∃ cs, w2.drew.heap[wr.heap.size]? = some (.cells cs 65 (0, 0)) := by
                    have h1 := (below_new (wr.alloc (oO o (.slice pa pn pc) (.slice sa sq sc))) (uO (t.d, (j : Int)))).block wr.heap.size (by simp)
                    exact ⟨_, (bw.block wr.heap.size (by simp; omega)).trans (h1.trans (heap_alloc_new wr _))⟩
                  have htx : ∃ cs, w2.drew.heap[wr.heap.size + 1]? = some (.cells cs 70 (0, 0)) := by
                    have e : (wr.alloc (oO o (.slice pa pn pc) (.slice sa sq sc))).heap.size = wr.heap.size + 1 := by simp
                    have h1 := heap_alloc_new (wr.alloc (oO o (.slice pa pn pc) (.slice sa sq sc))) (uO (t.d, (j : Int)))
                    rw [e] at h1
                    exact ⟨_, (bw.block (wr.heap.size + 1) (by simp)).trans h1⟩
                  have hAS : AlS w (ad.add (k * 6)) t (.slice (some oad) m oc) wr.heap.size o (.slice pa pn pc) (.slice sa sq sc) (wr.heap.size + 1) (t.d, (j : Int)) w2.drew :=
                    ⟨hT.on b9, ⟨hO2.c0, hO2.c1, hO2.c2, hO2.c3, hO2.c4, hO2.c5, hO2.c6⟩, X2.on9 (bchain hb1 (bchain hb2 (Below.refl _ _).drew)), bchain hbw b9, hto, htx⟩
                  refine wp_region_held_drew (S := fun W => AlS w (ad.add (k * 6)) t (.slice (some oad) m oc) wr.heap.size o (.slice pa pn pc) (.slice sa sq sc) (wr.heap.size + 1) (t.d, (j : Int)) W) (by kernel_rfl) (hAS) (fun hH0 => ?_)
                  refine held_take (i := 0) (o := { dst := some 65, op := Op.move (Operand.tmp 5), type := 30, pos := "ref.go:38", after := #[], guard := none }) (v := u5) (by kernel_rfl) (by kernel_rfl) (by kernel_rfl) (by kernel_rfl) (fun _ _ _ h => h) (by kernel_rfl) (fun _ _ => by kernel_rfl) hH0 ?_
                  refine held_take (i := 1) (o := { dst := some 66, op := Op.load 70 (Operand.tmp 9), type := 70, pos := "ref.go:38", after := #[], guard := none }) (v := .agg #[.int .i64 t.d.1, .int .i64 t.d.2, .int .i64 (j : Int)]) (by kernel_rfl) (by kernel_rfl) (by kernel_rfl) (by kernel_rfl) (fun _ _ _ h => h) (by kernel_rfl) (fun _ h => ex_l_ref rfl (by kernel_rfl) (h.rf.1) (h.rf.2.1) (h.rf.2.2)) hH0 ?_
                  refine held_take (i := 2) (o := { dst := some 67, op := Op.load 65 (Operand.tmp 8), type := 65, pos := "ref.go:38", after := #[], guard := none }) (v := .agg #[.int .i64 o.k, .slice pa pn pc, .int .i64 o.vk, .int .i64 o.vn, .string ⟨o.vs.toArray⟩, .int .i64 o.n, .slice sa sq sc]) (by kernel_rfl) (by kernel_rfl) (by kernel_rfl) (by kernel_rfl) (fun _ _ _ h => h) (by kernel_rfl) (fun _ h => ex_l_op rfl (by kernel_rfl) (h.op.c0) (h.op.c1) (h.op.c2) (h.op.c3) (h.op.c4) (h.op.c5) (h.op.c6)) hH0 ?_
                  refine held_take (i := 3) (o := { dst := some 68, op := Op.move (Operand.tmp 0), type := 22, pos := "ref.go:38", after := #[], guard := none }) (v := .slice (some ad) n cap) (by kernel_rfl) (by kernel_rfl) (by kernel_rfl) (by kernel_rfl) (fun _ _ _ h => h) (by kernel_rfl) (fun _ _ => by kernel_rfl) hH0 ?_
                  refine held_take (i := 4) (o := { dst := some 69, op := Op.move (Operand.tmp 6), type := 3, pos := "ref.go:38", after := #[], guard := none }) (v := .int .i64 (k : Int)) (by kernel_rfl) (by kernel_rfl) (by kernel_rfl) (by kernel_rfl) (fun _ _ _ h => h) (by kernel_rfl) (fun _ _ => by kernel_rfl) hH0 ?_
                  refine held_take (i := 5) (o := { dst := some 70, op := Op.indexAddr 22 (Operand.tmp 68) (Operand.tmp 69), type := 0, pos := "ref.go:38", after := #[{ on := 3, ground := Ground.data }, { on := 4, ground := Ground.data }], guard := none }) (v := .pointer (some (ad.add (k * 6)))) (by kernel_rfl) (by kernel_rfl) (by kernel_rfl) (by kernel_rfl) (fun _ _ _ h => h) (by kernel_rfl) (fun W _ => ex_i_txns (n := n) (c := cap) (k := k) rfl (by kernel_rfl) (by kernel_rfl) hkn W) hH0 ?_
                  refine held_take (i := 6) (o := { dst := some 71, op := Op.fieldAddr 56 (Operand.tmp 70) 2, type := 0, pos := "ref.go:38", after := #[{ on := 5, ground := Ground.data }], guard := none }) (v := .pointer (some ⟨(ad.add (k * 6)).block, (ad.add (k * 6)).off + 3, none⟩)) (by kernel_rfl) (by kernel_rfl) (by kernel_rfl) (by kernel_rfl) (fun _ _ _ h => h) (by kernel_rfl) (fun W _ => ex_f_txn_2 rfl (by kernel_rfl) W) hH0 ?_
                  refine held_take (i := 7) (o := { dst := some 72, op := Op.load 3 (Operand.tmp 71), type := 3, pos := "ref.go:38", after := #[{ on := 6, ground := Ground.data }], guard := none }) (v := .int .i64 t.t) (by kernel_rfl) (by kernel_rfl) (by kernel_rfl) (by kernel_rfl) (fun _ _ _ h => h) (by kernel_rfl) (fun _ h => ex_l1_int rfl (by kernel_rfl) (h.tx.c3)) hH0 ?_
                  refine held_take (i := 8) (o := { dst := some 73, op := Op.build 78 #[(0, Operand.tmp 66), (1, Operand.tmp 67), (2, Operand.tmp 72)], type := 78, pos := "ref.go:38", after := #[{ on := 1, ground := Ground.data }, { on := 2, ground := Ground.data }, { on := 7, ground := Ground.data }], guard := none }) (v := .agg #[.int .i64 t.d.1, .int .i64 t.d.2, .int .i64 (j : Int), .int .i64 o.k, .slice pa pn pc, .int .i64 o.vk, .int .i64 o.vn, .string ⟨o.vs.toArray⟩, .int .i64 o.n, .slice sa sq sc, .int .i64 t.t]) (by kernel_rfl) (by kernel_rfl) (by kernel_rfl) (by kernel_rfl) (fun _ _ _ h => h) (by kernel_rfl) (fun _ _ => by kernel_rfl) hH0 ?_
                  have hH1 := hH0.on (below_new w2.drew (.cells (icell ((⟨(t.d, (j : Int)), o, t.t⟩ : Lv.Item), Value.slice pa pn pc, Value.slice sa sq sc)).toArray 78))
                  refine held_run (i := 9) (o := { dst := some 74, op := Op.buildSlice 30 1 #[(0, Operand.tmp 73)], type := 30, pos := "ref.go:38", after := #[{ on := 8, ground := Ground.data }], guard := none }) (v := .slice (some ⟨w2.drew.heap.size, 0, none⟩) 1 1) (w' := (w2.drew.alloc (.cells (icell ((⟨(t.d, (j : Int)), o, t.t⟩ : Lv.Item), Value.slice pa pn pc, Value.slice sa sq sc)).toArray 78))) (by kernel_rfl) (by kernel_rfl) (by kernel_rfl) (by kernel_rfl) hH1 ?_
                  have hown9 := own_on hown8 (below_new w2.drew (.cells (icell ((⟨(t.d, (j : Int)), o, t.t⟩ : Lv.Item), Value.slice pa pn pc, Value.slice sa sq sc)).toArray 78))
                  refine held_wp (i := 10) (o := { dst := some 75, op := Op.call { callee := Callee.builtin Builtin.append, args := #[Operand.tmp 65, Operand.tmp 74], argTypes := #[30, 30] }, type := 30, pos := "ref.go:38", after := #[{ on := 0, ground := Ground.data }, { on := 9, ground := Ground.data }], guard := none }) (R := fun v' w' => w'.ownsRow w.heap.size 78 11 v' (acc ++ [((⟨(t.d, (j : Int)), o, t.t⟩ : Lv.Item), Value.slice pa pn pc, Value.slice sa sq sc)]).length ((acc ++ [((⟨(t.d, (j : Int)), o, t.t⟩ : Lv.Item), Value.slice pa pn pc, Value.slice sa sq sc)]).flatMap icell) ∧ World.grownBy (w2.drew.alloc (.cells (icell ((⟨(t.d, (j : Int)), o, t.t⟩ : Lv.Item), Value.slice pa pn pc, Value.slice sa sq sc)).toArray 78)) w' u5.ownBlock) (by kernel_rfl) (by kernel_rfl) (by kernel_rfl) (fun K9 Q9 hK9 => wp_append_item (ST := 30) (T := 78) Tryz.underlying30 hi0 hz0 hz1 hz2 rfl _ _ rfl w.heap.size (hH1.low) u5 acc (by kernel_rfl) hown9 w2.drew.heap.size ((⟨(t.d, (j : Int)), o, t.t⟩ : Lv.Item), Value.slice pa pn pc, Value.slice sa sq sc) (by kernel_rfl) (new_item w2.drew ((⟨(t.d, (j : Int)), o, t.t⟩ : Lv.Item), Value.slice pa pn pc, Value.slice sa sq sc) 78) hone hroom hK9) ?_
                  rintro v2 w3 ⟨hown2, hg2⟩
                  have hH2 := hH1.grown hg2 hown9 hlt6
                  refine ⟨hH2, ?_⟩
                  refine held_do (i := 11) (o := { dst := some 5, op := Op.assign (Operand.tmp 75), type := 30, pos := "ref.go:38", after := #[{ on := 10, ground := Ground.data }, { on := 10, ground := Ground.chain }, { on := 0, ground := Ground.phase }, { on := 1, ground := Ground.phase }, { on := 2, ground := Ground.phase }, { on := 3, ground := Ground.phase }, { on := 4, ground := Ground.phase }, { on := 5, ground := Ground.phase }, { on := 6, ground := Ground.phase }, { on := 7, ground := Ground.phase }, { on := 8, ground := Ground.phase }, { on := 9, ground := Ground.phase }, { on := 10, ground := Ground.phase }], guard := none }) (v := v2) (by kernel_rfl) (by kernel_rfl) (by kernel_rfl) (by kernel_rfl) hH2 ?_
                  refine wpAnyH_done (by kernel_rfl) ?_ _
                  simp only [Act.put, List.setIfInBounds_toArray, List.set_cons_zero, List.set_cons_succ]
                  go_wp2
                  go_roundw
                  case rel => exact ⟨j + 1, acc ++ [((⟨(t.d, (j : Int)), o, t.t⟩ : Lv.Item), Value.slice pa pn pc, Value.slice sa sq sc)], by omega, by go_num, HE, HO', hown2, hH2.below⟩
                  case measure => simp [intOf]; omega
            · have HE : Hid (acc.map (·.1) = pre ++ itTo cov sn t (j + 1)) := by
                have h := HM'.out fun q => by
                  have := of_decide_eq_true q.2.1
                  omega
                exact h
              clear HM' HH'
              go_wp2
              go_roundw
              case rel => exact ⟨j + 1, acc, by omega, by go_num, HE, HO, own_on hown bB, bchain hbw bB⟩
              case measure => simp [intOf]; omega
        · obtain rfl : j = m := by omega
          have HE : Hid (acc.map (·.1) = Lv.allBy cov sn (ts.take (k + 1))) := by
            have h := HA.out
            rw [itTo_end (by rw [← HM.out]; exact hjm), ← HS.out] at h
            exact h
          go_wp2
          go_roundw
          case rel => exact ⟨k + 1, acc, by omega, by go_num, HE, HO, hown, hbw⟩
          case measure => simp [intOf]; omega
    · have HE : Hid (acc.map (·.1) = Lv.allBy cov sn ts) := by
        have h := HA.out
        rw [List.take_of_length_le (by rw [← HN.out]; omega)] at h
        exact h
      go_wp2
      go_ret
      exact ⟨_, acc, rfl, itsE_own hown (fun x hx => (HO.out x hx).on hbw), HE.out, hbw⟩
end Go.Proofs.YthlhopdlkkeohaaGreatDoor.O
/- What Kinds, Under and the document's answers tell, by the items alone; the statement's same. -/
namespace Go.Proofs.YthlhopdlkkeohaaGreatDoor.O
open Go.RowKit

theorem refAllC {v vu : Value} {ts : List Tx.Txn} {u : List U} {w : World} (hv : txsIn w v ts) (hu : T.cntsIn w vu u) (hn : ts.length ≤ 1000) (hg : ∀ t ∈ ts, okT t = true) (hun : u.length ≤ 1000000) (hp : Ct.Std u) : AllC 10 w v vu (Lv.all ts (seenD u)) := fun W hb =>
  (refAll_any v vu ts u W (hv.on hb) (hu.on hb) hn (fun t ht => ⟨(okT_few (hg t ht)).1, fun o ho => ((okT_few (hg t ht)).2 o ho).1⟩) hun hp).mono fun _ _ ⟨r, xs, h1, h2, h3, h4⟩ => ⟨r, h1, ⟨xs, h2, h3, all_short hg h3, all_len hn hg h3⟩, h4⟩
section
variable {its : List Lv.Item} {r vp : Value} {p : List (List UInt8)} {w : World}
end
theorem kinds_len (its : List Lv.Item) (p : List (List UInt8)) : (Tr.kinds its p).length ≤ 3 := by
  unfold Tr.kinds
  exact List.length_filter_le _ _
end Go.Proofs.YthlhopdlkkeohaaGreatDoor.O
