/- The walk of the program's All · The walks of the program's Compare and of the document's. -/
import Derived.Test.YthlhopdlkkeohaaGreatDoorKeysAll
import Derived.Test.YthlhopdlkkeohaaGreatDoorRefsAll
import Derived.Test.YthlhopdlkkeohaaGreatDoorReaderAll
import Derived.Deep.RegionHeld3
import Derived.Test.YthlhopdlkkeohaaGreatDoorPlainAll
import Derived.Lib.Small
/- The walk of the program's All. -/
namespace Go.Proofs.YthlhopdlkkeohaaGreatDoor.O
open Go.RowKit Go.Maps

theorem leaves_any (k : Int) (w : World) : Calls Tryz.prog 29 #[.int .i64 k] w fun e w' => e = .returned (.bool (Lv.able k)) ∧ w' = w := by
  by_cases h1 : k = 1
  · subst h1
    go_enter Tryz.func29, Tryz.ntmps29
    go_wp2
    go_ret
    exact ⟨rfl, rfl⟩
  by_cases h2 : k = 2
  · subst h2
    go_enter Tryz.func29, Tryz.ntmps29
    go_wp2
    go_ret
    exact ⟨rfl, rfl⟩
  by_cases h3 : k = 3
  · subst h3
    go_enter Tryz.func29, Tryz.ntmps29
    go_wp2
    go_ret
    exact ⟨rfl, rfl⟩
  have e : Lv.able k = false := decide_eq_false (by omega)
  have e1 : (k == 1) = false := beq_eq_false_iff_ne.2 h1
  have e2 : (k == 2) = false := beq_eq_false_iff_ne.2 h2
  have e3 : (k == 3) = false := beq_eq_false_iff_ne.2 h3
  rw [e]
  go_enter Tryz.func29, Tryz.ntmps29
  go_wp2
  go_ret
  exact ⟨rfl, rfl⟩
theorem map_on {w w' : World} {b n : Nat} {D : DataW Unit} (h : w.ownsMap Tryz.prog 70 unitElem b n D) (hb : Below w.heap.size w w') : w'.ownsMap Tryz.prog 70 unitElem b n D :=
  h.kept (row := none) ⟨hb.os, hb.tape, hb.output, hb.size, fun k hk _ => hb.block k hk⟩ (by simp)
theorem TAt.row {w : World} {b : Nat} {t : Tx.Txn} {ov : Value} (h : w.heap[b]? = some (txO t ov)) : TAt w b t ov :=
  ⟨by rw [cell_of_row _ b 0 _ 56 (0, 0) h]; rfl, by rw [cell_of_row _ b 1 _ 56 (0, 0) h]; rfl, by rw [cell_of_row _ b 2 _ 56 (0, 0) h]; rfl, by rw [cell_of_row _ b 3 _ 56 (0, 0) h]; rfl, by rw [cell_of_row _ b 4 _ 56 (0, 0) h]; rfl, by rw [cell_of_row _ b 5 _ 56 (0, 0) h]; rfl⟩
theorem txsE_own9 {w : World} {v : Value} {xs : List TE} (h : txsE w v xs) : txsIn w v (xs.map (·.1)) := by
  obtain ⟨ao, cap, rfl, hm, h0, hc, ho⟩ := h
  refine ⟨ao, cap, by rw [List.length_map], by rw [List.length_map]; exact hm, h0, fun k hk => ?_⟩
  have hk' : k < xs.length := by simpa using hk
  obtain ⟨ad, e, h1, h2⟩ := (show txsE w (.slice ao xs.length cap) xs from ⟨ao, cap, rfl, hm, h0, hc, ho⟩).get hk'
  refine ⟨ad, xs[k].2, e, ?_, by simpa using h2⟩
  have q : ∀ i, 0 < i → (ad.add (k * 6)).add i = ⟨(ad.add (k * 6)).block, (ad.add (k * 6)).off + i, none⟩ := fun i hi => by unfold Addr.add; rw [if_neg (by omega)]
  simp only [List.getElem_map]
  refine ⟨?_, ?_, ?_, ?_, ?_, ?_⟩
  · have h := h1 0 _ rfl
    rwa [show (ad.add (k * 6)).add 0 = ad.add (k * 6) by unfold Addr.add; simp] at h
  · rw [← q 1 (by omega)]; exact h1 1 _ rfl
  · rw [← q 2 (by omega)]; exact h1 2 _ rfl
  · rw [← q 3 (by omega)]; exact h1 3 _ rfl
  · rw [← q 4 (by omega)]; exact h1 4 _ rfl
  · rw [← q 5 (by omega)]; exact h1 5 _ rfl
theorem row_on {w w' : World} {b : Nat} {o : Obj} (h : w.heap[b]? = some o) (hb : Below w.heap.size w w') : w'.heap[b]? = some o := (hb.block b (heap_lt9 h)).trans h
/-- One item is appended, in a region that draws no order. -/
theorem append_item {ops : Array Oper} {rest : List Oper} {o : Oper} {a : Act} {w : World} {Q : Exit → Act → World → Prop} {ST T : TypeId} {i0 : TypeInfo} {z : Value} (hgd : o.guard = none) (hu : Tryz.prog.underlying ST = some (.slice T)) (hi : Tryz.prog.info? T = some i0) (hz : i0.zero = some z) (hz1 : i0.size = 11) (hz2 : i0.bytes = 128) (hz3 : z.cells.size = 11) (s x : Operand)
    (ho : o.op = .call { callee := .builtin .append, args := #[s, x], argTypes := #[ST, ST] }) (B : Nat) (hB : B ≤ w.heap.size) (r : Value) (acc : List IE) (hs : a.eval s = r) (hown : w.ownsRow B T 11 r acc.length (acc.flatMap icell))
    (g : Nat) (y : IE) (hx : a.eval x = .slice (some ⟨g, 0, none⟩) 1 1) (hv : ∀ j v, ([y].flatMap icell)[j]? = some v → w.cell? ((⟨g, 0, none⟩ : Addr).add j) = some v) (hone : ∀ u ∈ icell y, u.oneCell' = true) (hn : acc.length + 1 ≤ 1000001)
    (h : ∀ r' w', w'.ownsRow B T 11 r' (acc ++ [y]).length ((acc ++ [y]).flatMap icell) → w.grownBy w' r.ownBlock → wpList Tryz.prog ops Q rest (a.put o.dst r') w') : wpList Tryz.prog ops Q (o :: rest) a w :=
  wpList_plain hgd fun _ hK => wp_append_item hu hi hz hz1 hz2 hz3 s x ho B hB r acc hs hown g y hx hv hone hn fun r' w' ⟨h1, h2⟩ => hK _ _ (h r' w' h1 h2)

set_option maxRecDepth 20000 in
set_option maxHeartbeats 2000000 in
theorem all_any (v vu : Value) (ts : List Tx.Txn) (u : List U) (w : World) (hv : txsIn w v ts) (hu : T.cntsIn w vu u) (hn : ts.length ≤ 1000) (hf : Few13 ts) (hg : ∀ t ∈ ts, (Lit.int .i64 t.d.1).wf = true ∧ (Lit.int .i64 t.d.2).wf = true) (hun : u.length ≤ 1000000) (hp : Ct.Std u) :
    Calls Tryz.prog 9 #[v, vu] w fun e w' => ∃ r xs, e = .returned r ∧ itsE w' r xs ∧ xs.map (·.1) = Lv.all ts (seenD u) ∧ Below w.heap.size w w' := by
  obtain ⟨xs0, hxs0, hvE⟩ := txsE_of hv
  have HC := counting_any v vu xs0 u w hvE hu (by have h := congrArg List.length hxs0; rw [List.length_map] at h; omega) hun hp
  show Calls Tryz.prog 9 _ w fun e w' => ∃ r xs, e = .returned r ∧ itsE w' r xs ∧ xs.map (·.1) = Lv.allBy (Lv.covered ts (seenD u)) (seenD u) ts ∧ Below w.heap.size w w'
  rw [← allBy_filter]
  generalize hsn : seenD u = sn at *
  obtain ⟨ts', hts'⟩ : ∃ ts', ts' = ts.filter fun t => sn t.d := ⟨_, rfl⟩
  have hmap : (xs0.filter fun x => sn x.1.d).map (·.1) = ts' := by
    rw [hts', ← hxs0, List.filter_map]
    rfl
  have hmem : ∀ t ∈ ts', t ∈ ts := fun t ht => by rw [hts'] at ht; exact (List.mem_filter.1 ht).1
  have hn' : ts'.length ≤ 1000 := by rw [hts']; exact Nat.le_trans (List.length_filter_le _ _) hn
  have hf' : Few13 ts' := fun t ht => hf t (hmem t ht)
  have hcov : Lv.covered ts sn = fun x => decide (x ∈ namesT ts') := funext fun x => by rw [hts']; exact (covered_filter ts sn x).symm
  rw [← hts', hcov]
  have HG : Hid (∀ t ∈ ts', (Lit.int .i64 t.d.1).wf = true ∧ (Lit.int .i64 t.d.2).wf = true) := fun t ht => hg t (hmem t ht)
  have HNL : Hid (∀ x ∈ namesT ts', goU x) := fun x hx => by
    obtain ⟨t, ht, o, ho, hxo⟩ := mem_namesT.1 hx
    exact ((hf' t ht).2 o ho).2 x hxo
  have HCB : Hid (∀ r W, txsIn W r ts' → Calls Tryz.prog 28 #[r] W fun e w' => e = .returned (.map (some W.heap.size)) ∧ (∃ n, n ≤ 1000000000 ∧ w'.ownsMap Tryz.prog 70 unitElem W.heap.size n (refSet (namesT ts'))) ∧ Below W.heap.size W w') := fun r W hr => coveredBy_any r ts' W hr hn' hf'
  have HTX : Hid (∀ r W, txsE W r (xs0.filter fun x => sn x.1.d) → txsIn W r ts') := fun r W hr => by
    have h := txsE_own9 hr
    rw [hmap] at h
    exact h
  have HF : Hid (∀ t ∈ ts', t.ops.length ≤ 1000) := fun t ht => (hf' t ht).1
  obtain ⟨N9, hN9⟩ : ∃ N, (Lv.allBy (fun x => decide (x ∈ namesT ts')) (fun _ => true) ts').length = N := ⟨_, rfl⟩
  have hN9b : N9 ≤ 1000000 := by
    rw [← hN9]
    exact Nat.le_trans (Lv.allBy_len (B := 1000) fun t ht => (hf' t ht).1) (Nat.mul_le_mul_right 1000 hn')
  have HN9 : Hid ((Lv.allBy (fun x => decide (x ∈ namesT ts')) (fun _ => true) ts').length = N9) := hN9
  obtain ⟨cov, hcv⟩ : ∃ cov : U → Bool, cov = fun x => decide (x ∈ namesT ts') := ⟨_, rfl⟩
  have HCV : Hid (∀ x, cov x = decide (x ∈ namesT ts')) := fun x => by rw [hcv]
  rw [← hcv] at HN9 ⊢
  generalize (xs0.filter fun x => sn x.1.d) = xs' at *
  obtain ⟨L, hL⟩ : ∃ L, L = namesT ts' := ⟨_, rfl⟩
  rw [← hL] at HCB HNL HCV
  clear hv hvE hxs0 hn hf hg hp hu hun hsn hmap hmem hf' hcov hts' hN9 hcv hL
  obtain ⟨n, hn0⟩ : ∃ n, n = ts'.length := ⟨_, rfl⟩
  have HN : Hid (n = ts'.length) := hn0
  have hnl := hn'
  rw [← hn0] at hn'
  clear hn0
  obtain ⟨i0, hi0, hz0, hz1, hz2⟩ := iinfo56
  go_enter Tryz.func9, Tryz.ntmps9
  go_wp2_with (first
    | (go_at_call 27; refine HC.mono ?_; rintro e w1 ⟨r, rfl, hr, hb1⟩; have hr1 := HTX.out r w1 hr; obtain ⟨ao, cap, rfl, -⟩ := id hr1)
    | (go_at_call 28; refine (HCB.out _ w1 hr1).mono ?_; rintro e W2 ⟨rfl, ⟨nn, hnn, hM⟩, hb2⟩))
  rw [← HN.out] at hr1 ⊢
  have HV : Hid (txsIn W2 (.slice ao n cap) ts') := by
    have h := hr1.on hb2
    exact h
  have hb12 := bchain hb1 hb2
  clear hr hr1 hb1 HC HCB HTX hnl
  have hbs : w1.heap.size < W2.heap.size := hM.lt
  obtain ⟨mb, hmb⟩ : ∃ mb, mb = w1.heap.size := ⟨_, rfl⟩
  rw [← hmb] at hM hbs
  simp only [← hmb]
  clear hmb hb2
  go_loopw [6, 8, 9, 10, 11, 12, 13, 21] (fun out _ _ _ _ _ _ i wr => ∃ (k : Nat) (acc : List IE), k ≤ n ∧ i = .int .i64 k ∧ Hid (acc.map (·.1) = Lv.allBy cov (fun _ => true) (ts'.take k)) ∧ Hid (∀ x ∈ acc, IOk W2 x) ∧ wr.ownsRow W2.heap.size 76 11 out acc.length (acc.flatMap icell) ∧ Below W2.heap.size W2 wr) (fun _ _ _ _ _ _ _ i _ => n - (intOf i).toNat)
  case atStart => exact ⟨0, [], by omega, rfl, (allBy_zero cov _ ts').symm, by intro x hx; simp at hx, World.ownsRow_nil _ _ _ _, Below.refl _ _⟩
  case round =>
    obtain ⟨k, acc, hk, rfl, HA, HO, hown, hbw⟩ := hrel
    by_cases hkn : k < n
    · have hkx : k < ts'.length := by rw [← HN.out]; exact hkn
      obtain ⟨ad, ov, rfl, hA0, ho0⟩ := HV.out.get hkx
      obtain ⟨oo, oc, rfl⟩ := ho0.slice
      have hm1 := HF.out _ (List.getElem_mem hkx)
      have hgd := HG.out _ (List.getElem_mem hkx)
      have hst := Lv.allBy_step cov (fun _ => true) ts' hkx
      have hle := allBy_le cov (fun _ => true) ts' (k + 1)
      rw [hst, List.length_append, HN9.out] at hle
      have HE0 : Hid (acc.map (·.1) = Lv.allBy cov (fun _ => true) (ts'.take k) ++ itTo cov (fun _ => true) ts'[k] 0) := by
        have h := HA.out
        rw [show Lv.allBy cov (fun _ => true) (ts'.take k) = Lv.allBy cov (fun _ => true) (ts'.take k) ++ itTo cov (fun _ => true) ts'[k] 0 by rw [itTo_zero, List.append_nil]] at h
        exact h
      have HL : Hid (∀ j, (Lv.allBy cov (fun _ => true) (ts'.take k)).length + (itTo cov (fun _ => true) ts'[k] j).length ≤ N9) := fun j => by
        have := itTo_le cov (fun _ => true) ts'[k] j
        omega
      have HS : Hid (Lv.allBy cov (fun _ => true) (ts'.take (k + 1)) = Lv.allBy cov (fun _ => true) (ts'.take k) ++ Lv.itemsOf cov (fun _ => true) ts'[k]) := hst
      obtain ⟨c0, c1, c2, c3, c4, c5⟩ := hA0.on hbw
      generalize Lv.allBy cov (fun _ => true) (ts'.take k) = pre at *
      generalize ts'[k] = t at *
      obtain ⟨m, hm⟩ : ∃ m, m = t.ops.length := ⟨_, rfl⟩
      have HM : Hid (m = t.ops.length) := hm
      rw [← hm] at ho0 c5 hm1
      have HP : Hid (opsIn W2 (.slice oo m oc) t.ops) := ho0
      clear hm ho0 hA0 HA hst hle
      have hB1 := below_new wr (txO t (.slice oo m oc))
      obtain ⟨bt, hbt⟩ : ∃ bt, bt = wr.heap.size := ⟨_, rfl⟩
      have HBT : Hid (bt = wr.heap.size) := hbt
      have hbt0 : (wr.alloc (txO t (.slice oo m oc))).heap[bt]? = some (txO t (.slice oo m oc)) := by rw [hbt]; exact heap_alloc_new wr _
      have hown1 := own_on hown hB1
      have hbw1 := bchain hbw hB1
      clear hbt
      go_wp2
      simp only [← HBT.out]
      go_loopw [6, 9, 10, 11, 12, 13, 28] (fun out _ _ _ _ _ i wr => ∃ (j : Nat) (acc : List IE), j ≤ m ∧ i = .int .i64 j ∧ Hid (acc.map (·.1) = pre ++ itTo cov (fun _ => true) t j) ∧ Hid (∀ x ∈ acc, IOk W2 x) ∧ wr.ownsRow W2.heap.size 76 11 out acc.length (acc.flatMap icell) ∧ Below W2.heap.size W2 wr ∧ wr.heap[bt]? = some (txO t (.slice oo m oc))) (fun _ _ _ _ _ _ i _ => m - (intOf i).toNat)
      case atStart => exact ⟨0, acc, by omega, rfl, HE0, HO, hown1, hbw1, hbt0⟩
      case round =>
        clear HE0 hown hbw HO hB1 hbt0 hown1 hbw1 c0 c1 c2 c3 c4 c5 HBT
        obtain ⟨j, acc, hj, rfl, HA, HO, hown, hbw, hbt⟩ := hrel
        by_cases hjm : j < m
        · have hjx : j < t.ops.length := by rw [← HM.out]; exact hjm
          obtain ⟨oad, pv, sv, rfl, hB, hps, hs⟩ := HP.out.get hjx
          obtain ⟨pa, pn, pc, rfl⟩ := strs_slice hps
          obtain ⟨sa, sq, sc, rfl⟩ := refs_slice hs
          have hMi := fun h => itTo_miss (cov := cov) (sn := fun _ => true) hjx h
          have hH := fun h2 h3 => itTo_hit (cov := cov) (sn := fun _ => true) hjx rfl h2 h3
          have hroom : acc.length + 1 ≤ 1000001 := by
            have h1 := congrArg List.length HA.out
            rw [List.length_map, List.length_append] at h1
            have := HL.out j
            omega
          obtain ⟨b0, b1, b2, b3, b4, b5, b6⟩ := hB.on hbw
          generalize t.ops[j] = o at *
          have HM' : Hid (¬ (Lv.able o.k = true ∧ cov (t.d, (j : Int)) = false) → acc.map (·.1) = pre ++ itTo cov (fun _ => true) t (j + 1)) := by
            have h : ¬ (Lv.able o.k = true ∧ cov (t.d, (j : Int)) = false) → acc.map (·.1) = pre ++ itTo cov (fun _ => true) t (j + 1) := fun q => by rw [hMi fun q9 => q ⟨q9.2.1, q9.2.2⟩]; exact HA.out
            exact h
          have HH' : Hid (Lv.able o.k = true → cov (t.d, (j : Int)) = false → (acc ++ [((⟨(t.d, (j : Int)), o, t.t⟩ : Lv.Item), Value.slice pa pn pc, Value.slice sa sq sc)]).map (·.1) = pre ++ itTo cov (fun _ => true) t (j + 1)) := by
            have h : Lv.able o.k = true → cov (t.d, (j : Int)) = false → (acc ++ [((⟨(t.d, (j : Int)), o, t.t⟩ : Lv.Item), Value.slice pa pn pc, Value.slice sa sq sc)]).map (·.1) = pre ++ itTo cov (fun _ => true) t (j + 1) := fun q2 q3 => by
              rw [hH q2 q3, List.map_append, HA.out, List.append_assoc]
              rfl
            exact h
          clear hMi hH HA hB
          have hT := TAt.row hbt
          have bA := below_new wr (oO o (.slice pa pn pc) (.slice sa sq sc))
          have bB := below_new2 wr (oO o (.slice pa pn pc) (.slice sa sq sc)) (uO (t.d, (j : Int)))
          have bC := bchain bB (below_new _ (.cells #[] 72))
          obtain ⟨a0, a1, a2, a3, a4, a5⟩ := hT.on bA
          obtain ⟨d0, d1, d2, d3, d4, d5⟩ := hT.on bC
          have hgx : goU (t.d, (j : Int)) := ⟨hgd.1, hgd.2, WalkArith.wf_i64 (by omega)⟩
          have hkey := keyL_of hgx
          have hhas : Maps.has (refSet L) (keyL (t.d, (j : Int))) = cov (t.d, (j : Int)) := by rw [HCV.out]; exact has_refSet HNL.out hgx
          have hMB := map_on (map_on hM hbw) bB
          obtain ⟨v0, v1, v2, v3, v4, v5, v6⟩ := (OAt.newU wr o.k (.slice pa pn pc) o.vk o.vn o.vs o.n (.slice sa sq sc) (t.d, (j : Int))).1.on (below_new _ (.cells #[] 72))
          obtain ⟨x0, x1, x2⟩ := (OAt.newU wr o.k (.slice pa pn pc) o.vk o.vn o.vs o.n (.slice sa sq sc) (t.d, (j : Int))).2.on9 (below_new _ (.cells #[] 72))
          cases hc1 : cov (t.d, (j : Int)) with
          | true =>
            rw [hc1] at hhas
            have HE : Hid (acc.map (·.1) = pre ++ itTo cov (fun _ => true) t (j + 1)) := by
              have h := HM'.out fun q => by rw [hc1] at q; cases q.2
              exact h
            clear HM' HH'
            go_wp2_with (first
              | (at_lookup; refine wpList_lookup_own_unit _ rfl _ _ 67 rfl 70 72 keyLaw Tryz.underlying67 (zero78 _) mb nn _ rfl hMB _ _ rfl hkey ?_; rw [hhas])
              | (go_at_call 29; refine (leaves_any _ _).mono ?_; rintro e w9 ⟨rfl, rfl⟩)
              | go_in)
            go_roundw
            case rel => exact ⟨j + 1, acc, by omega, by go_num, HE, HO, own_on hown bC, bchain hbw bC, row_on hbt bC⟩
            case measure => simp [intOf]; omega
          | false =>
            rw [hc1] at hhas
            cases hab : Lv.able o.k with
            | false =>
              have HLv := leaves_any o.k
              rw [hab] at HLv
              have HE : Hid (acc.map (·.1) = pre ++ itTo cov (fun _ => true) t (j + 1)) := by
                have h := HM'.out fun q => by rw [hab] at q; cases q.1
                exact h
              clear HM' HH'
              go_wp2_with (first
                | (at_lookup; refine wpList_lookup_own_unit _ rfl _ _ 67 rfl 70 72 keyLaw Tryz.underlying67 (zero78 _) mb nn _ rfl hMB _ _ rfl hkey ?_; rw [hhas])
                | (go_at_call 29; refine (HLv _).mono ?_; rintro e w9 ⟨rfl, rfl⟩)
                | go_in)
              go_roundw
              case rel => exact ⟨j + 1, acc, by omega, by go_num, HE, HO, own_on hown bC, bchain hbw bC, row_on hbt bC⟩
              case measure => simp [intOf]; omega
            | true =>
              have HLv := leaves_any o.k
              rw [hab] at HLv
              have HE : Hid ((acc ++ [((⟨(t.d, (j : Int)), o, t.t⟩ : Lv.Item), Value.slice pa pn pc, Value.slice sa sq sc)]).map (·.1) = pre ++ itTo cov (fun _ => true) t (j + 1)) := HH'.out hab hc1
              have hiok : IOk W2 ((⟨(t.d, (j : Int)), o, t.t⟩ : Lv.Item), Value.slice pa pn pc, Value.slice sa sq sc) := ⟨hps, hs⟩
              have HO' : Hid (∀ x ∈ acc ++ [((⟨(t.d, (j : Int)), o, t.t⟩ : Lv.Item), Value.slice pa pn pc, Value.slice sa sq sc)], IOk W2 x) := fun x hx => by
                rcases List.mem_append.1 hx with hx | hx
                · exact HO.out x hx
                · rw [List.mem_singleton.1 hx]; exact hiok
              have hone := icell_one hiok
              have bD := bchain bC (below_new _ (.cells (icell ((⟨(t.d, (j : Int)), o, t.t⟩ : Lv.Item), Value.slice pa pn pc, Value.slice sa sq sc)).toArray 76))
              have hownD := own_on hown bD
              have hbwD := bchain hbw bD
              have hbtD := row_on hbt bD
              have hnew := new_item (((wr.alloc (oO o (.slice pa pn pc) (.slice sa sq sc))).alloc (uO (t.d, (j : Int)))).alloc (.cells #[] 72)) ((⟨(t.d, (j : Int)), o, t.t⟩ : Lv.Item), Value.slice pa pn pc, Value.slice sa sq sc) 76
              rw [show (((wr.alloc (oO o (.slice pa pn pc) (.slice sa sq sc))).alloc (uO (t.d, (j : Int)))).alloc (.cells #[] 72)).heap.size = wr.heap.size + 1 + 1 + 1 by simp] at hnew
              clear HM' HH' hiok
              go_wp2_with (first
                | (at_lookup; refine wpList_lookup_own_unit _ rfl _ _ 67 rfl 70 72 keyLaw Tryz.underlying67 (zero78 _) mb nn _ rfl hMB _ _ rfl hkey ?_; rw [hhas])
                | (go_at_call 29; refine (HLv _).mono ?_; rintro e w9 ⟨rfl, rfl⟩)
                | (at_builtin; refine append_item (ST := 28) (T := 76) rfl Tryz.underlying28 hi0 hz0 hz1 hz2 rfl _ _ rfl W2.heap.size hbwD.size _ acc rfl hownD _ ((⟨(t.d, (j : Int)), o, t.t⟩ : Lv.Item), Value.slice pa pn pc, Value.slice sa sq sc) rfl hnew hone hroom ?_; intro v2 w3 hown2 hg2)
                | go_in)
              go_roundw
              case rel => exact ⟨j + 1, acc ++ [((⟨(t.d, (j : Int)), o, t.t⟩ : Lv.Item), Value.slice pa pn pc, Value.slice sa sq sc)], by omega, by go_num, HE, HO', hown2, hbwD.grown hg2 hbwD.size (fun g e => (hownD.lt g e).1), (hg2.block bt (heap_lt9 hbtD) (own_ne_block hownD hbtD (by decide))).trans hbtD⟩
              case measure => simp [intOf]; omega
        · obtain rfl : j = m := by omega
          have HE : Hid (acc.map (·.1) = Lv.allBy cov (fun _ => true) (ts'.take (k + 1))) := by
            have h := HA.out
            rw [itTo_end (by rw [← HM.out]; exact hjm), ← HS.out] at h
            exact h
          go_wp2
          go_roundw
          case rel => exact ⟨k + 1, acc, by omega, by go_num, HE, HO, hown, hbw⟩
          case measure => simp [intOf]; omega
    · have HE : Hid (acc.map (·.1) = Lv.allBy cov (fun _ => true) ts') := by
        have h := HA.out
        rw [List.take_of_length_le (by rw [← HN.out]; omega)] at h
        exact h
      go_wp2
      go_ret
      exact ⟨_, acc, rfl, itsE_own hown (fun x hx => (HO.out x hx).on hbw), HE.out, bchain hb12 hbw⟩
end Go.Proofs.YthlhopdlkkeohaaGreatDoor.O
/- The walks of the program's Compare and of the document's. -/
namespace Go.Proofs.YthlhopdlkkeohaaGreatDoor.U
open Go.RowKit

theorem wrap_i64 {e : Int} (h : -9223372036854775808 ≤ e) (h' : e < 9223372036854775808) : IntKind.i64.wrap e = e := by
  simp [IntKind.wrap, IntKind.signed, IntKind.bits]; try split
  all_goals omega
/-! ### The document's -/
theorem ints_any (x y : Int) (w : World) : Calls Tryz.prog 96 #[.int .i64 x, .int .i64 y] w fun e w' => e = .returned (.int .i64 (Lib.compareInt x y)) ∧ w' = w := by
  by_cases h : x < y
  · rw [show Lib.compareInt x y = -1 by unfold Lib.compareInt; rw [if_pos h]]
    go_enter Tryz.func96, Tryz.ntmps96
    go_wp2
    go_ret
    exact ⟨rfl, rfl⟩
  · by_cases h' : y < x
    · rw [show Lib.compareInt x y = 1 by unfold Lib.compareInt; rw [if_neg h, if_pos h']]
      go_enter Tryz.func96, Tryz.ntmps96
      go_wp2
      go_ret
      exact ⟨rfl, rfl⟩
    · rw [show Lib.compareInt x y = 0 by unfold Lib.compareInt; rw [if_neg h, if_neg h']]
      go_enter Tryz.func96, Tryz.ntmps96
      go_wp2
      go_ret
      exact ⟨rfl, rfl⟩

theorem drop_consC {s : ByteArray} {pos : Nat} (h : pos < s.size) : s.data.toList.drop pos = s[pos] :: s.data.toList.drop (pos + 1) := by
  rw [List.drop_eq_getElem_cons (by rw [size_len]; exact h)]
  rfl
/-- How far two texts are alike. -/
def likeTo (a b : List UInt8) (k : Nat) : Prop := k ≤ a.length ∧ k ≤ b.length ∧ Lib.compareBytes a b = Lib.compareBytes (a.drop k) (b.drop k)
theorem likeTo_zero (a b : List UInt8) : likeTo a b 0 := ⟨by omega, by omega, by simp⟩
theorem likeTo_succ {s t : ByteArray} {k : Nat} (h : likeTo s.data.toList t.data.toList k) (h1 : k < s.size) (h2 : k < t.size) (e : s[k] = t[k]) : likeTo s.data.toList t.data.toList (k + 1) := by
  refine ⟨by rw [size_len]; omega, by rw [size_len]; omega, ?_⟩
  rw [h.2.2, drop_consC h1, drop_consC h2, e]
  simp [Lib.compareBytes]
theorem likeTo_diff {s t : ByteArray} {k : Nat} (h : likeTo s.data.toList t.data.toList k) (h1 : k < s.size) (h2 : k < t.size) (e : s[k] ≠ t[k]) : Lib.compareBytes s.data.toList t.data.toList = Lib.compareInt (s[k].toNat : Int) (t[k].toNat : Int) := by
  rw [h.2.2, drop_consC h1, drop_consC h2]
  have : s[k].toNat ≠ t[k].toNat := fun x => e (UInt8.toNat_inj.1 x)
  simp only [Lib.compareBytes, Lib.compareInt, UInt8.lt_iff_toNat_lt]
  by_cases h3 : s[k].toNat < t[k].toNat
  · rw [if_pos h3, if_pos (by omega)]
  · rw [if_neg h3, if_pos (by omega), if_neg (by omega), if_pos (by omega)]
theorem likeTo_end {s t : ByteArray} {k : Nat} (h : likeTo s.data.toList t.data.toList k) (hk : ¬ (k < s.size ∧ k < t.size)) : Lib.compareBytes s.data.toList t.data.toList = Lib.compareInt (s.size : Int) (t.size : Int) := by
  obtain ⟨h1, h2, h3⟩ := h
  rw [size_len] at h1 h2
  rw [h3]
  by_cases e : k < s.size
  · have e2 : k = t.size := by omega
    rw [drop_consC e, show t.data.toList.drop k = [] from List.drop_eq_nil_of_le (by rw [size_len]; omega)]
    simp only [Lib.compareBytes, Lib.compareInt]
    rw [if_neg (by omega), if_pos (by omega)]
  · rw [show s.data.toList.drop k = [] from List.drop_eq_nil_of_le (by rw [size_len]; omega)]
    by_cases e2 : k < t.size
    · rw [drop_consC e2]
      simp only [Lib.compareBytes, Lib.compareInt]
      rw [if_pos (by omega)]
    · rw [show t.data.toList.drop k = [] from List.drop_eq_nil_of_le (by rw [size_len]; omega)]
      simp only [Lib.compareBytes, Lib.compareInt]
      rw [if_neg (by omega), if_neg (by omega)]

set_option maxRecDepth 20000 in
set_option maxHeartbeats 2000000 in
theorem refTexts_any (s t : ByteArray) (w : World) (hs : s.size ≤ 2000000) :
    Calls Tryz.prog 58 #[.string s, .string t] w fun e w' => e = .returned (.int .i64 (Lib.compareBytes s.data.toList t.data.toList)) ∧ Below w.heap.size w w' := by
  go_enter Tryz.func58, Tryz.ntmps58
  go_wp2
  go_loopw [5] (fun i wr => ∃ k : Nat, i = .int .i64 k ∧ likeTo s.data.toList t.data.toList k ∧ Below w.heap.size w wr) (fun i _ => s.size - (intOf i).toNat)
  case atStart => exact ⟨0, rfl, likeTo_zero _ _, Below.refl _ w⟩
  case round =>
    obtain ⟨k, rfl, hR, hbw⟩ := hrel
    have hl1 := hR.1
    have hl2 := hR.2.1
    rw [size_len] at hl1 hl2
    by_cases h1 : k < s.size
    · by_cases h2 : k < t.size
      · by_cases e : s[k] = t[k]
        · have HR : Hid (likeTo s.data.toList t.data.toList (k + 1)) := by
            have h := likeTo_succ hR h1 h2 e
            exact h
          have en : (((s[k]).toNat : Int) != ((t[k]).toNat : Int)) = false := by rw [e]; simp
          clear hR e
          go_wp2
          go_region
          all_goals
            go_wp2
            go_roundw
            case rel => exact ⟨k + 1, by go_num, HR.out, hbw.drew⟩
            case measure => simp [intOf]; omega
        · have HL : Hid (Lib.compareBytes s.data.toList t.data.toList = Lib.compareInt (s[k].toNat : Int) (t[k].toNat : Int)) := by
            have h := likeTo_diff hR h1 h2 e
            exact h
          have hn : s[k].toNat ≠ t[k].toNat := fun x => e (UInt8.toNat_inj.1 x)
          have en : (((s[k]).toNat : Int) != ((t[k]).toNat : Int)) = true := by simp; omega
          have hw1 : IntKind.i64.wrap (s[k].toNat : Int) = (s[k].toNat : Int) := wrap_i64 (by omega) (by have := s[k].toNat_lt; omega)
          have hw2 : IntKind.i64.wrap (t[k].toNat : Int) = (t[k].toNat : Int) := wrap_i64 (by omega) (by have := t[k].toNat_lt; omega)
          have HC : ∀ W, Calls Tryz.prog 96 #[.int .i64 (IntKind.i64.wrap (s[k].toNat : Int)), .int .i64 (IntKind.i64.wrap (t[k].toNat : Int))] W fun e w' => e = .returned (.int .i64 (Lib.compareBytes s.data.toList t.data.toList)) ∧ w' = W := fun W => by
            rw [hw1, hw2, HL.out]; exact ints_any _ _ W
          clear hR e hw1 hw2 HL
          go_wp2
          go_region
          all_goals
            go_wp2_with fail
            go_region_held3 (fun _ => True) (trivial) (first | (go_at_call 96; refine (HC _).mono ?_; rintro e w1 ⟨rfl, rfl⟩))
            all_goals first
              | (go_ret; exact ⟨rfl, hbw.drew.drew⟩)
              | (go_wp2; go_ret; exact ⟨rfl, hbw.drew.drew⟩)
              | (go_wp2; all_goals (go_ret; exact ⟨rfl, hbw.drew.drew⟩))
      · have HL : Hid (Lib.compareBytes s.data.toList t.data.toList = Lib.compareInt (s.size : Int) (t.size : Int)) := by
          have h := likeTo_end hR (by omega)
          exact h
        clear hR
        go_wp2_with (go_at_call 96; refine (ints_any _ _ _).mono ?_; rintro e w1 ⟨rfl, rfl⟩)
        go_ret
        exact ⟨by rw [HL.out]; rfl, hbw⟩
    · have HL : Hid (Lib.compareBytes s.data.toList t.data.toList = Lib.compareInt (s.size : Int) (t.size : Int)) := by
        have h := likeTo_end hR (by omega)
        exact h
      clear hR
      go_wp2_with (go_at_call 96; refine (ints_any _ _ _).mono ?_; rintro e w1 ⟨rfl, rfl⟩)
      go_ret
      exact ⟨by rw [HL.out]; rfl, hbw⟩

theorem refTexts_list (a b : List UInt8) (w : World) (ha : a.length ≤ 2000000) : Calls Tryz.prog 58 #[.string ⟨a.toArray⟩, .string ⟨b.toArray⟩] w fun e w' => e = .returned (.int .i64 (Lib.compareBytes a b)) ∧ Below w.heap.size w w' :=
  refTexts_any ⟨a.toArray⟩ ⟨b.toArray⟩ w (by rw [mk_size]; exact ha)

end Go.Proofs.YthlhopdlkkeohaaGreatDoor.U
