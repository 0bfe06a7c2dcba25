/- The walk of the statement LiveUndone. -/
import Derived.Test.YtbeinicbkbkbpaaLTells13
namespace Go.Proofs.Ytbeinicbkbkbpaa.O
open Go.RowKit

theorem neq_dot (x y : D) (w : World) : (binOp .neq 44 (dV x) (dV y)).run Try.prog w = .ok (.bool (!decide (x = y))) w := by
  rw [run_neq_struct, equal_dot w x y]
  rfl
theorem without_yes {ts : List Tx.Txn} {d : D} {k : Nat} (hk : k < ts.length) (h : ts[k].d ≠ d) : (ts.take (k + 1)).filter (fun t => decide (t.d ≠ d)) = (ts.take k).filter (fun t => decide (t.d ≠ d)) ++ [ts[k]] := by
  rw [List.take_succ_eq_append_getElem hk, List.filter_append]
  simp [h]
theorem without_no {ts : List Tx.Txn} {d : D} {k : Nat} (hk : k < ts.length) (h : ts[k].d = d) : (ts.take (k + 1)).filter (fun t => decide (t.d ≠ d)) = (ts.take k).filter (fun t => decide (t.d ≠ d)) := by
  rw [List.take_succ_eq_append_getElem hk, List.filter_append]
  simp [h]

set_option maxRecDepth 20000 in
set_option maxHeartbeats 4000000 in
theorem liveUndone_walk (v : Value) (ts : List Tx.Txn) (vu : Value) (u : List U) (d : D) (w : World) (hw : ∀ t ∈ ts, txWide t) (hv : txsIn w v ts) (hu : T.cntsIn w vu u) :
    Calls Try.prog 4 #[v, vu, dV d] w fun e w' => e = .returned (.bool true) ∧ Below w.heap.size w w' := by
  obtain ⟨W0, hW0⟩ : ∃ W0, W0 = w.alloc (.cells #[.int .i64 d.1, .int .i64 d.2] 44) := ⟨_, rfl⟩
  have B0 : Below w.heap.size w W0 := by rw [hW0]; exact below_new _ _
  have D0 : DAt W0 w.heap.size d := by rw [hW0]; exact DAt.new w d
  have HG := good_any v vu ts u W0 hw (hv.on B0) (hu.on B0)
  cases hg : good13 ts u with
  | false =>
    rw [hg] at HG
    obtain ⟨ao, cap, rfl⟩ := txs_slice hv
    obtain ⟨uo, uc, rfl⟩ := cnts_slice hu
    clear hv hu hw hg
    generalize ts.length = n at *
    generalize u.length = m at *
    go_enter Try.func4, Try.ntmps4
    go_wp2_with (first
      | (go_at_call 8; rw [← hW0]; refine HG.mono ?_; rintro e w1 ⟨rfl, hb1⟩)
      | (go_at_call 10; refine (awake_any _).mono ?_; rintro e w2 ⟨rfl, hb2⟩))
    go_ret
    exact ⟨rfl, bchain B0 (bchain hb1 hb2)⟩
  | true =>
    rw [hg] at HG
    obtain ⟨⟨h20, hr, hok⟩, h100, hstd⟩ := good13_parts hg
    have HSn := fun W (hb : Below w.heap.size w W) => refSeenD_any vu u d W (hu.on hb) (by omega) hstd
    cases hs : seenD u d with
    | true =>
      rw [hs] at HSn
      obtain ⟨ao, cap, rfl⟩ := txs_slice hv
      obtain ⟨uo, uc, rfl⟩ := cnts_slice hu
      clear hv hu hw hg h20 hr hok h100 hstd hs
      generalize ts.length = n at *
      generalize u.length = m at *
      obtain ⟨d0, d1⟩ := id D0
      go_enter Try.func4, Try.ntmps4
      go_wp2_with (first
        | (go_at_call 8; rw [← hW0]; refine HG.mono ?_; rintro e w1 ⟨rfl, hb1⟩; obtain ⟨d0, d1⟩ := D0.on hb1)
        | (go_at_call 22; refine (HSn _ (bchain B0 hb1)).mono ?_; rintro e w3 ⟨rfl, hb3⟩)
        | (go_at_call 10; refine (awake_any _).mono ?_; rintro e w2 ⟨rfl, hb2⟩))
      go_ret
      exact ⟨rfl, bchain B0 (bchain hb1 (bchain hb3 hb2))⟩
    | false =>
      rw [hs] at HSn
      have HX : Hid (AllC 11 w v vu (Lv.all ts (seenD u))) := allC hv hu (by omega) hok (by omega) hstd
      have HY : Hid (∀ v' W, Below w.heap.size w W → txsIn W v' (ts.filter fun t => decide (t.d ≠ d)) → AllC 11 W v' vu (Lv.all ts (seenD u))) := fun v' W hb h => by
        have h1 := allC h (hu.on hb) (Nat.le_trans (List.length_filter_le _ _) (by omega)) (fun t ht => hok t (List.mem_filter.1 ht).1) (by omega) hstd
        rw [Lv.all_without ts hs] at h1
        exact h1
      have HNone : Hid (∀ i ∈ Lv.all ts (seenD u), i.x.1 ≠ d) := Lv.none_of hs
      have HOp : Hid (∀ t ∈ ts, t.ops.length ≤ 1000) := fun t ht => (okT_few (hok t ht)).1
      generalize Lv.all ts (seenD u) = its at *
      obtain ⟨ao, cap, rfl⟩ := txs_slice hv
      obtain ⟨uo, uc, rfl⟩ := cnts_slice hu
      obtain ⟨n, hn0⟩ : ∃ n, n = ts.length := ⟨_, rfl⟩
      have HN : Hid (n = ts.length) := hn0
      rw [← hn0] at hv HX HG h20 ⊢
      have HV : Hid (txsIn w (.slice ao n cap) ts) := hv
      clear hn0 hv hu hw hg hr hok hstd hs
      generalize u.length = m at *
      obtain ⟨d0, d1⟩ := id D0
      go_enter Try.func4, Try.ntmps4
      go_wp2_with (first
        | (go_at_call 8; rw [← hW0]; refine HG.mono ?_; rintro e w1 ⟨rfl, hb1⟩; obtain ⟨d0, d1⟩ := D0.on hb1)
        | (go_at_call 22; refine (HSn _ (bchain B0 hb1)).mono ?_; rintro e w3 ⟨rfl, hb3⟩))
      have k3 : Below W0.heap.size W0 w3 := bchain hb1 hb3
      clear hW0 HG HSn d0 d1
      obtain ⟨bd, hbd⟩ : ∃ bd, bd = w.heap.size := ⟨_, rfl⟩
      have HBD : Hid (bd = w.heap.size) := hbd
      rw [← hbd] at D0
      clear hbd
      simp only [← HBD.out]
      go_loopw [7, 8] (fun out i wr => ∃ (k : Nat) (acc : List TE), k ≤ n ∧ i = .int .i64 k ∧ Hid (acc.map (·.1) = (ts.take k).filter fun t => decide (t.d ≠ d)) ∧ Hid (∀ x ∈ acc, opsIn w x.2 x.1.ops) ∧ wr.ownsRow W0.heap.size 48 6 out acc.length (tcells acc) ∧ Below W0.heap.size W0 wr) (fun _ i _ => n - (intOf i).toNat)
      case atStart => exact ⟨0, [], by omega, rfl, rfl, by intro x hx; simp at hx, World.ownsRow_nil _ _ _ _, k3⟩
      case round =>
        clear k3 hb1 hb3
        obtain ⟨k, acc, hk, rfl, HA, HO, hown, hbw⟩ := hrel
        obtain ⟨d0, d1⟩ := D0.on hbw
        by_cases hkn : k < n
        · have hkx : k < ts.length := by rw [← HN.out]; exact hkn
          obtain ⟨ad, ov, rfl, hA, ho⟩ := HV.out.get hkx
          have hA := hA.on (bchain B0 hbw)
          obtain ⟨oo, oc, rfl⟩ := ho.slice
          have hm1 := HOp.out _ (List.getElem_mem hkx)
          have hE := neq_dot ts[k].d d
          have hi0 : (0 : Int) ≤ (k : Int) := by omega
          have hi1 : (k : Int) < (n : Int) := by omega
          have hroom : acc.length ≤ 20 := by
            have h1 := congrArg List.length HA.out
            rw [List.length_map] at h1
            have h2 := List.length_filter_le (fun t : Tx.Txn => decide (t.d ≠ d)) (ts.take k)
            rw [List.length_take] at h2
            omega
          by_cases he : ts[k].d = d
          · have HE : Hid (acc.map (·.1) = (ts.take (k + 1)).filter fun t => decide (t.d ≠ d)) := by
              have h : acc.map (·.1) = (ts.take (k + 1)).filter fun t => decide (t.d ≠ d) := by rw [without_no hkx he]; exact HA.out
              exact h
            simp only [he, decide_true, Bool.not_true] at hE
            obtain ⟨c0, c1, -, -, -, -⟩ := hA
            rw [he] at c0 c1
            clear HA ho he
            go_wp2
            go_region
            all_goals
              go_wp2
              go_roundw
              case rel => exact ⟨k + 1, acc, by omega, by go_num, HE, HO, hown, hbw.drew⟩
              case measure => simp [intOf]; omega
          · have HE : Hid ((acc ++ [(ts[k], Value.slice oo ts[k].ops.length oc)]).map (·.1) = (ts.take (k + 1)).filter fun t => decide (t.d ≠ d)) := by
              have h : (acc ++ [(ts[k], Value.slice oo ts[k].ops.length oc)]).map (·.1) = (ts.take (k + 1)).filter fun t => decide (t.d ≠ d) := by
                rw [without_yes hkx he, List.map_append, HA.out]
                rfl
              exact h
            simp only [he, decide_false, Bool.not_false] at hE
            have HO' : Hid (∀ x ∈ acc ++ [(ts[k], Value.slice oo ts[k].ops.length oc)], opsIn w x.2 x.1.ops) := fun x hx => by
              rcases List.mem_append.1 hx with hx | hx
              · exact HO.out x hx
              · rw [List.mem_singleton.1 hx]; exact ho
            clear HA ho he HO
            generalize ts[k] = t at *
            generalize t.ops.length = q at *
            obtain ⟨c0, c1, c2, c3, c4, c5⟩ := hA
            have hb9 := (Below.refl wr.heap.size wr).drew
            have hnew := new_tx wr.drew (t, .slice oo q oc)
            have hone : ∀ x ∈ tcells [(t, Value.slice oo q oc)], x.oneCell' = true := tcells_one (by intro x hx; rw [List.mem_singleton.1 hx]; exact ⟨_, _, _, rfl⟩)
            have bA := bchain hb9 (below_new wr.drew (txO t (.slice oo q oc)))
            have hownA := own_on hown bA
            have hbwA := bchain hbw bA
            go_wp2
            go_region
            all_goals
              go_wp2_with (first
                | (at_builtin; refine append_txs rfl _ _ rfl W0.heap.size hbwA.size _ acc rfl hownA _ [(t, .slice oo q oc)] 1 rfl hnew hone (by simp; omega) ?_; intro v2 w3 hown2 hg2)
                | go_in)
              go_roundw
              case rel => exact ⟨k + 1, acc ++ [(t, .slice oo q oc)], by omega, by go_num, HE, HO', hown2, hbwA.grown hg2 hbwA.size (fun g e => (hownA.lt g e).1)⟩
              case measure => simp [intOf]; omega
        · have HE : Hid (acc.map (·.1) = ts.filter fun t => decide (t.d ≠ d)) := by
            have h := HA.out
            rw [List.take_of_length_le (by rw [← HN.out]; omega)] at h
            exact h
          have hoth : txsIn wr u7 (ts.filter fun t => decide (t.d ≠ d)) := by
            have h := txsIn_row hown (fun x hx => (HO.out x hx).on (bchain B0 hbw))
            rw [HE.out] at h
            exact h
          have HYw := HY.out u7 wr (bchain B0 hbw) hoth
          clear HA HO hown HE HY
          go_wp2_with (go_at_call 11; refine (HX.out _ (bchain B0 hbw)).mono ?_; rintro e w4 ⟨rx, xs, rfl, hx, hxe, hxs, hxn, hb4⟩; obtain ⟨xo, xc, rfl⟩ := hx.slice)
          have HXE : Hid (itsE w4 (.slice xo xs.length xc) xs ∧ xs.map (·.1) = its) := ⟨hx, hxe⟩
          obtain ⟨xn, hxn0⟩ : ∃ xn, xn = xs.length := ⟨_, rfl⟩
          have HXN : Hid (xn = xs.length) := hxn0
          have hxn1 : xn ≤ 1000000 := by rw [hxn0]; exact hxn
          rw [← hxn0]
          have hx' := hx
          rw [← hxn0] at hx'
          have HXI : Hid (itsE w4 (.slice xo xn xc) xs) := hx'
          have HXS : Hid (ShortI xs ∧ xs.length ≤ 1000000) := ⟨hxs, hxn⟩
          clear hx hx' hxe hxs hxn hxn0
          go_loopw [10] (fun i wr => ∃ k : Nat, k ≤ xn ∧ i = .int .i64 k ∧ Below w4.heap.size w4 wr) (fun i _ => xn - (intOf i).toNat)
          case atStart => exact ⟨0, by omega, rfl, Below.refl _ _⟩
          case round =>
            obtain ⟨j, hj, rfl, hbj⟩ := hrel
            obtain ⟨d0, d1⟩ := (D0.on (bchain hbw hb4)).on hbj
            by_cases hjn : j < xn
            · have hjx : j < xs.length := by rw [← HXN.out]; exact hjn
              obtain ⟨xad, rfl, -, hX, -⟩ := (HXI.out.on hbj).get hjx
              obtain ⟨c0, c1, -, -, -, -, -, -, -, -, -⟩ := hX
              have hne : xs[j].1.x.1 ≠ d := HNone.out _ (by rw [← HXE.out.2]; exact List.mem_map.2 ⟨_, List.getElem_mem hjx, rfl⟩)
              have hE := eql_dot xs[j].1.x.1 d
              simp only [hne, decide_false] at hE
              have hi0 : (0 : Int) ≤ (j : Int) := by omega
              have hi1 : (j : Int) < (xn : Int) := by omega
              clear hne
              generalize xs[j].1.x.1 = y at *
              go_wp2
              go_region
              all_goals
                go_wp2
                go_roundw
                case rel => exact ⟨j + 1, by omega, by go_num, hbj.drew⟩
                case measure => simp [intOf]; omega
            · go_wp2_with (first
                | (go_at_call 11; refine (HYw _ (bchain hb4 hbj)).mono ?_; rintro e w5 ⟨ry, ys, rfl, hy, hye, hys, hyn, hb5⟩)
                | (go_at_call 21; refine (liveSame_any _ _ xs ys _ (HXI.out.on (bchain hbj hb5)) hy HXS.out.2 HXS.out.1 (HXE.out.2.trans hye.symm)).mono ?_; rintro e w6 ⟨rfl, hb6⟩)
                | (go_at_call 10; refine (awake_any _).mono ?_; rintro e w7 ⟨rfl, hb7⟩))
              go_ret
              exact ⟨rfl, bchain B0 (bchain hbw (bchain hb4 (bchain hbj (bchain hb5 (bchain hb6 hb7)))))⟩
end Go.Proofs.Ytbeinicbkbkbpaa.O
