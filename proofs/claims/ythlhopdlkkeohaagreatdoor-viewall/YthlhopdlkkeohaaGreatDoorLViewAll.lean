/- The walk of the statement ViewAll. -/
import Derived.Test.YthlhopdlkkeohaaGreatDoorEAwakeAll
namespace Go.Proofs.YthlhopdlkkeohaaGreatDoor.O
open Go.RowKit

section
variable {P : Program} {md : Region.Mode} {ops : Array Oper} {Q : Exit → Act → World → Prop} {S : World → Prop} {i j : Nat} {o o' : Oper} {v v' u u' : Value} {fuel : Nat} {listed : Array Bool} {a : Act} {w w1 w2 w1' w2' : World}
/-- Two operations that turn the world, in either order. -/
theorem held_either (ho : ops[i]? = some o) (ho' : ops[j]? = some o') (hr : Region.ready md ops listed = [i, j]) (hri : Region.ready md ops (listed.setIfInBounds i true) = [j]) (hrj : Region.ready md ops (listed.setIfInBounds j true) = [i])
    (hw : Region.wanted o (yielded ops a.tmps) = true) (hw' : Region.wanted o' (yielded ops a.tmps) = true) (hw1 : Region.wanted o' (yielded ops (a.put o.dst v).tmps) = true) (hw2 : Region.wanted o (yielded ops (a.put o'.dst u').tmps) = true)
    (he : (execOp a.eval o).run P w = .ok (.value v) w1) (he1 : (execOp (a.put o.dst v).eval o').run P w1 = .ok (.value v') w2)
    (he' : (execOp a.eval o').run P w = .ok (.value u') w1') (he2 : (execOp (a.put o'.dst u').eval o).run P w1' = .ok (.value u) w2')
    (hS1 : S w1) (hS2 : S w2) (hS1' : S w1') (hS2' : S w2')
    (h : wpAnyH P md ops Q S fuel ((listed.setIfInBounds i true).setIfInBounds j true) ((a.put o.dst v).put o'.dst v') w2)
    (h' : wpAnyH P md ops Q S fuel ((listed.setIfInBounds j true).setIfInBounds i true) ((a.put o'.dst u').put o.dst u) w2') : wpAnyH P md ops Q S (fuel + 1 + 1) listed a w :=
  wpAnyH_ready hr (by simp) (AllReadyH.cons ho (fun K hK => by
    rw [if_pos hw, Oper.wp, he]
    exact hK.out _ _ hS1 (fun _ => held_run ho' hri hw1 he1 hS2 h)) (AllReadyH.cons ho' (fun K hK => by
    rw [if_pos hw', Oper.wp, he']
    exact hK.out _ _ hS1' (fun _ => held_run ho hrj hw2 he2 hS2' h')) AllReadyH.nil))
end
theorem ex_i_ents8 {o : Oper} {a : Act} {x y : Operand} {ad : Addr} {n c k : Nat} (ho : o.op = .indexAddr 32 x y) (hx : a.eval x = .slice (some ad) n c) (hy : a.eval y = .int .i64 (k : Int)) (hk : k < n) (w : World) : (execOp a.eval o).run Tryz.prog w = .ok (.value (.pointer (some (ad.add (k * 4))))) w := by
  have h0 : (0 : Int) ≤ (k : Int) := by omega
  have h1 : (k : Int) < (n : Int) := by omega
  unfold execOp
  simp only [ho, hx, hy, Sem.run_bind]
  go_simp
/-- An entry at its place, and one in a variable, while a region goes. -/
structure AlE (w : World) (q : Addr) (X : EE) (b : Nat) (pv : Value) (k : Int) (lv : Value) (n : Int) (W : World) : Prop where
  x : EcAt W q X
  z : EVar W b pv k lv n
  below : Below w.heap.size w W
theorem AlE.on {w W W' : World} {q : Addr} {X : EE} {b : Nat} {pv lv : Value} {k n : Int} (h : AlE w q X b pv k lv n W) (hb : Below W.heap.size W W') : AlE w q X b pv k lv n W' := ⟨h.x.on hb, h.z.on hb, bchain h.below hb⟩

set_option maxRecDepth 20000 in
set_option maxHeartbeats 4000000 in
theorem viewAll_walk (v : Value) (ts : List Tx.Txn) (vu : Value) (u : List U) (vp : Value) (p : List (List UInt8)) (z : Int) (w : World) (hkp : N.Keeps w) (hw : ∀ t ∈ ts, txWide t) (hv : txsIn w v ts) (hu : T.cntsIn w vu u) (hpl : p.length ≤ maxLen) (hpz : ∀ x ∈ p, x.length ≤ maxLen) (hp : U.strsAt w vp p) :
    Calls Tryz.prog 4 #[v, vu, vp, .int .i64 z] w fun e w' => e = .returned (.bool true) ∧ Below w.heap.size w w' := by
  have HG := good_any v vu ts u w hw hv hu
  have HS := fun W (hb : Below w.heap.size w W) => U.short_any vp p W hpl hpz (U.strsAt_below hp hb (Nat.le_refl _))
  obtain ⟨ao, cap, rfl⟩ := txs_slice hv
  obtain ⟨uo, uc, rfl⟩ := cnts_slice hu
  obtain ⟨qa, qn, qc, rfl⟩ := strs_slice hp
  cases hg : good13 ts u with
  | false =>
    rw [hg] at HG
    clear hv hu hp hw hpl hpz HS
    generalize ts.length = n at *
    generalize u.length = m at *
    go_enter Tryz.func4, Tryz.ntmps4
    go_wp2_with (first
      | (go_at_call 6; refine HG.mono ?_; rintro e w1 ⟨rfl, hb1⟩)
      | (go_at_call 8; refine (awake_any _ (hkp.on hb1)).mono ?_; rintro e w2 ⟨rfl, hb2⟩))
    go_ret
    exact ⟨rfl, bchain hb1 hb2⟩
  | true =>
    rw [hg] at HG
    cases hs : Pt.short p with
    | false =>
      rw [hs] at HS
      clear hv hu hp hw hpl hpz
      generalize ts.length = n at *
      generalize u.length = m at *
      go_enter Tryz.func4, Tryz.ntmps4
      go_wp2_with (first
        | (go_at_call 6; refine HG.mono ?_; rintro e w1 ⟨rfl, hb1⟩)
        | (go_at_call 7; refine (HS _ hb1).mono ?_; rintro e w3 ⟨rfl, hb3⟩)
        | (go_at_call 8; refine (awake_any _ (hkp.on (bchain hb1 hb3))).mono ?_; rintro e w2 ⟨rfl, hb2⟩))
      go_ret
      exact ⟨rfl, bchain hb1 (bchain hb3 hb2)⟩
    | true =>
      rw [hs] at HS
      have HT : Hid (VwT w (.slice ao ts.length cap) (.slice uo u.length uc) (Lv.all ts (seenD u))) := vwT hv hu hg
      generalize Lv.all ts (seenD u) = its at *
      have hfw := few_short hs
      have hpn : p.length ≤ 1000000 := by have := hfw.1; omega
      have HI : Hid (ItC w (.slice qa qn qc) its (Vw.of its) (Vw.of its).length p z (Vw.at' its p z).l (Vw.at' its p z).n) := itC HT.out.fine hp hpn z
      have HE : Hid (EsC (Vw.of its) (Vw.of its).length ⟨(linesE (Vw.of its)).toArray⟩) := esC (fine_of HT.out.fine (by have := HT.out.len; omega)) (of_few HT.out.len)
      have H1 : Hid (∃ TX, EsC [⟨p, z, (Vw.at' its p z).l, (Vw.at' its p z).n⟩] 1 TX) := by
        have h : EsC [Vw.at' its p z] 1 ⟨(linesE [Vw.at' its p z]).toArray⟩ := esC (fun e he => by rw [List.mem_singleton.1 he]; exact fine_at HT.out.fine (by have := HT.out.len; omega) hfw z) (by simp)
        exact ⟨_, h⟩
      have HM : Hid (∀ e ∈ Vw.of its, e.k = z → e.p = p → e = ⟨p, z, (Vw.at' its p z).l, (Vw.at' its p z).n⟩) := by
        have h : ∀ e ∈ Vw.of its, e.k = z → e.p = p → e = Vw.at' its p z := fun e he hk hq => by rw [← hk, ← hq]; exact Vw.of_at he
        exact h
      have HX : Hid ((∀ e ∈ Vw.of its, ¬ (e.k = z ∧ e.p = p)) → (Vw.at' its p z).l = [] ∧ (Vw.at' its p z).n = 0) := by
        have h := fun h => Vw.at_empty (its := its) (p := p) (k := z) h
        exact h
      have HP : Hid (∀ W, Below w.heap.size w W → U.strsAt W (.slice qa qn qc) p) := by
        have h := fun W (hb : Below w.heap.size w W) => U.strsAt_below hp hb (Nat.le_refl _)
        exact h
      have HN : Hid (p.length ≤ 1000000) := hpn
      have hn5 := HE.out.few
      generalize (linesE (Vw.of its)).toArray = TX at *
      generalize (Vw.at' its p z).l = l0 at *
      generalize (Vw.at' its p z).n = n0 at *
      generalize (Vw.of its).length = n at *
      generalize Vw.of its = es at *
      clear hv hu hp hw hpl hpz hg hs hfw hpn
      generalize ts.length = tn at *
      generalize u.length = m at *
      go_enter Tryz.func4, Tryz.ntmps4
      go_wp2_with (first
        | (go_at_call 6; refine HG.mono ?_; rintro e w1 ⟨rfl, hb1⟩)
        | (go_at_call 7; refine (HS _ hb1).mono ?_; rintro e w2 ⟨rfl, hb2⟩; have k2 := bchain hb1 hb2)
        | (go_at_call 9; refine (HT.out.all _ k2).mono ?_; rintro e w3 ⟨rx, rfl, hx3, hb3⟩; have k3 := bchain k2 hb3)
        | (go_at_call 11; refine (HI.out.c11 hx3).mono ?_; rintro e w4 ⟨ea, ec, rfl, hE4, hb4⟩; have k4 := bchain k3 hb4; have hx4 := hx3.on hb4)
        | (go_at_call 13; refine (HI.out.c13 hx4 k4).mono ?_; rintro e w7 ⟨pa, pn, pc, ra, rk, rfl, hA7, hb7⟩; have k7 := bchain k4 hb7))
      obtain ⟨rn, hrn0⟩ : ∃ rn, rn = l0.length := ⟨_, rfl⟩
      have HRN : Hid (rn = l0.length) := hrn0
      rw [← hrn0] at hA7 ⊢
      clear hrn0
      have bB := below_new w7 (entO (.slice pa pn pc) z (.slice ra rn rk) n0 38)
      have kB := bchain k7 bB
      have VZ : Hid (EVar (w7.alloc (entO (.slice pa pn pc) z (.slice ra rn rk) n0 38)) w7.heap.size (.slice pa pn pc) z (.slice ra rn rk) n0) := EVar.new w7 (.slice pa pn pc) z (.slice ra rn rk) n0 38
      have hEB : Hid (EntsAt es (w7.alloc (entO (.slice pa pn pc) z (.slice ra rn rk) n0 38)) (.slice ea n ec)) := (hE4.on hb7).on bB
      have hAB : Hid (EOk (w7.alloc (entO (.slice pa pn pc) z (.slice ra rn rk) n0 38)) (⟨p, z, l0, n0⟩, .slice pa pn pc, .slice ra rn rk)) := hA7.on bB
      clear HG HS HT hx3 hx4 hE4 hA7
      go_loopw [12] (fun i wr => ∃ k : Nat, k ≤ n ∧ i = .int .i64 k ∧ Hid (∀ e ∈ es.take k, ¬ (e.k = z ∧ e.p = p)) ∧ Below (w7.alloc (entO (.slice pa pn pc) z (.slice ra rn rk) n0 38)).heap.size (w7.alloc (entO (.slice pa pn pc) z (.slice ra rn rk) n0 38)) wr) (fun i _ => n - (intOf i).toNat)
      case atStart => exact ⟨0, by omega, rfl, by simp [Hid], Below.refl _ _⟩
      case round =>
        obtain ⟨k, hk, rfl, HK, hbw⟩ := hrel
        by_cases hkn : k < n
        · have hkx : k < es.length := by rw [HE.out.len]; exact hkn
          obtain ⟨ad, xa, xn, xc, ya, yn, yc, rfl, hX, hXo⟩ := (hEB.out.on hbw).get hkx
          have hfe := HE.out.fine _ (List.getElem_mem hkx)
          have hM := HM.out _ (List.getElem_mem hkx)
          have HK2 : Hid (¬ (es[k].k = z ∧ es[k].p = p) → ∀ e ∈ es.take (k + 1), ¬ (e.k = z ∧ e.p = p)) := by
            have h : ¬ (es[k].k = z ∧ es[k].p = p) → ∀ e ∈ es.take (k + 1), ¬ (e.k = z ∧ e.p = p) := fun h0 e he => by
              rw [List.take_succ_eq_append_getElem hkx, List.mem_append, List.mem_singleton] at he
              rcases he with he | rfl
              · exact HK.out e he
              · exact h0
            exact h
          generalize es[k] = X at *
          obtain ⟨p9, z9, l9, m9⟩ := X
          have hf9 : U.Few p9 := hfe.few
          have HC : ∀ W, Below wr.heap.size wr W → Calls Tryz.prog 22 #[.slice xa xn xc, .slice qa qn qc] W fun e w' => e = .returned (.int .i64 (Pt.comp p9 p)) ∧ Below W.heap.size W w' := fun W hb =>
            U.refCompare_any _ _ p9 p W (by have := hf9.1; omega) (by have := HN.out; omega) (fun x hx => by have := hf9.2 x hx; omega) (U.strsAt_below hXo.1 hb (Nat.le_refl _)) (HP.out W (bchain kB (bchain hbw hb)))
          have hi0 : (0 : Int) ≤ (k : Int) := by omega
          have hi1 : (k : Int) < (n : Int) := by omega
          obtain ⟨a0, a1, a2, a3⟩ := id hX
          dsimp only at a0 a1 a2 a3
          have hcz : Pt.comp p9 p = 0 → p9 = p := Pt.comp_zero
          by_cases hz : z9 = z
          · subst hz
            by_cases hc : Pt.comp p9 p = 0
            · rw [hc] at HC
              obtain rfl := hcz hc
              have hM2 := hM rfl rfl
              obtain ⟨rfl, rfl⟩ : l9 = l0 ∧ m9 = n0 := by simpa using hM2
              have VZr := VZ.out.on hbw
              have HC20 : Hid (∀ va vb W, EntsAt [⟨p9, z9, l9, m9⟩] W va → EntsAt [⟨p9, z9, l9, m9⟩] W vb → Calls Tryz.prog 20 #[va, vb] W fun e w' => e = .returned (.bool true) ∧ Below W.heap.size W w') := by
                obtain ⟨_, h⟩ := H1.out
                have h2 : ∀ va vb W, EntsAt [⟨p9, z9, l9, m9⟩] W va → EntsAt [⟨p9, z9, l9, m9⟩] W vb → Calls Tryz.prog 20 #[va, vb] W fun e w' => e = .returned (.bool true) ∧ Below W.heap.size W w' := fun va vb W a b => h.c20 a b
                exact h2
              have hAr := hAB.out.on hbw
              clear hM hM2 hfe hf9 hcz HK2 hc
              go_wp2_with (go_at_call 22; refine (HC _ (Below.refl _ _)).mono ?_; rintro e v1 ⟨rfl, hv1⟩)
              refine wp_region_held_drew (S := fun W => AlE wr (ad.add (k * 4)) ((⟨p9, z9, l9, m9⟩, .slice xa xn xc, .slice ya yn yc) : EE) w7.heap.size (.slice pa pn pc) z9 (.slice ra rn rk) m9 W) (by kernel_rfl) (⟨(hX.on hv1).on (Below.refl _ _).drew, (VZr.on hv1).on (Below.refl _ _).drew, hv1.drew⟩) (fun hH0 => ?_)
              refine held_take (i := 0) (o := { dst := some 55, op := Op.move (Operand.tmp 10), type := 32, pos := "law.go:60", after := #[], guard := none }) (v := .slice (some ad) n ec) (by kernel_rfl) (by kernel_rfl) (by kernel_rfl) (by kernel_rfl) (fun _ _ _ h => h) (by kernel_rfl) (fun _ _ => by kernel_rfl) hH0 ?_
              refine held_take (i := 1) (o := { dst := some 56, op := Op.move (Operand.tmp 12), type := 3, pos := "law.go:60", after := #[], guard := none }) (v := .int .i64 (k : Int)) (by kernel_rfl) (by kernel_rfl) (by kernel_rfl) (by kernel_rfl) (fun _ _ _ h => h) (by kernel_rfl) (fun _ _ => by kernel_rfl) hH0 ?_
              refine held_take (i := 2) (o := { dst := some 57, op := Op.indexAddr 32 (Operand.tmp 55) (Operand.tmp 56), type := 0, pos := "law.go:60", after := #[{ on := 0, ground := Ground.data }, { on := 1, ground := Ground.data }], guard := none }) (v := .pointer (some (ad.add (k * 4)))) (by kernel_rfl) (by kernel_rfl) (by kernel_rfl) (by kernel_rfl) (fun _ _ _ h => h) (by kernel_rfl) (fun W _ => ex_i_ents8 (n := n) (c := ec) (k := k) rfl (by kernel_rfl) (by kernel_rfl) hkn W) hH0 ?_
              refine held_take (i := 3) (o := { dst := some 58, op := Op.load 38 (Operand.tmp 57), type := 38, pos := "law.go:60", after := #[{ on := 2, ground := Ground.data }], guard := none }) (v := .agg #[.slice xa xn xc, .int .i64 z9, .slice ya yn yc, .int .i64 m9]) (by kernel_rfl) (by kernel_rfl) (by kernel_rfl) (by kernel_rfl) (fun _ _ _ h => h) (by kernel_rfl) (fun _ h => ex_l_ent (p := (ad.add (k * 4))) rfl (by kernel_rfl) h.x.c0 h.x.c1 h.x.c2 h.x.c3) hH0 ?_
              refine held_take (i := 5) (o := { dst := some 60, op := Op.load 38 (Operand.tmp 11), type := 38, pos := "law.go:60", after := #[], guard := none }) (v := .agg #[.slice pa pn pc, .int .i64 z9, .slice ra rn rk, .int .i64 m9]) (by kernel_rfl) (by kernel_rfl) (by kernel_rfl) (by kernel_rfl) (fun _ _ _ h => h) (by kernel_rfl) (fun _ h => ex_l_ent (p := ⟨w7.heap.size, 0, none⟩) rfl (by kernel_rfl) h.z.c0 h.z.c1 h.z.c2 h.z.c3) hH0 ?_
              refine held_either (i := 4) (j := 6) (o := { dst := some 59, op := Op.buildSlice 32 1 #[(0, Operand.tmp 58)], type := 32, pos := "law.go:60", after := #[{ on := 3, ground := Ground.data }], guard := none }) (o' := { dst := some 61, op := Op.buildSlice 32 1 #[(0, Operand.tmp 60)], type := 32, pos := "law.go:60", after := #[{ on := 5, ground := Ground.data }], guard := none }) (v := .slice (some ⟨v1.drew.heap.size, 0, none⟩) 1 1) (v' := .slice (some ⟨(v1.drew.alloc (entO (.slice xa xn xc) z9 (.slice ya yn yc) m9 38)).heap.size, 0, none⟩) 1 1) (u := .slice (some ⟨(v1.drew.alloc (entO (.slice pa pn pc) z9 (.slice ra rn rk) m9 38)).heap.size, 0, none⟩) 1 1) (u' := .slice (some ⟨v1.drew.heap.size, 0, none⟩) 1 1) (w1 := (v1.drew.alloc (entO (.slice xa xn xc) z9 (.slice ya yn yc) m9 38))) (w2 := ((v1.drew.alloc (entO (.slice xa xn xc) z9 (.slice ya yn yc) m9 38)).alloc (entO (.slice pa pn pc) z9 (.slice ra rn rk) m9 38))) (w1' := (v1.drew.alloc (entO (.slice pa pn pc) z9 (.slice ra rn rk) m9 38))) (w2' := ((v1.drew.alloc (entO (.slice pa pn pc) z9 (.slice ra rn rk) m9 38)).alloc (entO (.slice xa xn xc) z9 (.slice ya yn yc) m9 38))) (by kernel_rfl) (by kernel_rfl) (by kernel_rfl) (by kernel_rfl) (by kernel_rfl) (by kernel_rfl) (by kernel_rfl) (by kernel_rfl) (by kernel_rfl) (by kernel_rfl) (by kernel_rfl) (by kernel_rfl) (by kernel_rfl) (hH0.on (below_new _ _)) (hH0.on (below_new2 _ _ _)) (hH0.on (below_new _ _)) (hH0.on (below_new2 _ _ _)) ?_ ?_
              · have e4 : EntsAt [⟨p9, z9, l9, m9⟩] ((v1.drew.alloc (entO (.slice xa xn xc) z9 (.slice ya yn yc) m9 38)).alloc (entO (.slice pa pn pc) z9 (.slice ra rn rk) m9 38)) (.slice (some ⟨v1.drew.heap.size, 0, none⟩) 1 1) := (show EntsAt [⟨p9, z9, l9, m9⟩] (v1.drew.alloc (entO (.slice xa xn xc) z9 (.slice ya yn yc) m9 38)) (.slice (some ⟨v1.drew.heap.size, 0, none⟩) 1 1) from ents_one (hXo.on hv1.drew) 38).on (below_new _ _)
                have e6 : EntsAt [⟨p9, z9, l9, m9⟩] ((v1.drew.alloc (entO (.slice xa xn xc) z9 (.slice ya yn yc) m9 38)).alloc (entO (.slice pa pn pc) z9 (.slice ra rn rk) m9 38)) (.slice (some ⟨(v1.drew.alloc (entO (.slice xa xn xc) z9 (.slice ya yn yc) m9 38)).heap.size, 0, none⟩) 1 1) := ents_one (hAr.on (bchain hv1.drew (below_new _ _))) 38
                have hH1 := hH0.on (below_new2 v1.drew (entO (.slice xa xn xc) z9 (.slice ya yn yc) m9 38) (entO (.slice pa pn pc) z9 (.slice ra rn rk) m9 38))
                refine held_callX (i := 7) (o := { dst := some 62, op := Op.call { callee := Callee.value (Operand.func 20), args := #[Operand.tmp 59, Operand.tmp 61], argTypes := #[32, 32] }, type := 4, pos := "law.go:60", after := #[{ on := 4, ground := Ground.data }, { on := 6, ground := Ground.data }], guard := none }) (F := 20) (vs := #[.slice (some ⟨v1.drew.heap.size, 0, none⟩) 1 1, .slice (some ⟨(v1.drew.alloc (entO (.slice xa xn xc) z9 (.slice ya yn yc) m9 38)).heap.size, 0, none⟩) 1 1]) (by kernel_rfl) (by kernel_rfl) (by kernel_rfl) (fun _ => by kernel_rfl) (HC20.out _ _ _ e4 e6) ?_
                rintro e w3 ⟨rfl, hb3⟩
                have hH2 := hH1.on hb3
                refine ⟨.bool true, rfl, hH2, ?_⟩
                refine held_take (i := 8) (o := { dst := some 63, op := Op.move (Operand.tmp 62), type := 4, pos := "law.go:60", after := #[{ on := 7, ground := Ground.data }, { on := 7, ground := Ground.chain }], guard := none }) (v := .bool true) (by kernel_rfl) (by kernel_rfl) (by kernel_rfl) (by kernel_rfl) (fun _ _ _ h => h) (by kernel_rfl) (fun _ _ => by kernel_rfl) hH2 ?_
                refine held_callX (i := 9) (o := { dst := some 64, op := Op.call { callee := Callee.value (Operand.func 8), args := #[], argTypes := #[] }, type := 4, pos := "law.go:60", after := #[{ on := 8, ground := Ground.chain }, { on := 8, ground := Ground.guard }], guard := some (8, true) }) (F := 8) (vs := #[]) (by kernel_rfl) (by kernel_rfl) (by kernel_rfl) (fun _ => by kernel_rfl) (awake_any _ (hkp.on (bchain kB (bchain hbw hH2.below)))) ?_
                rintro e w4 ⟨rfl, hb4⟩
                have hH3 := hH2.on hb4
                refine ⟨.bool true, rfl, hH3, ?_⟩
                refine held_take (i := 10) (o := { dst := some 65, op := Op.pick (Operand.tmp 63) (Operand.tmp 64) (Operand.const (Value.bool false)), type := 4, pos := "law.go:60", after := #[{ on := 8, ground := Ground.data }, { on := 9, ground := Ground.data }], guard := none }) (v := .bool true) (by kernel_rfl) (by kernel_rfl) (by kernel_rfl) (by kernel_rfl) (fun _ _ _ h => h) (by kernel_rfl) (fun _ _ => by kernel_rfl) hH3 ?_
                refine held_do (i := 11) (o := { dst := some 8, op := Op.assign (Operand.tmp 65), type := 4, pos := "law.go:60", after := #[{ on := 10, ground := Ground.data }, { on := 9, ground := Ground.chain }, { on := 0, ground := Ground.phase }, { on := 1, ground := Ground.phase }, { on := 2, ground := Ground.phase }, { on := 3, ground := Ground.phase }, { on := 4, ground := Ground.phase }, { on := 5, ground := Ground.phase }, { on := 6, ground := Ground.phase }, { on := 7, ground := Ground.phase }, { on := 8, ground := Ground.phase }, { on := 9, ground := Ground.phase }, { on := 10, ground := Ground.phase }], guard := none }) (v := .bool true) (by kernel_rfl) (by kernel_rfl) (by kernel_rfl) (by kernel_rfl) hH3 ?_
                refine wpAnyH_done (by kernel_rfl) ?_ _
                simp only [Act.put, List.setIfInBounds_toArray, List.set_cons_zero, List.set_cons_succ]
                go_wp2
                go_ret
                exact ⟨rfl, bchain kB (bchain hbw hH3.below)⟩
              · have e4 : EntsAt [⟨p9, z9, l9, m9⟩] ((v1.drew.alloc (entO (.slice pa pn pc) z9 (.slice ra rn rk) m9 38)).alloc (entO (.slice xa xn xc) z9 (.slice ya yn yc) m9 38)) (.slice (some ⟨(v1.drew.alloc (entO (.slice pa pn pc) z9 (.slice ra rn rk) m9 38)).heap.size, 0, none⟩) 1 1) := ents_one (hXo.on (bchain hv1.drew (below_new _ _))) 38
                have e6 : EntsAt [⟨p9, z9, l9, m9⟩] ((v1.drew.alloc (entO (.slice pa pn pc) z9 (.slice ra rn rk) m9 38)).alloc (entO (.slice xa xn xc) z9 (.slice ya yn yc) m9 38)) (.slice (some ⟨v1.drew.heap.size, 0, none⟩) 1 1) := (show EntsAt [⟨p9, z9, l9, m9⟩] (v1.drew.alloc (entO (.slice pa pn pc) z9 (.slice ra rn rk) m9 38)) (.slice (some ⟨v1.drew.heap.size, 0, none⟩) 1 1) from ents_one (hAr.on hv1.drew) 38).on (below_new _ _)
                have hH1 := hH0.on (below_new2 v1.drew (entO (.slice pa pn pc) z9 (.slice ra rn rk) m9 38) (entO (.slice xa xn xc) z9 (.slice ya yn yc) m9 38))
                refine held_callX (i := 7) (o := { dst := some 62, op := Op.call { callee := Callee.value (Operand.func 20), args := #[Operand.tmp 59, Operand.tmp 61], argTypes := #[32, 32] }, type := 4, pos := "law.go:60", after := #[{ on := 4, ground := Ground.data }, { on := 6, ground := Ground.data }], guard := none }) (F := 20) (vs := #[.slice (some ⟨(v1.drew.alloc (entO (.slice pa pn pc) z9 (.slice ra rn rk) m9 38)).heap.size, 0, none⟩) 1 1, .slice (some ⟨v1.drew.heap.size, 0, none⟩) 1 1]) (by kernel_rfl) (by kernel_rfl) (by kernel_rfl) (fun _ => by kernel_rfl) (HC20.out _ _ _ e4 e6) ?_
                rintro e w3 ⟨rfl, hb3⟩
                have hH2 := hH1.on hb3
                refine ⟨.bool true, rfl, hH2, ?_⟩
                refine held_take (i := 8) (o := { dst := some 63, op := Op.move (Operand.tmp 62), type := 4, pos := "law.go:60", after := #[{ on := 7, ground := Ground.data }, { on := 7, ground := Ground.chain }], guard := none }) (v := .bool true) (by kernel_rfl) (by kernel_rfl) (by kernel_rfl) (by kernel_rfl) (fun _ _ _ h => h) (by kernel_rfl) (fun _ _ => by kernel_rfl) hH2 ?_
                refine held_callX (i := 9) (o := { dst := some 64, op := Op.call { callee := Callee.value (Operand.func 8), args := #[], argTypes := #[] }, type := 4, pos := "law.go:60", after := #[{ on := 8, ground := Ground.chain }, { on := 8, ground := Ground.guard }], guard := some (8, true) }) (F := 8) (vs := #[]) (by kernel_rfl) (by kernel_rfl) (by kernel_rfl) (fun _ => by kernel_rfl) (awake_any _ (hkp.on (bchain kB (bchain hbw hH2.below)))) ?_
                rintro e w4 ⟨rfl, hb4⟩
                have hH3 := hH2.on hb4
                refine ⟨.bool true, rfl, hH3, ?_⟩
                refine held_take (i := 10) (o := { dst := some 65, op := Op.pick (Operand.tmp 63) (Operand.tmp 64) (Operand.const (Value.bool false)), type := 4, pos := "law.go:60", after := #[{ on := 8, ground := Ground.data }, { on := 9, ground := Ground.data }], guard := none }) (v := .bool true) (by kernel_rfl) (by kernel_rfl) (by kernel_rfl) (by kernel_rfl) (fun _ _ _ h => h) (by kernel_rfl) (fun _ _ => by kernel_rfl) hH3 ?_
                refine held_do (i := 11) (o := { dst := some 8, op := Op.assign (Operand.tmp 65), type := 4, pos := "law.go:60", after := #[{ on := 10, ground := Ground.data }, { on := 9, ground := Ground.chain }, { on := 0, ground := Ground.phase }, { on := 1, ground := Ground.phase }, { on := 2, ground := Ground.phase }, { on := 3, ground := Ground.phase }, { on := 4, ground := Ground.phase }, { on := 5, ground := Ground.phase }, { on := 6, ground := Ground.phase }, { on := 7, ground := Ground.phase }, { on := 8, ground := Ground.phase }, { on := 9, ground := Ground.phase }, { on := 10, ground := Ground.phase }], guard := none }) (v := .bool true) (by kernel_rfl) (by kernel_rfl) (by kernel_rfl) (by kernel_rfl) hH3 ?_
                refine wpAnyH_done (by kernel_rfl) ?_ _
                simp only [Act.put, List.setIfInBounds_toArray, List.set_cons_zero, List.set_cons_succ]
                go_wp2
                go_ret
                exact ⟨rfl, bchain kB (bchain hbw hH3.below)⟩
            · have hne : (Pt.comp p9 p == 0) = false := beq_eq_false_iff_ne.2 hc
              have HK3 : Hid (∀ e ∈ es.take (k + 1), ¬ (e.k = z9 ∧ e.p = p)) := by
                have h := HK2.out (fun h => hc (by have h2 : p9 = p := h.2; rw [h2]; exact Pt.comp_self p))
                exact h
              generalize Pt.comp p9 p = cz at *
              clear hM hfe hf9 hcz HK2
              go_wp2_with (go_at_call 22; refine (HC _ (Below.refl _ _)).mono ?_; rintro e v1 ⟨rfl, hv1⟩)
              go_roundw
              case rel => exact ⟨k + 1, by omega, by go_num, HK3, bchain hbw hv1⟩
              case measure => simp [intOf]; omega
          · have hne : (z9 == z) = false := beq_eq_false_iff_ne.2 hz
            have HK3 : Hid (∀ e ∈ es.take (k + 1), ¬ (e.k = z ∧ e.p = p)) := by
              have h := HK2.out (fun h => hz h.1)
              exact h
            clear hM hfe hf9 hcz HK2 HC
            go_wp2
            go_roundw
            case rel => exact ⟨k + 1, by omega, by go_num, HK3, hbw⟩
            case measure => simp [intOf]; omega
        · have hall : ∀ e ∈ es, ¬ (e.k = z ∧ e.p = p) := by
            have h := HK.out
            rw [List.take_of_length_le (by rw [HE.out.len]; omega)] at h
            exact h
          obtain ⟨hl0, rfl⟩ := HX.out hall
          obtain rfl : rn = 0 := by rw [HRN.out, hl0]; rfl
          obtain ⟨d0, d1, d2, d3, _, _, _, _⟩ := VZ.out.on hbw
          clear hall hl0
          go_wp2_with (go_at_call 8; refine (awake_any _ (hkp.on (bchain kB hbw))).mono ?_; rintro e u9 ⟨rfl, hc9⟩)
          go_ret
          exact ⟨rfl, bchain kB (bchain hbw hc9)⟩
end Go.Proofs.YthlhopdlkkeohaaGreatDoor.O

