/- The walk of the document's Of of a view: what is at all leaves. -/
import Derived.Test.YthlhopdlkkeohaaGreatDoorERefLineAll
import Derived.Test.YthlhopdlkkeohaaGreatDoorEOfAll
import Derived.Test.YthlhopdlkkeohaaGreatDoorRefAllAll
namespace Go.Proofs.YthlhopdlkkeohaaGreatDoor.O
open Go.RowKit
section
variable {o : Oper} {a : Act} {w : World} {x y : Operand} {p : Addr} {ad : Addr} {n c k : Nat}
theorem ex_f_rleaf_0 (ho : o.op = .fieldAddr 89 x 0) (hx : a.eval x = .pointer (some p)) (w : World) : (execOp a.eval o).run Tryz.prog w = .ok (.value (.pointer (some p))) w := by
  unfold execOp
  simp only [ho, hx, Sem.run_bind]
  go_simp
theorem ex_f_rleaf_1 (ho : o.op = .fieldAddr 89 x 1) (hx : a.eval x = .pointer (some p)) (w : World) : (execOp a.eval o).run Tryz.prog w = .ok (.value (.pointer (some ⟨p.block, p.off + 1, none⟩))) w := by
  unfold execOp
  simp only [ho, hx, Sem.run_bind]
  go_simp
theorem ex_i_rleaves (ho : o.op = .indexAddr 87 x y) (hx : a.eval x = .slice (some ad) n c) (hy : a.eval y = .int .i64 (k : Int)) (hk : k < n) (w : World) : (execOp a.eval o).run Tryz.prog w = .ok (.value (.pointer (some (ad.add (k * 2))))) w := by
  have h0 : (0 : Int) ≤ (k : Int) := by omega
  have h1 : (k : Int) < (n : Int) := by omega
  unfold execOp
  simp only [ho, hx, hy, Sem.run_bind]
  go_simp
end
/-- An entry whose path is old and whose values' row is new. -/
def EOwn (W w1 : World) (x : EE) : Prop := U.strsAt w1 x.2.1 x.1.p ∧ W.ownsRow w1.heap.size 61 3 x.2.2 x.1.l.length (x.1.l.flatMap vcell)
theorem EOwn.on {W W' w1 : World} {x : EE} (h : EOwn W w1 x) (hb : Below W.heap.size W W') : EOwn W' w1 x := ⟨h.1, own_on h.2 hb⟩
theorem EOwn.ok {W w1 : World} {x : EE} (h : EOwn W w1 x) (hb : Below w1.heap.size w1 W) : EOk W x := ⟨U.strsAt_below h.1 hb (Nat.le_refl _), valsIn_own h.2⟩
/-- A leaf at its place while a region goes. -/
structure OfS (w1 : World) (lad : Addr) (pv : Value) (z : Int) (W : World) : Prop where
  c0 : W.cell? lad = some pv
  c1 : W.cell? ⟨lad.block, lad.off + 1, none⟩ = some (.int .i64 z)
  below : Below w1.heap.size w1 W
  low : w1.heap.size ≤ W.heap.size
theorem OfS.on {w1 W W' : World} {lad : Addr} {pv : Value} {z : Int} (h : OfS w1 lad pv z W) (hb : Below W.heap.size W W') : OfS w1 lad pv z W' :=
  ⟨keep_cell hb h.c0, keep_cell hb h.c1, bchain h.below hb, Nat.le_trans h.low hb.size⟩
theorem OfS.grown {w1 W W' : World} {lad : Addr} {pv r : Value} {z : Int} {n : Nat} {cs : List Value} (h : OfS w1 lad pv z W) (hg : W.grownBy W' r.ownBlock) (hown : W.ownsRow w1.heap.size 42 4 r n cs) (hl : lad.block < w1.heap.size) : OfS w1 lad pv z W' := by
  have hne : some lad.block ≠ r.ownBlock := fun e => by have := (hown.lt _ e.symm).1; omega
  exact ⟨hg.cell h.c0 hne, hg.cell h.c1 hne, h.below.grown hg h.low (fun g e => (hown.lt g e).1), Nat.le_trans h.low hg.size⟩

set_option maxRecDepth 20000 in
set_option maxHeartbeats 4000000 in
theorem refOf18_any (v : Value) (xs : List IE) (its : List Lv.Item) (w : World) (hv : itsE w v xs) (he : xs.map (·.1) = its) (hn : xs.length ≤ 1000000) (hs : ShortI xs) (hz : C.SmallN xs) :
    Calls Tryz.prog 12 #[v] w fun e w' => ∃ r es, e = .returned r ∧ es.map Prod.fst = Vw.of its ∧ entsE w' r es ∧ Below w.heap.size w w' := by
  obtain ⟨i0, hI0, hz0, hz1, hz2⟩ := einfo42
  have HC := refLeaves_any v xs w hv hn hs
  rw [he] at HC
  have hll : (Tr.leaves its).length ≤ 1000000 := by
    unfold Tr.leaves
    refine Nat.le_trans (Li.vals_len _) ?_
    rw [List.length_map, ← he, List.length_map]
    exact hn
  have HA : Hid (∀ W p k, Below w.heap.size w W → ∀ vp, U.strsAt W vp p → p.length ≤ 2000000 → Calls Tryz.prog 21 #[v, vp, .int .i64 k] W fun e w' => ∃ ra rn rk, e = .returned (entV vp k (.slice ra rn rk) (Vw.at' its p k).n) ∧ w'.ownsRow W.heap.size 61 3 (.slice ra rn rk) (Vw.at' its p k).l.length ((Vw.at' its p k).l.flatMap vcell) ∧ Below W.heap.size W w') := by
    have h : ∀ W p k, Below w.heap.size w W → ∀ vp, U.strsAt W vp p → p.length ≤ 2000000 → Calls Tryz.prog 21 #[v, vp, .int .i64 k] W fun e w' => ∃ ra rn rk, e = .returned (entV vp k (.slice ra rn rk) (Vw.at' its p k).n) ∧ w'.ownsRow W.heap.size 61 3 (.slice ra rn rk) (Vw.at' its p k).l.length ((Vw.at' its p k).l.flatMap vcell) ∧ Below W.heap.size W w' := fun W p k hb vp hp hpn =>
      refAt18_any v vp xs its p k W (hv.on hb) he hp hn hpn hs hz
    exact h
  have HP : Hid (∀ x ∈ Tr.leaves its, x.1.length ≤ 2000000) := by
    have h : ∀ x ∈ Tr.leaves its, x.1.length ≤ 2000000 := fun x hx => by
      obtain ⟨i, hi, e1⟩ := Tr.mem_leaves.1 hx
      rw [← he, List.mem_map] at hi
      obtain ⟨y, hy, rfl⟩ := hi
      have h1 := (fine_few (hs y hy)).1
      have e2 : y.1.o.p = x.1 := congrArg Prod.fst e1
      rw [← e2]
      omega
    exact h
  clear hv hs hz he hn
  go_enter Tryz.func12, Tryz.ntmps12
  go_wp2_with (go_at_call 37; refine HC.mono ?_; rintro e w1 ⟨r, zs, rfl, hz9, hl9, hb0⟩; obtain ⟨ao, cap, rfl⟩ := hl9.slice; have HV : Hid (lvsE w1 (.slice ao zs.length cap) zs) := hl9; have HZ : Hid (zs.map Prod.fst = Tr.leaves its) := hz9; obtain ⟨n, hn0⟩ : ∃ n, n = zs.length := ⟨_, rfl⟩; have HN : Hid (n = zs.length) := hn0; have hnl : n ≤ 1000000 := (by have h9 := congrArg List.length hz9; rw [List.length_map] at h9; omega); rw [← hn0] at HV ⊢; clear hl9 hz9 hn0 HC hll)
  go_loopw [4, 5] (fun out i wr => ∃ (k : Nat) (acc : List EE), k ≤ n ∧ i = .int .i64 k ∧ Hid (acc.map Prod.fst = (Vw.of its).take k) ∧ wr.ownsRow w1.heap.size 42 4 out acc.length (acc.flatMap ecell) ∧ Hid (∀ x ∈ acc, EOwn wr w1 x) ∧ Below w1.heap.size w1 wr) (fun _ i _ => n - (intOf i).toNat)
  case atStart => exact ⟨0, [], by omega, rfl, rfl, World.ownsRow_nil _ _ _ _, fun x hx => by simp at hx, Below.refl _ _⟩
  case round =>
    obtain ⟨k, acc, hk, rfl, HE, hown, HLo, hbw⟩ := hrel
    have hol : (Vw.of its).length = n := by rw [Vw.of, List.length_map, ← HZ.out, List.length_map, ← HN.out]
    have hal := congrArg List.length HE.out
    rw [List.length_map, List.length_take, hol] at hal
    have hroom : acc.length + 1 ≤ 1000001 := by omega
    by_cases hkn : k < n
    · have hkx : k < zs.length := by rw [← HN.out]; exact hkn
      have hkl : k < (Tr.leaves its).length := by rw [← HZ.out, List.length_map]; exact hkx
      obtain ⟨ad, e9, -, hX1, hXo⟩ := HV.out.get hkx
      subst e9
      have hX := hX1.on hbw
      have hlad : (ad.add (k * 2)).block < w1.heap.size := World.block_lt_of_cell? _ _ hX1.c0
      have hpl := HP.out _ (List.getElem_mem hkl)
      have e3 : (Tr.leaves its)[k] = zs[k].1 := by
        have h := congrArg (fun l => l[k]?) HZ.out
        simp only [List.getElem?_map, List.getElem?_eq_getElem hkx, List.getElem?_eq_getElem hkl, Option.map_some, Option.some.injEq] at h
        exact h.symm
      have HS : Hid ((Vw.of its).take (k + 1) = (Vw.of its).take k ++ [Vw.at' its zs[k].1.1 zs[k].1.2]) := by
        have h := Vw.of_step its hkl
        rw [e3] at h
        exact h
      rw [e3] at hpl
      clear hX1 e3 hal hol
      generalize zs[k] = y at *
      obtain ⟨⟨p9, z⟩, pv⟩ := y
      have hXo : U.strsAt w1 pv p9 := hXo
      obtain ⟨pa, pn, pc, rfl⟩ := strs_slice hXo
      have HAT : ∀ W, Below w1.heap.size w1 W → Calls Tryz.prog 21 #[v, .slice pa pn pc, .int .i64 z] W fun e w' => ∃ ra rn rk, e = .returned (entV (.slice pa pn pc) z (.slice ra rn rk) (Vw.at' its p9 z).n) ∧ w'.ownsRow W.heap.size 61 3 (.slice ra rn rk) (Vw.at' its p9 z).l.length ((Vw.at' its p9 z).l.flatMap vcell) ∧ Below W.heap.size W w' := fun W hb => HA.out W p9 z (bchain hb0 hb) _ (U.strsAt_below hXo hb (Nat.le_refl _)) hpl
      have HE2 : Hid (∀ rv, (acc ++ [((⟨p9, z, (Vw.at' its p9 z).l, (Vw.at' its p9 z).n⟩, .slice pa pn pc, rv) : EE)]).map Prod.fst = (Vw.of its).take (k + 1)) := by
        have h : ∀ rv, (acc ++ [((⟨p9, z, (Vw.at' its p9 z).l, (Vw.at' its p9 z).n⟩, .slice pa pn pc, rv) : EE)]).map Prod.fst = (Vw.of its).take (k + 1) := fun rv => by
          rw [List.map_append, HE.out, HS.out]
          rfl
        exact h
      clear HE HS hpl
      generalize (Vw.at' its p9 z).l = l9 at *
      generalize (Vw.at' its p9 z).n = n9 at *
      go_wp2
      refine wp_region_held_drew (S := fun W => OfS w1 (ad.add (k * 2)) (.slice pa pn pc) z W) (by kernel_rfl) (⟨hX.c0, hX.c1, hbw.drew, hbw.size⟩) (fun hH0 => ?_)
      refine held_take (i := 0) (o := { dst := some 14, op := Op.move (Operand.tmp 4), type := 34, pos := "ref.go:46", after := #[], guard := none }) (v := u4) (by kernel_rfl) (by kernel_rfl) (by kernel_rfl) (by kernel_rfl) (fun _ _ _ h => h) (by kernel_rfl) (fun _ _ => by kernel_rfl) hH0 ?_
      refine held_take (i := 1) (o := { dst := some 15, op := Op.move (Operand.tmp 0), type := 30, pos := "ref.go:46", after := #[], guard := none }) (v := v) (by kernel_rfl) (by kernel_rfl) (by kernel_rfl) (by kernel_rfl) (fun _ _ _ h => h) (by kernel_rfl) (fun _ _ => by kernel_rfl) hH0 ?_
      refine held_take (i := 2) (o := { dst := some 16, op := Op.move (Operand.tmp 3), type := 87, pos := "ref.go:46", after := #[], guard := none }) (v := .slice (some ad) n cap) (by kernel_rfl) (by kernel_rfl) (by kernel_rfl) (by kernel_rfl) (fun _ _ _ h => h) (by kernel_rfl) (fun _ _ => by kernel_rfl) hH0 ?_
      refine held_take (i := 3) (o := { dst := some 17, op := Op.move (Operand.tmp 5), type := 3, pos := "ref.go:46", after := #[], guard := none }) (v := .int .i64 (k : Int)) (by kernel_rfl) (by kernel_rfl) (by kernel_rfl) (by kernel_rfl) (fun _ _ _ h => h) (by kernel_rfl) (fun _ _ => by kernel_rfl) hH0 ?_
      refine held_take (i := 4) (o := { dst := some 18, op := Op.indexAddr 87 (Operand.tmp 16) (Operand.tmp 17), type := 0, pos := "ref.go:46", after := #[{ on := 2, ground := Ground.data }, { on := 3, ground := Ground.data }], guard := none }) (v := .pointer (some ((ad.add (k * 2))))) (by kernel_rfl) (by kernel_rfl) (by kernel_rfl) (by kernel_rfl) (fun _ _ _ h => h) (by kernel_rfl) (fun W _ => ex_i_rleaves (n := n) (c := cap) (k := k) rfl (by kernel_rfl) (by kernel_rfl) hkn W) hH0 ?_
      refine held_take (i := 5) (o := { dst := some 19, op := Op.fieldAddr 89 (Operand.tmp 18) 0, type := 0, pos := "ref.go:46", after := #[{ on := 4, ground := Ground.data }], guard := none }) (v := .pointer (some ((ad.add (k * 2))))) (by kernel_rfl) (by kernel_rfl) (by kernel_rfl) (by kernel_rfl) (fun _ _ _ h => h) (by kernel_rfl) (fun W _ => ex_f_rleaf_0 (p := ((ad.add (k * 2)))) rfl (by kernel_rfl) W) hH0 ?_
      refine held_take (i := 6) (o := { dst := some 20, op := Op.load 24 (Operand.tmp 19), type := 24, pos := "ref.go:46", after := #[{ on := 5, ground := Ground.data }], guard := none }) (v := .slice pa pn pc) (by kernel_rfl) (by kernel_rfl) (by kernel_rfl) (by kernel_rfl) (fun _ _ _ h => h) (by kernel_rfl) (fun _ h => ex_l1_strs (p := ((ad.add (k * 2)))) rfl (by kernel_rfl) (h.c0)) hH0 ?_
      refine held_take (i := 7) (o := { dst := some 21, op := Op.move (Operand.tmp 3), type := 87, pos := "ref.go:46", after := #[], guard := none }) (v := .slice (some ad) n cap) (by kernel_rfl) (by kernel_rfl) (by kernel_rfl) (by kernel_rfl) (fun _ _ _ h => h) (by kernel_rfl) (fun _ _ => by kernel_rfl) hH0 ?_
      refine held_take (i := 8) (o := { dst := some 22, op := Op.move (Operand.tmp 5), type := 3, pos := "ref.go:46", after := #[], guard := none }) (v := .int .i64 (k : Int)) (by kernel_rfl) (by kernel_rfl) (by kernel_rfl) (by kernel_rfl) (fun _ _ _ h => h) (by kernel_rfl) (fun _ _ => by kernel_rfl) hH0 ?_
      refine held_take (i := 9) (o := { dst := some 23, op := Op.indexAddr 87 (Operand.tmp 21) (Operand.tmp 22), type := 0, pos := "ref.go:46", after := #[{ on := 7, ground := Ground.data }, { on := 8, ground := Ground.data }], guard := none }) (v := .pointer (some ((ad.add (k * 2))))) (by kernel_rfl) (by kernel_rfl) (by kernel_rfl) (by kernel_rfl) (fun _ _ _ h => h) (by kernel_rfl) (fun W _ => ex_i_rleaves (n := n) (c := cap) (k := k) rfl (by kernel_rfl) (by kernel_rfl) hkn W) hH0 ?_
      refine held_take (i := 10) (o := { dst := some 24, op := Op.fieldAddr 89 (Operand.tmp 23) 1, type := 0, pos := "ref.go:46", after := #[{ on := 9, ground := Ground.data }], guard := none }) (v := .pointer (some ⟨((ad.add (k * 2))).block, ((ad.add (k * 2))).off + 1, none⟩)) (by kernel_rfl) (by kernel_rfl) (by kernel_rfl) (by kernel_rfl) (fun _ _ _ h => h) (by kernel_rfl) (fun W _ => ex_f_rleaf_1 (p := ((ad.add (k * 2)))) rfl (by kernel_rfl) W) hH0 ?_
      refine held_take (i := 11) (o := { dst := some 25, op := Op.load 3 (Operand.tmp 24), type := 3, pos := "ref.go:46", after := #[{ on := 10, ground := Ground.data }], guard := none }) (v := .int .i64 (z : Int)) (by kernel_rfl) (by kernel_rfl) (by kernel_rfl) (by kernel_rfl) (fun _ _ _ h => h) (by kernel_rfl) (fun _ h => ex_l1_int (p := ⟨((ad.add (k * 2))).block, ((ad.add (k * 2))).off + 1, none⟩) rfl (by kernel_rfl) (h.c1)) hH0 ?_
      refine held_callX (i := 12) (o := { dst := some 26, op := Op.call { callee := Callee.value (Operand.func 21), args := #[Operand.tmp 15, Operand.tmp 20, Operand.tmp 25], argTypes := #[30, 24, 3] }, type := 42, pos := "ref.go:46", after := #[{ on := 1, ground := Ground.data }, { on := 6, ground := Ground.data }, { on := 11, ground := Ground.data }], guard := none }) (F := 21) (vs := #[v, .slice pa pn pc, .int .i64 (z : Int)]) (by kernel_rfl) (by kernel_rfl) (by kernel_rfl) (fun _ => by kernel_rfl) (HAT _ hH0.below) ?_
      rintro e w2 ⟨ra, rn, rk, rfl, hoc, hb1⟩
      have hH1 := hH0.on hb1
      refine ⟨.agg #[.slice pa pn pc, .int .i64 z, .slice ra rn rk, .int .i64 n9], rfl, hH1, ?_⟩
      have hH2 := hH1.on (below_new w2 (entO (.slice pa pn pc) z (.slice ra rn rk) n9 42))
      have hown9 := own_on hown (bchain (Below.refl _ _).drew (bchain hb1 (below_new w2 (entO (.slice pa pn pc) z (.slice ra rn rk) n9 42))))
      have hoc9 := own_on hoc (below_new w2 (entO (.slice pa pn pc) z (.slice ra rn rk) n9 42))
      have HLo9 : ∀ x ∈ acc, EOwn (w2.alloc (entO (.slice pa pn pc) z (.slice ra rn rk) n9 42)) w1 x := fun x hx => (HLo.out x hx).on (bchain (Below.refl _ _).drew (bchain hb1 (below_new w2 (entO (.slice pa pn pc) z (.slice ra rn rk) n9 42))))
      refine held_run (i := 13) (o := { dst := some 27, op := Op.buildSlice 34 1 #[(0, Operand.tmp 26)], type := 34, pos := "ref.go:46", after := #[{ on := 12, ground := Ground.data }], guard := none }) (v := .slice (some ⟨w2.heap.size, 0, none⟩) 1 1) (w' := (w2.alloc (entO (.slice pa pn pc) z (.slice ra rn rk) n9 42))) (by kernel_rfl) (by kernel_rfl) (by kernel_rfl) (by kernel_rfl) hH2 ?_
      refine held_wp (i := 14) (o := { dst := some 28, op := Op.call { callee := Callee.builtin Builtin.append, args := #[Operand.tmp 14, Operand.tmp 27], argTypes := #[34, 34] }, type := 34, pos := "ref.go:46", after := #[{ on := 0, ground := Ground.data }, { on := 13, ground := Ground.data }, { on := 12, ground := Ground.chain }], guard := none }) (R := fun v' w' => w'.ownsRow w1.heap.size 42 4 v' (acc ++ [((⟨p9, z, l9, n9⟩, .slice pa pn pc, .slice ra rn rk) : EE)]).length ((acc ++ [((⟨p9, z, l9, n9⟩, .slice pa pn pc, .slice ra rn rk) : EE)]).flatMap ecell) ∧ World.grownBy (w2.alloc (entO (.slice pa pn pc) z (.slice ra rn rk) n9 42)) w' u4.ownBlock) (by kernel_rfl) (by kernel_rfl) (by kernel_rfl) (fun K9 Q9 hK9 => wp_append_one (f := ecell) (m := 4) ecell_len (Nat.succ_pos 3) (ST := 34) (T := 42) Tryz.underlying34 hI0 hz0 hz1 hz2 rfl (by decide) _ _ rfl w1.heap.size hH2.low u4 acc (by kernel_rfl) hown9 _ ((⟨p9, z, l9, n9⟩, .slice pa pn pc, .slice ra rn rk) : EE) (by kernel_rfl) (new_cells w2 (ecell ((⟨p9, z, l9, n9⟩, .slice pa pn pc, .slice ra rn rk) : EE)) 42) (ecell_one ⟨_, _, _, rfl⟩ ⟨_, _, _, rfl⟩) hroom hK9) ?_
      rintro v2 w3 ⟨hown2, hg2⟩
      have hH3 := hH2.grown hg2 hown9 hlad
      refine ⟨hH3, ?_⟩
      refine held_do (i := 15) (o := { dst := some 4, op := Op.assign (Operand.tmp 28), type := 34, pos := "ref.go:46", after := #[{ on := 14, ground := Ground.data }, { on := 14, ground := Ground.chain }, { on := 0, ground := Ground.phase }, { on := 1, ground := Ground.phase }, { on := 2, ground := Ground.phase }, { on := 3, ground := Ground.phase }, { on := 4, ground := Ground.phase }, { on := 5, ground := Ground.phase }, { on := 6, ground := Ground.phase }, { on := 7, ground := Ground.phase }, { on := 8, ground := Ground.phase }, { on := 9, ground := Ground.phase }, { on := 10, ground := Ground.phase }, { on := 11, ground := Ground.phase }, { on := 12, ground := Ground.phase }, { on := 13, ground := Ground.phase }, { on := 14, ground := Ground.phase }], guard := none }) (v := v2) (by kernel_rfl) (by kernel_rfl) (by kernel_rfl) (by kernel_rfl) hH3 ?_
      refine wpAnyH_done (by kernel_rfl) ?_ _
      simp only [Act.put, List.setIfInBounds_toArray, List.set_cons_zero, List.set_cons_succ]
      go_wp2
      go_roundw
      case rel => exact ⟨k + 1, acc ++ [((⟨p9, z, l9, n9⟩, .slice pa pn pc, .slice ra rn rk) : EE)], by omega, by go_num, HE2.out (.slice ra rn rk), hown2, fun x hx => by
        rcases List.mem_append.1 hx with hx | hx
        · exact ⟨(HLo9 x hx).1, own_grown_other (HLo9 x hx).2 hg2 (own_types (HLo9 x hx).2 hown9 (by decide))⟩
        · rw [List.mem_singleton.1 hx]
          exact ⟨hXo, own_grown_other (own_base hoc9 hbw.size) hg2 (own_types (own_base hoc9 hbw.size) hown9 (by decide))⟩, hH3.below⟩
      case measure => simp [intOf]; omega
    · rw [List.take_of_length_le (by omega)] at HE
      go_wp2
      go_ret
      exact ⟨_, acc, rfl, HE.out, entsE_row (rowR.of_own ecell_len hown) fun x hx => (HLo.out x hx).ok hbw, bchain hb0 hbw⟩
end Go.Proofs.YthlhopdlkkeohaaGreatDoor.O

