/- The walk of the statement's theirs: a view's entries as the document's · The walk of the document's Same over lists of values. -/
import Derived.Test.YthlhopdlkkeohaaGreatDoorERefOf
import Derived.Test.YthlhopdlkkeohaaGreatDoorVCompactAll
/- The walk of the statement's theirs: a view's entries as the document's. -/
namespace Go.Proofs.YthlhopdlkkeohaaGreatDoor.O
open Go.RowKit
section
variable {o : Oper} {a : Act} {w : World} {x y : Operand} {p : Addr} {ad : Addr} {n c k : Nat}
theorem ex_f_ent_0 (ho : o.op = .fieldAddr 38 x 0) (hx : a.eval x = .pointer (some p)) (w : World) : (execOp a.eval o).run Tryz.prog w = .ok (.value (.pointer (some p))) w := by
  unfold execOp
  simp only [ho, hx, Sem.run_bind]
  go_simp
theorem ex_f_ent_1 (ho : o.op = .fieldAddr 38 x 1) (hx : a.eval x = .pointer (some p)) (w : World) : (execOp a.eval o).run Tryz.prog w = .ok (.value (.pointer (some ⟨p.block, p.off + 1, none⟩))) w := by
  unfold execOp
  simp only [ho, hx, Sem.run_bind]
  go_simp
theorem ex_f_ent_2 (ho : o.op = .fieldAddr 38 x 2) (hx : a.eval x = .pointer (some p)) (w : World) : (execOp a.eval o).run Tryz.prog w = .ok (.value (.pointer (some ⟨p.block, p.off + 2, none⟩))) w := by
  unfold execOp
  simp only [ho, hx, Sem.run_bind]
  go_simp
theorem ex_f_ent_3 (ho : o.op = .fieldAddr 38 x 3) (hx : a.eval x = .pointer (some p)) (w : World) : (execOp a.eval o).run Tryz.prog w = .ok (.value (.pointer (some ⟨p.block, p.off + 3, none⟩))) w := by
  unfold execOp
  simp only [ho, hx, Sem.run_bind]
  go_simp
theorem ex_i_ents (ho : o.op = .indexAddr 32 x y) (hx : a.eval x = .slice (some ad) n c) (hy : a.eval y = .int .i64 (k : Int)) (hk : k < n) (w : World) : (execOp a.eval o).run Tryz.prog w = .ok (.value (.pointer (some (ad.add (k * 4))))) w := by
  have h0 : (0 : Int) ≤ (k : Int) := by omega
  have h1 : (k : Int) < (n : Int) := by omega
  unfold execOp
  simp only [ho, hx, hy, Sem.run_bind]
  go_simp
theorem ex_l1_vals {v : Value} (ho : o.op = .load 36 x) (hx : a.eval x = .pointer (some p)) (h : w.cell? p = some v) : (execOp a.eval o).run Tryz.prog w = .ok (.value v) w := by
  unfold execOp
  simp only [ho, hx, Sem.run_bind]
  go_simp
end
/-- An entry at its place while a region goes. -/
structure ThS (w : World) (q : Addr) (pv : Value) (z : Int) (lv : Value) (m : Int) (W : World) : Prop where
  c0 : W.cell? q = some pv
  c1 : W.cell? ⟨q.block, q.off + 1, none⟩ = some (.int .i64 z)
  c2 : W.cell? ⟨q.block, q.off + 2, none⟩ = some lv
  c3 : W.cell? ⟨q.block, q.off + 3, none⟩ = some (.int .i64 m)
  below : Below w.heap.size w W
  low : w.heap.size ≤ W.heap.size
theorem ThS.on {w W W' : World} {q : Addr} {pv lv : Value} {z m : Int} (h : ThS w q pv z lv m W) (hb : Below W.heap.size W W') : ThS w q pv z lv m W' :=
  ⟨keep_cell hb h.c0, keep_cell hb h.c1, keep_cell hb h.c2, keep_cell hb h.c3, bchain h.below hb, Nat.le_trans h.low hb.size⟩
theorem ThS.grown {w W W' : World} {q : Addr} {pv lv r : Value} {z m : Int} {n : Nat} {cs : List Value} (h : ThS w q pv z lv m W) (hg : W.grownBy W' r.ownBlock) (hown : W.ownsRow w.heap.size 42 4 r n cs) (hl : q.block < w.heap.size) : ThS w q pv z lv m W' := by
  have hne : some q.block ≠ r.ownBlock := fun e => by have := (hown.lt _ e.symm).1; omega
  exact ⟨hg.cell h.c0 hne, hg.cell h.c1 hne, hg.cell h.c2 hne, hg.cell h.c3 hne, h.below.grown hg h.low (fun g e => (hown.lt g e).1), Nat.le_trans h.low hg.size⟩

set_option maxRecDepth 20000 in
set_option maxHeartbeats 4000000 in
theorem theirs_any (v : Value) (xs : List EE) (w : World) (hv : entsE w v xs) (hn : xs.length ≤ 1000000) :
    Calls Tryz.prog 17 #[v] w fun e w' => ∃ r, e = .returned r ∧ entsE w' r xs ∧ Below w.heap.size w w' := by
  obtain ⟨i0, hI0, hz0, hz1, hz2⟩ := einfo42
  obtain ⟨ao, cap, rfl⟩ := hv.slice
  obtain ⟨n, hn0⟩ : ∃ n, n = xs.length := ⟨_, rfl⟩
  have HN : Hid (n = xs.length) := hn0
  rw [← hn0] at hv hn ⊢
  have HV : Hid (entsE w (.slice ao n cap) xs) := hv
  clear hn0 hv
  go_enter Tryz.func17, Tryz.ntmps17
  go_wp2
  go_loopw [3, 4] (fun out i wr => ∃ (k : Nat) (acc : List EE), k ≤ n ∧ i = .int .i64 k ∧ Hid (acc = xs.take k) ∧ wr.ownsRow w.heap.size 42 4 out acc.length (acc.flatMap ecell) ∧ Below w.heap.size w wr) (fun _ i _ => n - (intOf i).toNat)
  case atStart => exact ⟨0, [], by omega, rfl, rfl, World.ownsRow_nil _ _ _ _, Below.refl _ _⟩
  case round =>
    obtain ⟨k, acc, hk, rfl, HE, hown, hbw⟩ := hrel
    have hal := congrArg List.length HE.out
    rw [List.length_take] at hal
    have hroom : acc.length + 1 ≤ 1000001 := by omega
    by_cases hkn : k < n
    · have hkx : k < xs.length := by rw [← HN.out]; exact hkn
      obtain ⟨ad, e9, -, hX1, hXo⟩ := HV.out.get hkx
      subst e9
      have hX := hX1.on hbw
      have hlad : (ad.add (k * 4)).block < w.heap.size := World.block_lt_of_cell? _ _ hX1.c0
      have HE2 : Hid (acc ++ [xs[k]] = xs.take (k + 1)) := by
        have h : acc ++ [xs[k]] = xs.take (k + 1) := by rw [List.take_succ_eq_append_getElem hkx, HE.out]
        exact h
      clear hX1 hal HE
      generalize xs[k] = y at *
      obtain ⟨⟨p9, z, l9, m9⟩, pv, lv⟩ := y
      obtain ⟨⟨pa, pn, pc, e1⟩, ⟨la, ln, lc, e2⟩⟩ := hXo.slices
      have e1 : pv = .slice pa pn pc := e1
      have e2 : lv = .slice la ln lc := e2
      subst e1 e2
      clear hXo
      go_wp2
      refine wp_region_held_drew (S := fun W => ThS w (ad.add (k * 4)) (.slice pa pn pc) z (.slice la ln lc) m9 W) (by kernel_rfl) (⟨hX.c0, hX.c1, hX.c2, hX.c3, hbw.drew, hbw.size⟩) (fun hH0 => ?_)
      refine held_take (i := 0) (o := { dst := some 11, op := Op.move (Operand.tmp 3), type := 34, pos := "law.go:29", after := #[], guard := none }) (v := u3) (by kernel_rfl) (by kernel_rfl) (by kernel_rfl) (by kernel_rfl) (fun _ _ _ h => h) (by kernel_rfl) (fun _ _ => by kernel_rfl) hH0 ?_
      refine held_take (i := 1) (o := { dst := some 12, op := Op.move (Operand.tmp 0), type := 32, pos := "law.go:29", after := #[], guard := none }) (v := .slice (some ad) n cap) (by kernel_rfl) (by kernel_rfl) (by kernel_rfl) (by kernel_rfl) (fun _ _ _ h => h) (by kernel_rfl) (fun _ _ => by kernel_rfl) hH0 ?_
      refine held_take (i := 2) (o := { dst := some 13, op := Op.move (Operand.tmp 4), type := 3, pos := "law.go:29", after := #[], guard := none }) (v := .int .i64 (k : Int)) (by kernel_rfl) (by kernel_rfl) (by kernel_rfl) (by kernel_rfl) (fun _ _ _ h => h) (by kernel_rfl) (fun _ _ => by kernel_rfl) hH0 ?_
      refine held_take (i := 3) (o := { dst := some 14, op := Op.indexAddr 32 (Operand.tmp 12) (Operand.tmp 13), type := 0, pos := "law.go:29", after := #[{ on := 1, ground := Ground.data }, { on := 2, ground := Ground.data }], guard := none }) (v := .pointer (some ((ad.add (k * 4))))) (by kernel_rfl) (by kernel_rfl) (by kernel_rfl) (by kernel_rfl) (fun _ _ _ h => h) (by kernel_rfl) (fun W _ => ex_i_ents (n := n) (c := cap) (k := k) rfl (by kernel_rfl) (by kernel_rfl) hkn W) hH0 ?_
      refine held_take (i := 4) (o := { dst := some 15, op := Op.fieldAddr 38 (Operand.tmp 14) 0, type := 0, pos := "law.go:29", after := #[{ on := 3, ground := Ground.data }], guard := none }) (v := .pointer (some ((ad.add (k * 4))))) (by kernel_rfl) (by kernel_rfl) (by kernel_rfl) (by kernel_rfl) (fun _ _ _ h => h) (by kernel_rfl) (fun W _ => ex_f_ent_0 (p := ((ad.add (k * 4)))) rfl (by kernel_rfl) W) hH0 ?_
      refine held_take (i := 5) (o := { dst := some 16, op := Op.load 24 (Operand.tmp 15), type := 24, pos := "law.go:29", after := #[{ on := 4, ground := Ground.data }], guard := none }) (v := .slice pa pn pc) (by kernel_rfl) (by kernel_rfl) (by kernel_rfl) (by kernel_rfl) (fun _ _ _ h => h) (by kernel_rfl) (fun _ h => ex_l1_strs (p := ((ad.add (k * 4)))) rfl (by kernel_rfl) (h.c0)) hH0 ?_
      refine held_take (i := 6) (o := { dst := some 17, op := Op.move (Operand.tmp 0), type := 32, pos := "law.go:29", after := #[], guard := none }) (v := .slice (some ad) n cap) (by kernel_rfl) (by kernel_rfl) (by kernel_rfl) (by kernel_rfl) (fun _ _ _ h => h) (by kernel_rfl) (fun _ _ => by kernel_rfl) hH0 ?_
      refine held_take (i := 7) (o := { dst := some 18, op := Op.move (Operand.tmp 4), type := 3, pos := "law.go:29", after := #[], guard := none }) (v := .int .i64 (k : Int)) (by kernel_rfl) (by kernel_rfl) (by kernel_rfl) (by kernel_rfl) (fun _ _ _ h => h) (by kernel_rfl) (fun _ _ => by kernel_rfl) hH0 ?_
      refine held_take (i := 8) (o := { dst := some 19, op := Op.indexAddr 32 (Operand.tmp 17) (Operand.tmp 18), type := 0, pos := "law.go:29", after := #[{ on := 6, ground := Ground.data }, { on := 7, ground := Ground.data }], guard := none }) (v := .pointer (some ((ad.add (k * 4))))) (by kernel_rfl) (by kernel_rfl) (by kernel_rfl) (by kernel_rfl) (fun _ _ _ h => h) (by kernel_rfl) (fun W _ => ex_i_ents (n := n) (c := cap) (k := k) rfl (by kernel_rfl) (by kernel_rfl) hkn W) hH0 ?_
      refine held_take (i := 9) (o := { dst := some 20, op := Op.fieldAddr 38 (Operand.tmp 19) 1, type := 0, pos := "law.go:29", after := #[{ on := 8, ground := Ground.data }], guard := none }) (v := .pointer (some ⟨((ad.add (k * 4))).block, ((ad.add (k * 4))).off + 1, none⟩)) (by kernel_rfl) (by kernel_rfl) (by kernel_rfl) (by kernel_rfl) (fun _ _ _ h => h) (by kernel_rfl) (fun W _ => ex_f_ent_1 (p := ((ad.add (k * 4)))) rfl (by kernel_rfl) W) hH0 ?_
      refine held_take (i := 10) (o := { dst := some 21, op := Op.load 3 (Operand.tmp 20), type := 3, pos := "law.go:29", after := #[{ on := 9, ground := Ground.data }], guard := none }) (v := .int .i64 (z : Int)) (by kernel_rfl) (by kernel_rfl) (by kernel_rfl) (by kernel_rfl) (fun _ _ _ h => h) (by kernel_rfl) (fun _ h => ex_l1_int (p := ⟨((ad.add (k * 4))).block, ((ad.add (k * 4))).off + 1, none⟩) rfl (by kernel_rfl) (h.c1)) hH0 ?_
      refine held_take (i := 11) (o := { dst := some 22, op := Op.move (Operand.tmp 0), type := 32, pos := "law.go:29", after := #[], guard := none }) (v := .slice (some ad) n cap) (by kernel_rfl) (by kernel_rfl) (by kernel_rfl) (by kernel_rfl) (fun _ _ _ h => h) (by kernel_rfl) (fun _ _ => by kernel_rfl) hH0 ?_
      refine held_take (i := 12) (o := { dst := some 23, op := Op.move (Operand.tmp 4), type := 3, pos := "law.go:29", after := #[], guard := none }) (v := .int .i64 (k : Int)) (by kernel_rfl) (by kernel_rfl) (by kernel_rfl) (by kernel_rfl) (fun _ _ _ h => h) (by kernel_rfl) (fun _ _ => by kernel_rfl) hH0 ?_
      refine held_take (i := 13) (o := { dst := some 24, op := Op.indexAddr 32 (Operand.tmp 22) (Operand.tmp 23), type := 0, pos := "law.go:29", after := #[{ on := 11, ground := Ground.data }, { on := 12, ground := Ground.data }], guard := none }) (v := .pointer (some ((ad.add (k * 4))))) (by kernel_rfl) (by kernel_rfl) (by kernel_rfl) (by kernel_rfl) (fun _ _ _ h => h) (by kernel_rfl) (fun W _ => ex_i_ents (n := n) (c := cap) (k := k) rfl (by kernel_rfl) (by kernel_rfl) hkn W) hH0 ?_
      refine held_take (i := 14) (o := { dst := some 25, op := Op.fieldAddr 38 (Operand.tmp 24) 2, type := 0, pos := "law.go:29", after := #[{ on := 13, ground := Ground.data }], guard := none }) (v := .pointer (some ⟨((ad.add (k * 4))).block, ((ad.add (k * 4))).off + 2, none⟩)) (by kernel_rfl) (by kernel_rfl) (by kernel_rfl) (by kernel_rfl) (fun _ _ _ h => h) (by kernel_rfl) (fun W _ => ex_f_ent_2 (p := ((ad.add (k * 4)))) rfl (by kernel_rfl) W) hH0 ?_
      refine held_take (i := 15) (o := { dst := some 26, op := Op.load 36 (Operand.tmp 25), type := 36, pos := "law.go:29", after := #[{ on := 14, ground := Ground.data }], guard := none }) (v := .slice la ln lc) (by kernel_rfl) (by kernel_rfl) (by kernel_rfl) (by kernel_rfl) (fun _ _ _ h => h) (by kernel_rfl) (fun _ h => ex_l1_vals (p := ⟨((ad.add (k * 4))).block, ((ad.add (k * 4))).off + 2, none⟩) rfl (by kernel_rfl) (h.c2)) hH0 ?_
      refine held_take (i := 16) (o := { dst := some 27, op := Op.move (Operand.tmp 0), type := 32, pos := "law.go:29", after := #[], guard := none }) (v := .slice (some ad) n cap) (by kernel_rfl) (by kernel_rfl) (by kernel_rfl) (by kernel_rfl) (fun _ _ _ h => h) (by kernel_rfl) (fun _ _ => by kernel_rfl) hH0 ?_
      refine held_take (i := 17) (o := { dst := some 28, op := Op.move (Operand.tmp 4), type := 3, pos := "law.go:29", after := #[], guard := none }) (v := .int .i64 (k : Int)) (by kernel_rfl) (by kernel_rfl) (by kernel_rfl) (by kernel_rfl) (fun _ _ _ h => h) (by kernel_rfl) (fun _ _ => by kernel_rfl) hH0 ?_
      refine held_take (i := 18) (o := { dst := some 29, op := Op.indexAddr 32 (Operand.tmp 27) (Operand.tmp 28), type := 0, pos := "law.go:29", after := #[{ on := 16, ground := Ground.data }, { on := 17, ground := Ground.data }], guard := none }) (v := .pointer (some ((ad.add (k * 4))))) (by kernel_rfl) (by kernel_rfl) (by kernel_rfl) (by kernel_rfl) (fun _ _ _ h => h) (by kernel_rfl) (fun W _ => ex_i_ents (n := n) (c := cap) (k := k) rfl (by kernel_rfl) (by kernel_rfl) hkn W) hH0 ?_
      refine held_take (i := 19) (o := { dst := some 30, op := Op.fieldAddr 38 (Operand.tmp 29) 3, type := 0, pos := "law.go:29", after := #[{ on := 18, ground := Ground.data }], guard := none }) (v := .pointer (some ⟨((ad.add (k * 4))).block, ((ad.add (k * 4))).off + 3, none⟩)) (by kernel_rfl) (by kernel_rfl) (by kernel_rfl) (by kernel_rfl) (fun _ _ _ h => h) (by kernel_rfl) (fun W _ => ex_f_ent_3 (p := ((ad.add (k * 4)))) rfl (by kernel_rfl) W) hH0 ?_
      refine held_take (i := 20) (o := { dst := some 31, op := Op.load 3 (Operand.tmp 30), type := 3, pos := "law.go:29", after := #[{ on := 19, ground := Ground.data }], guard := none }) (v := .int .i64 (m9 : Int)) (by kernel_rfl) (by kernel_rfl) (by kernel_rfl) (by kernel_rfl) (fun _ _ _ h => h) (by kernel_rfl) (fun _ h => ex_l1_int (p := ⟨((ad.add (k * 4))).block, ((ad.add (k * 4))).off + 3, none⟩) rfl (by kernel_rfl) (h.c3)) hH0 ?_
      refine held_take (i := 21) (o := { dst := some 32, op := Op.build 42 #[(0, Operand.tmp 16), (1, Operand.tmp 21), (2, Operand.tmp 26), (3, Operand.tmp 31)], type := 42, pos := "law.go:29", after := #[{ on := 5, ground := Ground.data }, { on := 10, ground := Ground.data }, { on := 15, ground := Ground.data }, { on := 20, ground := Ground.data }], guard := none }) (v := .agg #[.slice pa pn pc, .int .i64 (z : Int), .slice la ln lc, .int .i64 (m9 : Int)]) (by kernel_rfl) (by kernel_rfl) (by kernel_rfl) (by kernel_rfl) (fun _ _ _ h => h) (by kernel_rfl) (fun _ _ => by kernel_rfl) hH0 ?_
      have hH1 := hH0.on (below_new wr.drew (entO (.slice pa pn pc) z (.slice la ln lc) m9 42))
      have hown9 := own_on hown (bchain (Below.refl _ _).drew (below_new wr.drew (entO (.slice pa pn pc) z (.slice la ln lc) m9 42)))
      refine held_run (i := 22) (o := { dst := some 33, op := Op.buildSlice 34 1 #[(0, Operand.tmp 32)], type := 34, pos := "law.go:29", after := #[{ on := 21, ground := Ground.data }], guard := none }) (v := .slice (some ⟨wr.drew.heap.size, 0, none⟩) 1 1) (w' := (wr.drew.alloc (entO (.slice pa pn pc) z (.slice la ln lc) m9 42))) (by kernel_rfl) (by kernel_rfl) (by kernel_rfl) (by kernel_rfl) hH1 ?_
      refine held_wp (i := 23) (o := { dst := some 34, op := Op.call { callee := Callee.builtin Builtin.append, args := #[Operand.tmp 11, Operand.tmp 33], argTypes := #[34, 34] }, type := 34, pos := "law.go:29", after := #[{ on := 0, ground := Ground.data }, { on := 22, ground := Ground.data }], guard := none }) (R := fun v' w' => w'.ownsRow w.heap.size 42 4 v' (acc ++ [((⟨p9, z, l9, m9⟩, .slice pa pn pc, .slice la ln lc) : EE)]).length ((acc ++ [((⟨p9, z, l9, m9⟩, .slice pa pn pc, .slice la ln lc) : EE)]).flatMap ecell) ∧ World.grownBy (wr.drew.alloc (entO (.slice pa pn pc) z (.slice la ln lc) m9 42)) w' u3.ownBlock) (by kernel_rfl) (by kernel_rfl) (by kernel_rfl) (fun K9 Q9 hK9 => wp_append_one (f := ecell) (m := 4) ecell_len (Nat.succ_pos 3) (ST := 34) (T := 42) Tryz.underlying34 hI0 hz0 hz1 hz2 rfl (by decide) _ _ rfl w.heap.size hH1.low u3 acc (by kernel_rfl) hown9 _ ((⟨p9, z, l9, m9⟩, .slice pa pn pc, .slice la ln lc) : EE) (by kernel_rfl) (new_cells wr.drew (ecell ((⟨p9, z, l9, m9⟩, .slice pa pn pc, .slice la ln lc) : EE)) 42) (ecell_one ⟨_, _, _, rfl⟩ ⟨_, _, _, rfl⟩) hroom hK9) ?_
      rintro v2 w3 ⟨hown2, hg2⟩
      have hH2 := hH1.grown hg2 hown9 hlad
      refine ⟨hH2, ?_⟩
      refine held_do (i := 24) (o := { dst := some 3, op := Op.assign (Operand.tmp 34), type := 34, pos := "law.go:29", after := #[{ on := 23, ground := Ground.data }, { on := 23, ground := Ground.chain }, { on := 0, ground := Ground.phase }, { on := 1, ground := Ground.phase }, { on := 2, ground := Ground.phase }, { on := 3, ground := Ground.phase }, { on := 4, ground := Ground.phase }, { on := 5, ground := Ground.phase }, { on := 6, ground := Ground.phase }, { on := 7, ground := Ground.phase }, { on := 8, ground := Ground.phase }, { on := 9, ground := Ground.phase }, { on := 10, ground := Ground.phase }, { on := 11, ground := Ground.phase }, { on := 12, ground := Ground.phase }, { on := 13, ground := Ground.phase }, { on := 14, ground := Ground.phase }, { on := 15, ground := Ground.phase }, { on := 16, ground := Ground.phase }, { on := 17, ground := Ground.phase }, { on := 18, ground := Ground.phase }, { on := 19, ground := Ground.phase }, { on := 20, ground := Ground.phase }, { on := 21, ground := Ground.phase }, { on := 22, ground := Ground.phase }, { on := 23, ground := Ground.phase }], guard := none }) (v := v2) (by kernel_rfl) (by kernel_rfl) (by kernel_rfl) (by kernel_rfl) hH2 ?_
      refine wpAnyH_done (by kernel_rfl) ?_ _
      simp only [Act.put, List.setIfInBounds_toArray, List.set_cons_zero, List.set_cons_succ]
      go_wp2
      go_roundw
      case rel => exact ⟨k + 1, acc ++ [((⟨p9, z, l9, m9⟩, .slice pa pn pc, .slice la ln lc) : EE)], by omega, by go_num, HE2.out, hown2, hH2.below⟩
      case measure => simp [intOf]; omega
    · have HE2 : Hid (acc = xs) := by
        have h := HE.out
        rw [List.take_of_length_le (by rw [← HN.out]; omega)] at h
        exact h
      go_wp2
      go_ret
      exact ⟨_, rfl, by rw [← HE2.out]; exact entsE_row (rowR.of_own ecell_len hown) fun x hx => (HV.out.2 x (HE2.out ▸ hx)).on hbw, hbw⟩
end Go.Proofs.YthlhopdlkkeohaaGreatDoor.O

/- The walk of the document's Same over lists of values. -/
namespace Go.Proofs.YthlhopdlkkeohaaGreatDoor.O
open Go.RowKit

set_option maxRecDepth 20000 in
set_option maxHeartbeats 2000000 in
theorem sameV_any (va vb : Value) (l : List Rg.Va) (w : World) (ha : valsIn w va l) (hb : valsIn w vb l) (hn : l.length ≤ 1000000) :
    Calls Tryz.prog 49 #[va, vb] w fun e w' => e = .returned (.bool true) ∧ Below w.heap.size w w' := by
  obtain ⟨ao, cx, rfl, _, _, _⟩ := id ha
  obtain ⟨bo, cy, rfl, _, _, _⟩ := id hb
  obtain ⟨n, hn0⟩ : ∃ n, n = l.length := ⟨_, rfl⟩
  have HN : Hid (n = l.length) := hn0
  rw [← hn0] at ha hb hn ⊢
  have HA : Hid (valsIn w (.slice ao n cx) l) := ha
  have HB : Hid (valsIn w (.slice bo n cy) l) := hb
  clear hn0 ha hb
  go_enter Tryz.func49, Tryz.ntmps49
  go_wp2
  go_loopw [5] (fun i wr => ∃ k : Nat, k ≤ n ∧ i = .int .i64 k ∧ Below w.heap.size w wr) (fun i _ => n - (intOf i).toNat)
  case atStart => exact ⟨0, by omega, rfl, Below.refl _ _⟩
  case round =>
    obtain ⟨k, hk, rfl, hbw⟩ := hrel
    by_cases hkn : k < n
    · have hkx : k < l.length := by rw [← HN.out]; exact hkn
      obtain ⟨ax, rfl, hX⟩ := HA.out.get hkx
      obtain ⟨ay, rfl, hY⟩ := HB.out.get hkx
      obtain ⟨a0, a1, a2⟩ := hX.on hbw
      obtain ⟨b0, b1, b2⟩ := hY.on hbw
      have hE := neq_va l[k] l[k]
      simp only [decide_true, Bool.not_true] at hE
      have hi0 : (0 : Int) ≤ (k : Int) := by omega
      have hi1 : (k : Int) < (n : Int) := by omega
      clear hX hY
      generalize l[k] = x at *
      go_wp2
      go_region
      all_goals
        go_wp2
        go_roundw
        case rel => exact ⟨k + 1, by omega, by go_num, hbw.drew⟩
        case measure => simp [intOf]; omega
    · go_wp2
      go_ret
      exact ⟨rfl, hbw⟩
end Go.Proofs.YthlhopdlkkeohaaGreatDoor.O
