/- The walk of the document's Same of views, at the same entries · What the document's Of, At, Text and Same tell, by the entries alone. -/
import Derived.Test.YthlhopdlkkeohaaGreatDoorETheirsAll
import Derived.Test.YthlhopdlkkeohaaGreatDoorRefAllAll
import Derived.Test.YthlhopdlkkeohaaGreatDoorESamePAll
import Derived.Test.YthlhopdlkkeohaaGreatDoorERefOf
/- The walk of the document's Same of views, at the same entries. -/
namespace Go.Proofs.YthlhopdlkkeohaaGreatDoor.O
open Go.RowKit
section
variable {o : Oper} {a : Act} {w : World} {x y : Operand} {p : Addr} {ad : Addr} {n c k : Nat}
theorem ex_f_rent_0 (ho : o.op = .fieldAddr 42 x 0) (hx : a.eval x = .pointer (some p)) (w : World) : (execOp a.eval o).run Tryz.prog w = .ok (.value (.pointer (some p))) w := by
  unfold execOp
  simp only [ho, hx, Sem.run_bind]
  go_simp
theorem ex_f_rent_1 (ho : o.op = .fieldAddr 42 x 1) (hx : a.eval x = .pointer (some p)) (w : World) : (execOp a.eval o).run Tryz.prog w = .ok (.value (.pointer (some ⟨p.block, p.off + 1, none⟩))) w := by
  unfold execOp
  simp only [ho, hx, Sem.run_bind]
  go_simp
theorem ex_f_rent_2 (ho : o.op = .fieldAddr 42 x 2) (hx : a.eval x = .pointer (some p)) (w : World) : (execOp a.eval o).run Tryz.prog w = .ok (.value (.pointer (some ⟨p.block, p.off + 2, none⟩))) w := by
  unfold execOp
  simp only [ho, hx, Sem.run_bind]
  go_simp
theorem ex_f_rent_3 (ho : o.op = .fieldAddr 42 x 3) (hx : a.eval x = .pointer (some p)) (w : World) : (execOp a.eval o).run Tryz.prog w = .ok (.value (.pointer (some ⟨p.block, p.off + 3, none⟩))) w := by
  unfold execOp
  simp only [ho, hx, Sem.run_bind]
  go_simp
theorem ex_i_rents (ho : o.op = .indexAddr 34 x y) (hx : a.eval x = .slice (some ad) n c) (hy : a.eval y = .int .i64 (k : Int)) (hk : k < n) (w : World) : (execOp a.eval o).run Tryz.prog w = .ok (.value (.pointer (some (ad.add (k * 4))))) w := by
  have h0 : (0 : Int) ≤ (k : Int) := by omega
  have h1 : (k : Int) < (n : Int) := by omega
  unfold execOp
  simp only [ho, hx, hy, Sem.run_bind]
  go_simp
end
/-- Two entries at their places while a region goes. -/
structure SmE (w : World) (qx qy : Addr) (X Y : EE) (W : World) : Prop where
  x : EcAt W qx X
  y : EcAt W qy Y
  below : Below w.heap.size w W
theorem SmE.on {w W W' : World} {qx qy : Addr} {X Y : EE} (h : SmE w qx qy X Y W) (hb : Below W.heap.size W W') : SmE w qx qy X Y W' := ⟨h.x.on hb, h.y.on hb, bchain h.below hb⟩

set_option maxRecDepth 20000 in
set_option maxHeartbeats 4000000 in
theorem refSame18_any (va vb : Value) (xs ys : List EE) (w : World) (ha : entsE w va xs) (hb : entsE w vb ys) (he : xs.map Prod.fst = ys.map Prod.fst) (hf : ∀ x ∈ xs, x.1.p.length ≤ 2000000 ∧ x.1.l.length ≤ 1000000) (hn : xs.length ≤ 1000000) :
    Calls Tryz.prog 16 #[va, vb] w fun e w' => e = .returned (.bool true) ∧ Below w.heap.size w w' := by
  obtain ⟨ao, cap, rfl⟩ := ha.slice
  obtain ⟨bo, cbp, rfl⟩ := hb.slice
  have hl : ys.length = xs.length := by have := congrArg List.length he; simpa using this.symm
  rw [hl] at hb ⊢
  obtain ⟨n, hn0⟩ : ∃ n, n = xs.length := ⟨_, rfl⟩
  have HN : Hid (n = xs.length) := hn0
  have HY : Hid (ys.length = n) := by rw [hn0]; exact hl
  rw [← hn0] at ha hb hn ⊢
  have HA : Hid (entsE w (.slice ao n cap) xs) := ha
  have HB : Hid (entsE w (.slice bo n cbp) ys) := hb
  have HE : Hid (xs.map Prod.fst = ys.map Prod.fst) := he
  have HF : Hid (∀ x ∈ xs, x.1.p.length ≤ 2000000 ∧ x.1.l.length ≤ 1000000) := hf
  clear hn0 ha hb he hf hl
  go_enter Tryz.func16, Tryz.ntmps16
  go_wp2
  go_loopw [5] (fun i wr => ∃ k : Nat, k ≤ n ∧ i = .int .i64 k ∧ Below w.heap.size w wr) (fun i _ => n - (intOf i).toNat)
  case atStart => exact ⟨0, by omega, rfl, Below.refl _ _⟩
  case round =>
    obtain ⟨k, hk, rfl, hbw⟩ := hrel
    by_cases hkn : k < n
    · have hkx : k < xs.length := by rw [← HN.out]; exact hkn
      have hky : k < ys.length := by rw [HY.out]; exact hkn
      obtain ⟨ax, rfl, -, hX, hXo⟩ := (HA.out.on hbw).get hkx
      obtain ⟨ay, rfl, -, hY, hYo⟩ := (HB.out.on hbw).get hky
      obtain ⟨hfp, hfl⟩ := HF.out _ (List.getElem_mem hkx)
      have e1 : ys[k].1 = xs[k].1 := by
        have h := congrArg (fun l => l[k]?) HE.out
        simp only [List.getElem?_map, List.getElem?_eq_getElem hkx, List.getElem?_eq_getElem hky, Option.map_some, Option.some.injEq] at h
        exact h.symm
      generalize xs[k] = X at *
      generalize ys[k] = Y at *
      obtain ⟨⟨p9, z, l9, m9⟩, pv, lv⟩ := X
      obtain ⟨E9, qv, jv⟩ := Y
      obtain rfl : E9 = ⟨p9, z, l9, m9⟩ := e1
      obtain ⟨⟨pa, pn, pc, e1⟩, ⟨la, ln, lc, e2⟩⟩ := hXo.slices
      obtain ⟨⟨qa, qn, qc, e3⟩, ⟨ja, jn, jc, e4⟩⟩ := hYo.slices
      have e1 : pv = .slice pa pn pc := e1
      have e2 : lv = .slice la ln lc := e2
      have e3 : qv = .slice qa qn qc := e3
      have e4 : jv = .slice ja jn jc := e4
      subst e1 e2 e3 e4
      have HP : ∀ W, Below wr.heap.size wr W → Calls Tryz.prog 48 #[.slice pa pn pc, .slice qa qn qc] W fun e w' => e = .returned (.bool true) ∧ Below W.heap.size W w' := fun W hb => by
        have h := U.same_any (.slice pa pn pc) (.slice qa qn qc) p9 p9 W hfp (U.strsAt_below hXo.1 hb (Nat.le_refl _)) (U.strsAt_below hYo.1 hb (Nat.le_refl _))
        rw [decide_eq_true rfl] at h
        exact h
      have HL : ∀ W, Below wr.heap.size wr W → Calls Tryz.prog 49 #[.slice la ln lc, .slice ja jn jc] W fun e w' => e = .returned (.bool true) ∧ Below W.heap.size W w' := fun W hb =>
        sameV_any (.slice la ln lc) (.slice ja jn jc) l9 W (hXo.2.on hb) (hYo.2.on hb) hfl
      clear hXo hYo hfp hfl
      go_wp2
      refine wp_region_held_drew (S := fun W => SmE wr (ax.add (k * 4)) (ay.add (k * 4)) ((⟨p9, z, l9, m9⟩, .slice pa pn pc, .slice la ln lc) : EE) ((⟨p9, z, l9, m9⟩, .slice qa qn qc, .slice ja jn jc) : EE) W) (by kernel_rfl) (⟨hX.on (Below.refl _ _).drew, hY.on (Below.refl _ _).drew, (Below.refl _ _).drew⟩) (fun hH0 => ?_)
      refine held_take (i := 0) (o := { dst := some 17, op := Op.move (Operand.tmp 0), type := 34, pos := "ref.go:57", after := #[], guard := none }) (v := .slice (some ax) n cap) (by kernel_rfl) (by kernel_rfl) (by kernel_rfl) (by kernel_rfl) (fun _ _ _ h => h) (by kernel_rfl) (fun _ _ => by kernel_rfl) hH0 ?_
      refine held_take (i := 1) (o := { dst := some 18, op := Op.move (Operand.tmp 5), type := 3, pos := "ref.go:57", after := #[], guard := none }) (v := .int .i64 (k : Int)) (by kernel_rfl) (by kernel_rfl) (by kernel_rfl) (by kernel_rfl) (fun _ _ _ h => h) (by kernel_rfl) (fun _ _ => by kernel_rfl) hH0 ?_
      refine held_take (i := 2) (o := { dst := some 19, op := Op.indexAddr 34 (Operand.tmp 17) (Operand.tmp 18), type := 0, pos := "ref.go:57", after := #[{ on := 0, ground := Ground.data }, { on := 1, ground := Ground.data }], guard := none }) (v := .pointer (some ((ax.add (k * 4))))) (by kernel_rfl) (by kernel_rfl) (by kernel_rfl) (by kernel_rfl) (fun _ _ _ h => h) (by kernel_rfl) (fun W _ => ex_i_rents (n := n) (c := cap) (k := k) rfl (by kernel_rfl) (by kernel_rfl) hkn W) hH0 ?_
      refine held_take (i := 3) (o := { dst := some 20, op := Op.fieldAddr 42 (Operand.tmp 19) 1, type := 0, pos := "ref.go:57", after := #[{ on := 2, ground := Ground.data }], guard := none }) (v := .pointer (some ⟨((ax.add (k * 4))).block, ((ax.add (k * 4))).off + 1, none⟩)) (by kernel_rfl) (by kernel_rfl) (by kernel_rfl) (by kernel_rfl) (fun _ _ _ h => h) (by kernel_rfl) (fun W _ => ex_f_rent_1 (p := ((ax.add (k * 4)))) rfl (by kernel_rfl) W) hH0 ?_
      refine held_take (i := 4) (o := { dst := some 21, op := Op.load 3 (Operand.tmp 20), type := 3, pos := "ref.go:57", after := #[{ on := 3, ground := Ground.data }], guard := none }) (v := .int .i64 (z : Int)) (by kernel_rfl) (by kernel_rfl) (by kernel_rfl) (by kernel_rfl) (fun _ _ _ h => h) (by kernel_rfl) (fun _ h => ex_l1_int (p := ⟨((ax.add (k * 4))).block, ((ax.add (k * 4))).off + 1, none⟩) rfl (by kernel_rfl) (h.x.c1)) hH0 ?_
      refine held_take (i := 5) (o := { dst := some 22, op := Op.move (Operand.tmp 1), type := 34, pos := "ref.go:57", after := #[], guard := none }) (v := .slice (some ay) n cbp) (by kernel_rfl) (by kernel_rfl) (by kernel_rfl) (by kernel_rfl) (fun _ _ _ h => h) (by kernel_rfl) (fun _ _ => by kernel_rfl) hH0 ?_
      refine held_take (i := 6) (o := { dst := some 23, op := Op.move (Operand.tmp 5), type := 3, pos := "ref.go:57", after := #[], guard := none }) (v := .int .i64 (k : Int)) (by kernel_rfl) (by kernel_rfl) (by kernel_rfl) (by kernel_rfl) (fun _ _ _ h => h) (by kernel_rfl) (fun _ _ => by kernel_rfl) hH0 ?_
      refine held_take (i := 7) (o := { dst := some 24, op := Op.indexAddr 34 (Operand.tmp 22) (Operand.tmp 23), type := 0, pos := "ref.go:57", after := #[{ on := 5, ground := Ground.data }, { on := 6, ground := Ground.data }], guard := none }) (v := .pointer (some ((ay.add (k * 4))))) (by kernel_rfl) (by kernel_rfl) (by kernel_rfl) (by kernel_rfl) (fun _ _ _ h => h) (by kernel_rfl) (fun W _ => ex_i_rents (n := n) (c := cbp) (k := k) rfl (by kernel_rfl) (by kernel_rfl) hkn W) hH0 ?_
      refine held_take (i := 8) (o := { dst := some 25, op := Op.fieldAddr 42 (Operand.tmp 24) 1, type := 0, pos := "ref.go:57", after := #[{ on := 7, ground := Ground.data }], guard := none }) (v := .pointer (some ⟨((ay.add (k * 4))).block, ((ay.add (k * 4))).off + 1, none⟩)) (by kernel_rfl) (by kernel_rfl) (by kernel_rfl) (by kernel_rfl) (fun _ _ _ h => h) (by kernel_rfl) (fun W _ => ex_f_rent_1 (p := ((ay.add (k * 4)))) rfl (by kernel_rfl) W) hH0 ?_
      refine held_take (i := 9) (o := { dst := some 26, op := Op.load 3 (Operand.tmp 25), type := 3, pos := "ref.go:57", after := #[{ on := 8, ground := Ground.data }], guard := none }) (v := .int .i64 (z : Int)) (by kernel_rfl) (by kernel_rfl) (by kernel_rfl) (by kernel_rfl) (fun _ _ _ h => h) (by kernel_rfl) (fun _ h => ex_l1_int (p := ⟨((ay.add (k * 4))).block, ((ay.add (k * 4))).off + 1, none⟩) rfl (by kernel_rfl) (h.y.c1)) hH0 ?_
      refine held_take (i := 10) (o := { dst := some 27, op := Op.binOp BinOp.neq 3 (Operand.tmp 21) (Operand.tmp 26) 3, type := 4, pos := "ref.go:57", after := #[{ on := 4, ground := Ground.data }, { on := 9, ground := Ground.data }], guard := none }) (v := .bool false) (by kernel_rfl) (by kernel_rfl) (by kernel_rfl) (by kernel_rfl) (fun _ _ _ h => h) (by kernel_rfl) (fun W _ => exec_bin rfl (by kernel_rfl) (by kernel_rfl) (fun _ => by kernel_rfl) (neqi_same z) W) hH0 ?_
      refine held_take (i := 11) (o := { dst := some 28, op := Op.move (Operand.tmp 27), type := 4, pos := "ref.go:57", after := #[{ on := 10, ground := Ground.data }], guard := none }) (v := .bool false) (by kernel_rfl) (by kernel_rfl) (by kernel_rfl) (by kernel_rfl) (fun _ _ _ h => h) (by kernel_rfl) (fun _ _ => by kernel_rfl) hH0 ?_
      refine held_take (i := 12) (o := { dst := some 29, op := Op.move (Operand.tmp 0), type := 34, pos := "ref.go:57", after := #[{ on := 11, ground := Ground.guard }], guard := some (11, false) }) (v := .slice (some ax) n cap) (by kernel_rfl) (by kernel_rfl) (by kernel_rfl) (by kernel_rfl) (fun _ _ _ h => h) (by kernel_rfl) (fun _ _ => by kernel_rfl) hH0 ?_
      refine held_take (i := 13) (o := { dst := some 30, op := Op.move (Operand.tmp 5), type := 3, pos := "ref.go:57", after := #[{ on := 11, ground := Ground.guard }], guard := some (11, false) }) (v := .int .i64 (k : Int)) (by kernel_rfl) (by kernel_rfl) (by kernel_rfl) (by kernel_rfl) (fun _ _ _ h => h) (by kernel_rfl) (fun _ _ => by kernel_rfl) hH0 ?_
      refine held_take (i := 14) (o := { dst := some 31, op := Op.indexAddr 34 (Operand.tmp 29) (Operand.tmp 30), type := 0, pos := "ref.go:57", after := #[{ on := 12, ground := Ground.data }, { on := 13, ground := Ground.data }, { on := 11, ground := Ground.guard }], guard := some (11, false) }) (v := .pointer (some ((ax.add (k * 4))))) (by kernel_rfl) (by kernel_rfl) (by kernel_rfl) (by kernel_rfl) (fun _ _ _ h => h) (by kernel_rfl) (fun W _ => ex_i_rents (n := n) (c := cap) (k := k) rfl (by kernel_rfl) (by kernel_rfl) hkn W) hH0 ?_
      refine held_take (i := 15) (o := { dst := some 32, op := Op.fieldAddr 42 (Operand.tmp 31) 3, type := 0, pos := "ref.go:57", after := #[{ on := 14, ground := Ground.data }, { on := 11, ground := Ground.guard }], guard := some (11, false) }) (v := .pointer (some ⟨((ax.add (k * 4))).block, ((ax.add (k * 4))).off + 3, none⟩)) (by kernel_rfl) (by kernel_rfl) (by kernel_rfl) (by kernel_rfl) (fun _ _ _ h => h) (by kernel_rfl) (fun W _ => ex_f_rent_3 (p := ((ax.add (k * 4)))) rfl (by kernel_rfl) W) hH0 ?_
      refine held_take (i := 16) (o := { dst := some 33, op := Op.load 3 (Operand.tmp 32), type := 3, pos := "ref.go:57", after := #[{ on := 15, ground := Ground.data }, { on := 11, ground := Ground.guard }], guard := some (11, false) }) (v := .int .i64 (m9 : Int)) (by kernel_rfl) (by kernel_rfl) (by kernel_rfl) (by kernel_rfl) (fun _ _ _ h => h) (by kernel_rfl) (fun _ h => ex_l1_int (p := ⟨((ax.add (k * 4))).block, ((ax.add (k * 4))).off + 3, none⟩) rfl (by kernel_rfl) (h.x.c3)) hH0 ?_
      refine held_take (i := 17) (o := { dst := some 34, op := Op.move (Operand.tmp 1), type := 34, pos := "ref.go:57", after := #[{ on := 11, ground := Ground.guard }], guard := some (11, false) }) (v := .slice (some ay) n cbp) (by kernel_rfl) (by kernel_rfl) (by kernel_rfl) (by kernel_rfl) (fun _ _ _ h => h) (by kernel_rfl) (fun _ _ => by kernel_rfl) hH0 ?_
      refine held_take (i := 18) (o := { dst := some 35, op := Op.move (Operand.tmp 5), type := 3, pos := "ref.go:57", after := #[{ on := 11, ground := Ground.guard }], guard := some (11, false) }) (v := .int .i64 (k : Int)) (by kernel_rfl) (by kernel_rfl) (by kernel_rfl) (by kernel_rfl) (fun _ _ _ h => h) (by kernel_rfl) (fun _ _ => by kernel_rfl) hH0 ?_
      refine held_take (i := 19) (o := { dst := some 36, op := Op.indexAddr 34 (Operand.tmp 34) (Operand.tmp 35), type := 0, pos := "ref.go:57", after := #[{ on := 17, ground := Ground.data }, { on := 18, ground := Ground.data }, { on := 11, ground := Ground.guard }], guard := some (11, false) }) (v := .pointer (some ((ay.add (k * 4))))) (by kernel_rfl) (by kernel_rfl) (by kernel_rfl) (by kernel_rfl) (fun _ _ _ h => h) (by kernel_rfl) (fun W _ => ex_i_rents (n := n) (c := cbp) (k := k) rfl (by kernel_rfl) (by kernel_rfl) hkn W) hH0 ?_
      refine held_take (i := 20) (o := { dst := some 37, op := Op.fieldAddr 42 (Operand.tmp 36) 3, type := 0, pos := "ref.go:57", after := #[{ on := 19, ground := Ground.data }, { on := 11, ground := Ground.guard }], guard := some (11, false) }) (v := .pointer (some ⟨((ay.add (k * 4))).block, ((ay.add (k * 4))).off + 3, none⟩)) (by kernel_rfl) (by kernel_rfl) (by kernel_rfl) (by kernel_rfl) (fun _ _ _ h => h) (by kernel_rfl) (fun W _ => ex_f_rent_3 (p := ((ay.add (k * 4)))) rfl (by kernel_rfl) W) hH0 ?_
      refine held_take (i := 21) (o := { dst := some 38, op := Op.load 3 (Operand.tmp 37), type := 3, pos := "ref.go:57", after := #[{ on := 20, ground := Ground.data }, { on := 11, ground := Ground.guard }], guard := some (11, false) }) (v := .int .i64 (m9 : Int)) (by kernel_rfl) (by kernel_rfl) (by kernel_rfl) (by kernel_rfl) (fun _ _ _ h => h) (by kernel_rfl) (fun _ h => ex_l1_int (p := ⟨((ay.add (k * 4))).block, ((ay.add (k * 4))).off + 3, none⟩) rfl (by kernel_rfl) (h.y.c3)) hH0 ?_
      refine held_take (i := 22) (o := { dst := some 39, op := Op.binOp BinOp.neq 3 (Operand.tmp 33) (Operand.tmp 38) 3, type := 4, pos := "ref.go:57", after := #[{ on := 16, ground := Ground.data }, { on := 21, ground := Ground.data }, { on := 11, ground := Ground.guard }], guard := some (11, false) }) (v := .bool false) (by kernel_rfl) (by kernel_rfl) (by kernel_rfl) (by kernel_rfl) (fun _ _ _ h => h) (by kernel_rfl) (fun W _ => exec_bin rfl (by kernel_rfl) (by kernel_rfl) (fun _ => by kernel_rfl) (neqi_same m9) W) hH0 ?_
      refine held_take (i := 23) (o := { dst := some 40, op := Op.pick (Operand.tmp 28) (Operand.const (Value.bool true)) (Operand.tmp 39), type := 4, pos := "ref.go:57", after := #[{ on := 11, ground := Ground.data }, { on := 22, ground := Ground.data }], guard := none }) (v := .bool false) (by kernel_rfl) (by kernel_rfl) (by kernel_rfl) (by kernel_rfl) (fun _ _ _ h => h) (by kernel_rfl) (fun _ _ => by kernel_rfl) hH0 ?_
      refine held_take (i := 24) (o := { dst := some 41, op := Op.move (Operand.tmp 40), type := 4, pos := "ref.go:57", after := #[{ on := 23, ground := Ground.data }, { on := 11, ground := Ground.chain }], guard := none }) (v := .bool false) (by kernel_rfl) (by kernel_rfl) (by kernel_rfl) (by kernel_rfl) (fun _ _ _ h => h) (by kernel_rfl) (fun _ _ => by kernel_rfl) hH0 ?_
      refine held_take (i := 25) (o := { dst := some 42, op := Op.move (Operand.tmp 0), type := 34, pos := "ref.go:57", after := #[{ on := 24, ground := Ground.guard }], guard := some (24, false) }) (v := .slice (some ax) n cap) (by kernel_rfl) (by kernel_rfl) (by kernel_rfl) (by kernel_rfl) (fun _ _ _ h => h) (by kernel_rfl) (fun _ _ => by kernel_rfl) hH0 ?_
      refine held_take (i := 26) (o := { dst := some 43, op := Op.move (Operand.tmp 5), type := 3, pos := "ref.go:57", after := #[{ on := 24, ground := Ground.guard }], guard := some (24, false) }) (v := .int .i64 (k : Int)) (by kernel_rfl) (by kernel_rfl) (by kernel_rfl) (by kernel_rfl) (fun _ _ _ h => h) (by kernel_rfl) (fun _ _ => by kernel_rfl) hH0 ?_
      refine held_take (i := 27) (o := { dst := some 44, op := Op.indexAddr 34 (Operand.tmp 42) (Operand.tmp 43), type := 0, pos := "ref.go:57", after := #[{ on := 25, ground := Ground.data }, { on := 26, ground := Ground.data }, { on := 24, ground := Ground.guard }], guard := some (24, false) }) (v := .pointer (some ((ax.add (k * 4))))) (by kernel_rfl) (by kernel_rfl) (by kernel_rfl) (by kernel_rfl) (fun _ _ _ h => h) (by kernel_rfl) (fun W _ => ex_i_rents (n := n) (c := cap) (k := k) rfl (by kernel_rfl) (by kernel_rfl) hkn W) hH0 ?_
      refine held_take (i := 28) (o := { dst := some 45, op := Op.fieldAddr 42 (Operand.tmp 44) 0, type := 0, pos := "ref.go:57", after := #[{ on := 27, ground := Ground.data }, { on := 24, ground := Ground.guard }], guard := some (24, false) }) (v := .pointer (some ((ax.add (k * 4))))) (by kernel_rfl) (by kernel_rfl) (by kernel_rfl) (by kernel_rfl) (fun _ _ _ h => h) (by kernel_rfl) (fun W _ => ex_f_rent_0 (p := ((ax.add (k * 4)))) rfl (by kernel_rfl) W) hH0 ?_
      refine held_take (i := 29) (o := { dst := some 46, op := Op.load 24 (Operand.tmp 45), type := 24, pos := "ref.go:57", after := #[{ on := 28, ground := Ground.data }, { on := 24, ground := Ground.guard }], guard := some (24, false) }) (v := .slice pa pn pc) (by kernel_rfl) (by kernel_rfl) (by kernel_rfl) (by kernel_rfl) (fun _ _ _ h => h) (by kernel_rfl) (fun _ h => ex_l1_strs (p := ((ax.add (k * 4)))) rfl (by kernel_rfl) (h.x.c0)) hH0 ?_
      refine held_take (i := 30) (o := { dst := some 47, op := Op.move (Operand.tmp 1), type := 34, pos := "ref.go:57", after := #[{ on := 24, ground := Ground.guard }], guard := some (24, false) }) (v := .slice (some ay) n cbp) (by kernel_rfl) (by kernel_rfl) (by kernel_rfl) (by kernel_rfl) (fun _ _ _ h => h) (by kernel_rfl) (fun _ _ => by kernel_rfl) hH0 ?_
      refine held_take (i := 31) (o := { dst := some 48, op := Op.move (Operand.tmp 5), type := 3, pos := "ref.go:57", after := #[{ on := 24, ground := Ground.guard }], guard := some (24, false) }) (v := .int .i64 (k : Int)) (by kernel_rfl) (by kernel_rfl) (by kernel_rfl) (by kernel_rfl) (fun _ _ _ h => h) (by kernel_rfl) (fun _ _ => by kernel_rfl) hH0 ?_
      refine held_take (i := 32) (o := { dst := some 49, op := Op.indexAddr 34 (Operand.tmp 47) (Operand.tmp 48), type := 0, pos := "ref.go:57", after := #[{ on := 30, ground := Ground.data }, { on := 31, ground := Ground.data }, { on := 24, ground := Ground.guard }], guard := some (24, false) }) (v := .pointer (some ((ay.add (k * 4))))) (by kernel_rfl) (by kernel_rfl) (by kernel_rfl) (by kernel_rfl) (fun _ _ _ h => h) (by kernel_rfl) (fun W _ => ex_i_rents (n := n) (c := cbp) (k := k) rfl (by kernel_rfl) (by kernel_rfl) hkn W) hH0 ?_
      refine held_take (i := 33) (o := { dst := some 50, op := Op.fieldAddr 42 (Operand.tmp 49) 0, type := 0, pos := "ref.go:57", after := #[{ on := 32, ground := Ground.data }, { on := 24, ground := Ground.guard }], guard := some (24, false) }) (v := .pointer (some ((ay.add (k * 4))))) (by kernel_rfl) (by kernel_rfl) (by kernel_rfl) (by kernel_rfl) (fun _ _ _ h => h) (by kernel_rfl) (fun W _ => ex_f_rent_0 (p := ((ay.add (k * 4)))) rfl (by kernel_rfl) W) hH0 ?_
      refine held_take (i := 34) (o := { dst := some 51, op := Op.load 24 (Operand.tmp 50), type := 24, pos := "ref.go:57", after := #[{ on := 33, ground := Ground.data }, { on := 24, ground := Ground.guard }], guard := some (24, false) }) (v := .slice qa qn qc) (by kernel_rfl) (by kernel_rfl) (by kernel_rfl) (by kernel_rfl) (fun _ _ _ h => h) (by kernel_rfl) (fun _ h => ex_l1_strs (p := ((ay.add (k * 4)))) rfl (by kernel_rfl) (h.y.c0)) hH0 ?_
      refine held_callX (i := 35) (o := { dst := some 52, op := Op.call { callee := Callee.value (Operand.func 48), args := #[Operand.tmp 46, Operand.tmp 51], argTypes := #[24, 24] }, type := 4, pos := "ref.go:57", after := #[{ on := 29, ground := Ground.data }, { on := 34, ground := Ground.data }, { on := 24, ground := Ground.chain }, { on := 24, ground := Ground.guard }], guard := some (24, false) }) (F := 48) (vs := #[.slice pa pn pc, .slice qa qn qc]) (by kernel_rfl) (by kernel_rfl) (by kernel_rfl) (fun _ => by kernel_rfl) (HP _ hH0.below) ?_
      rintro e w1 ⟨rfl, hb1⟩
      have hH1 := hH0.on hb1
      refine ⟨.bool true, rfl, hH1, ?_⟩
      refine held_take (i := 36) (o := { dst := some 53, op := Op.unOp UnOp.not 4 (Operand.tmp 52), type := 4, pos := "ref.go:57", after := #[{ on := 35, ground := Ground.data }, { on := 24, ground := Ground.guard }], guard := some (24, false) }) (v := .bool false) (by kernel_rfl) (by kernel_rfl) (by kernel_rfl) (by kernel_rfl) (fun _ _ _ h => h) (by kernel_rfl) (fun W _ => exec_un rfl (by kernel_rfl) (not_of true) W) hH1 ?_
      refine held_take (i := 37) (o := { dst := some 54, op := Op.pick (Operand.tmp 41) (Operand.const (Value.bool true)) (Operand.tmp 53), type := 4, pos := "ref.go:57", after := #[{ on := 24, ground := Ground.data }, { on := 36, ground := Ground.data }], guard := none }) (v := .bool false) (by kernel_rfl) (by kernel_rfl) (by kernel_rfl) (by kernel_rfl) (fun _ _ _ h => h) (by kernel_rfl) (fun _ _ => by kernel_rfl) hH1 ?_
      refine held_take (i := 38) (o := { dst := some 55, op := Op.move (Operand.tmp 54), type := 4, pos := "ref.go:57", after := #[{ on := 37, ground := Ground.data }, { on := 35, ground := Ground.chain }], guard := none }) (v := .bool false) (by kernel_rfl) (by kernel_rfl) (by kernel_rfl) (by kernel_rfl) (fun _ _ _ h => h) (by kernel_rfl) (fun _ _ => by kernel_rfl) hH1 ?_
      refine held_take (i := 39) (o := { dst := some 56, op := Op.move (Operand.tmp 0), type := 34, pos := "ref.go:57", after := #[{ on := 38, ground := Ground.guard }], guard := some (38, false) }) (v := .slice (some ax) n cap) (by kernel_rfl) (by kernel_rfl) (by kernel_rfl) (by kernel_rfl) (fun _ _ _ h => h) (by kernel_rfl) (fun _ _ => by kernel_rfl) hH1 ?_
      refine held_take (i := 40) (o := { dst := some 57, op := Op.move (Operand.tmp 5), type := 3, pos := "ref.go:57", after := #[{ on := 38, ground := Ground.guard }], guard := some (38, false) }) (v := .int .i64 (k : Int)) (by kernel_rfl) (by kernel_rfl) (by kernel_rfl) (by kernel_rfl) (fun _ _ _ h => h) (by kernel_rfl) (fun _ _ => by kernel_rfl) hH1 ?_
      refine held_take (i := 41) (o := { dst := some 58, op := Op.indexAddr 34 (Operand.tmp 56) (Operand.tmp 57), type := 0, pos := "ref.go:57", after := #[{ on := 39, ground := Ground.data }, { on := 40, ground := Ground.data }, { on := 38, ground := Ground.guard }], guard := some (38, false) }) (v := .pointer (some ((ax.add (k * 4))))) (by kernel_rfl) (by kernel_rfl) (by kernel_rfl) (by kernel_rfl) (fun _ _ _ h => h) (by kernel_rfl) (fun W _ => ex_i_rents (n := n) (c := cap) (k := k) rfl (by kernel_rfl) (by kernel_rfl) hkn W) hH1 ?_
      refine held_take (i := 42) (o := { dst := some 59, op := Op.fieldAddr 42 (Operand.tmp 58) 2, type := 0, pos := "ref.go:57", after := #[{ on := 41, ground := Ground.data }, { on := 38, ground := Ground.guard }], guard := some (38, false) }) (v := .pointer (some ⟨((ax.add (k * 4))).block, ((ax.add (k * 4))).off + 2, none⟩)) (by kernel_rfl) (by kernel_rfl) (by kernel_rfl) (by kernel_rfl) (fun _ _ _ h => h) (by kernel_rfl) (fun W _ => ex_f_rent_2 (p := ((ax.add (k * 4)))) rfl (by kernel_rfl) W) hH1 ?_
      refine held_take (i := 43) (o := { dst := some 60, op := Op.load 36 (Operand.tmp 59), type := 36, pos := "ref.go:57", after := #[{ on := 42, ground := Ground.data }, { on := 38, ground := Ground.guard }], guard := some (38, false) }) (v := .slice la ln lc) (by kernel_rfl) (by kernel_rfl) (by kernel_rfl) (by kernel_rfl) (fun _ _ _ h => h) (by kernel_rfl) (fun _ h => ex_l1_vals (p := ⟨((ax.add (k * 4))).block, ((ax.add (k * 4))).off + 2, none⟩) rfl (by kernel_rfl) (h.x.c2)) hH1 ?_
      refine held_take (i := 44) (o := { dst := some 61, op := Op.move (Operand.tmp 1), type := 34, pos := "ref.go:57", after := #[{ on := 38, ground := Ground.guard }], guard := some (38, false) }) (v := .slice (some ay) n cbp) (by kernel_rfl) (by kernel_rfl) (by kernel_rfl) (by kernel_rfl) (fun _ _ _ h => h) (by kernel_rfl) (fun _ _ => by kernel_rfl) hH1 ?_
      refine held_take (i := 45) (o := { dst := some 62, op := Op.move (Operand.tmp 5), type := 3, pos := "ref.go:57", after := #[{ on := 38, ground := Ground.guard }], guard := some (38, false) }) (v := .int .i64 (k : Int)) (by kernel_rfl) (by kernel_rfl) (by kernel_rfl) (by kernel_rfl) (fun _ _ _ h => h) (by kernel_rfl) (fun _ _ => by kernel_rfl) hH1 ?_
      refine held_take (i := 46) (o := { dst := some 63, op := Op.indexAddr 34 (Operand.tmp 61) (Operand.tmp 62), type := 0, pos := "ref.go:57", after := #[{ on := 44, ground := Ground.data }, { on := 45, ground := Ground.data }, { on := 38, ground := Ground.guard }], guard := some (38, false) }) (v := .pointer (some ((ay.add (k * 4))))) (by kernel_rfl) (by kernel_rfl) (by kernel_rfl) (by kernel_rfl) (fun _ _ _ h => h) (by kernel_rfl) (fun W _ => ex_i_rents (n := n) (c := cbp) (k := k) rfl (by kernel_rfl) (by kernel_rfl) hkn W) hH1 ?_
      refine held_take (i := 47) (o := { dst := some 64, op := Op.fieldAddr 42 (Operand.tmp 63) 2, type := 0, pos := "ref.go:57", after := #[{ on := 46, ground := Ground.data }, { on := 38, ground := Ground.guard }], guard := some (38, false) }) (v := .pointer (some ⟨((ay.add (k * 4))).block, ((ay.add (k * 4))).off + 2, none⟩)) (by kernel_rfl) (by kernel_rfl) (by kernel_rfl) (by kernel_rfl) (fun _ _ _ h => h) (by kernel_rfl) (fun W _ => ex_f_rent_2 (p := ((ay.add (k * 4)))) rfl (by kernel_rfl) W) hH1 ?_
      refine held_take (i := 48) (o := { dst := some 65, op := Op.load 36 (Operand.tmp 64), type := 36, pos := "ref.go:57", after := #[{ on := 47, ground := Ground.data }, { on := 38, ground := Ground.guard }], guard := some (38, false) }) (v := .slice ja jn jc) (by kernel_rfl) (by kernel_rfl) (by kernel_rfl) (by kernel_rfl) (fun _ _ _ h => h) (by kernel_rfl) (fun _ h => ex_l1_vals (p := ⟨((ay.add (k * 4))).block, ((ay.add (k * 4))).off + 2, none⟩) rfl (by kernel_rfl) (h.y.c2)) hH1 ?_
      refine held_callX (i := 49) (o := { dst := some 66, op := Op.call { callee := Callee.value (Operand.func 49), args := #[Operand.tmp 60, Operand.tmp 65], argTypes := #[36, 36] }, type := 4, pos := "ref.go:57", after := #[{ on := 43, ground := Ground.data }, { on := 48, ground := Ground.data }, { on := 38, ground := Ground.chain }, { on := 38, ground := Ground.guard }], guard := some (38, false) }) (F := 49) (vs := #[.slice la ln lc, .slice ja jn jc]) (by kernel_rfl) (by kernel_rfl) (by kernel_rfl) (fun _ => by kernel_rfl) (HL _ hH1.below) ?_
      rintro e w2 ⟨rfl, hb2⟩
      have hH2 := hH1.on hb2
      refine ⟨.bool true, rfl, hH2, ?_⟩
      refine held_take (i := 50) (o := { dst := some 67, op := Op.unOp UnOp.not 4 (Operand.tmp 66), type := 4, pos := "ref.go:57", after := #[{ on := 49, ground := Ground.data }, { on := 38, ground := Ground.guard }], guard := some (38, false) }) (v := .bool false) (by kernel_rfl) (by kernel_rfl) (by kernel_rfl) (by kernel_rfl) (fun _ _ _ h => h) (by kernel_rfl) (fun W _ => exec_un rfl (by kernel_rfl) (not_of true) W) hH2 ?_
      refine held_take (i := 51) (o := { dst := some 68, op := Op.pick (Operand.tmp 55) (Operand.const (Value.bool true)) (Operand.tmp 67), type := 4, pos := "ref.go:57", after := #[{ on := 38, ground := Ground.data }, { on := 50, ground := Ground.data }], guard := none }) (v := .bool false) (by kernel_rfl) (by kernel_rfl) (by kernel_rfl) (by kernel_rfl) (fun _ _ _ h => h) (by kernel_rfl) (fun _ _ => by kernel_rfl) hH2 ?_
      refine wpAnyH_done (by kernel_rfl) ?_ _
      simp only [Act.put, List.setIfInBounds_toArray, List.set_cons_zero, List.set_cons_succ]
      go_wp2
      go_roundw
      case rel => exact ⟨k + 1, by omega, by go_num, bchain hbw hH2.below⟩
      case measure => simp [intOf]; omega
    · go_wp2
      go_ret
      exact ⟨rfl, hbw⟩
end Go.Proofs.YthlhopdlkkeohaaGreatDoor.O

/- What the document's Of, At, Text and Same tell, by the entries alone. -/
namespace Go.Proofs.YthlhopdlkkeohaaGreatDoor.O
open Go.RowKit
section
variable {its : List Lv.Item} {r vp : Value} {p : List (List UInt8)} {k : Int} {w : World}
theorem refOf_at (h : ItsAt its w r) (hf : FineI its) : Calls Tryz.prog 12 #[r] w fun e w' => ∃ q, e = .returned q ∧ EntsAt (Vw.of its) w' q ∧ Below w.heap.size w w' := by
  obtain ⟨xs, h1, h2, h3, h4⟩ := h
  refine (refOf18_any r xs its w h1 h2 h4 h3 (its_small h2 hf)).mono ?_
  rintro e w' ⟨q, es, rfl, e2, e3, e4⟩
  exact ⟨q, rfl, ⟨es, e3, e2⟩, e4⟩
theorem refAt_at (h : ItsAt its w r) (hf : FineI its) (hp : U.strsAt w vp p) (hn : p.length ≤ 2000000) : Calls Tryz.prog 21 #[r, vp, .int .i64 k] w fun e w' =>
    ∃ ra rn rk, e = .returned (entV vp k (.slice ra rn rk) (Vw.at' its p k).n) ∧ EOk w' (Vw.at' its p k, vp, .slice ra rn rk) ∧ rn = (Vw.at' its p k).l.length ∧ Below w.heap.size w w' := by
  obtain ⟨xs, h1, h2, h3, h4⟩ := h
  refine (refAt18_any r vp xs its p k w h1 h2 hp h4 hn h3 (its_small h2 hf)).mono ?_
  rintro e w' ⟨ra, rn, rk, rfl, e2, e4⟩
  have hv : valsIn w' (.slice ra rn rk) (Vw.at' its p k).l := valsIn_own e2
  obtain ⟨a, b, q⟩ := hv.slice
  obtain ⟨rfl, rfl, rfl⟩ : ra = a ∧ rn = (Vw.at' its p k).l.length ∧ rk = b := by simpa using q
  exact ⟨ra, _, rk, rfl, ⟨U.strsAt_below hp e4 (Nat.le_refl _), hv⟩, rfl, e4⟩
end
section
variable {es : List Vw.Entry} {va vb : Value} {w : World}
theorem refText_at (h : EntsAt es w va) (hf : ∀ e ∈ es, EFine e) (hn : es.length ≤ 100000) : Calls Tryz.prog 19 #[va] w fun e w' => e = .returned (.string ⟨(linesE es).toArray⟩) ∧ Below w.heap.size w w' := by
  obtain ⟨xs, h1, h2⟩ := h
  have a := refText18_any va xs w h1 (efine_of h2 hf) (by rw [elen_of h2]; exact hn)
  rw [h2] at a
  exact a
theorem theirs_at (h : EntsAt es w va) (hn : es.length ≤ 100000) : Calls Tryz.prog 17 #[va] w fun e w' => ∃ q, e = .returned q ∧ EntsAt es w' q ∧ Below w.heap.size w w' := by
  obtain ⟨xs, h1, h2⟩ := h
  exact (theirs_any va xs w h1 (by rw [elen_of h2]; omega)).mono fun e w' ⟨q, e1, e2, e3⟩ => ⟨q, e1, ⟨xs, e2, h2⟩, e3⟩
theorem refSame_at (ha : EntsAt es w va) (hb : EntsAt es w vb) (hf : ∀ e ∈ es, EFine e) (hn : es.length ≤ 100000) : Calls Tryz.prog 16 #[va, vb] w fun e w' => e = .returned (.bool true) ∧ Below w.heap.size w w' := by
  obtain ⟨xs, h1, h2⟩ := ha
  obtain ⟨ys, h3, h4⟩ := hb
  exact refSame18_any va vb xs ys w h1 h3 (h2.trans h4.symm) (fun x hx => few_len (efine_of h2 hf x hx)) (by rw [elen_of h2]; omega)
end
end Go.Proofs.YthlhopdlkkeohaaGreatDoor.O
