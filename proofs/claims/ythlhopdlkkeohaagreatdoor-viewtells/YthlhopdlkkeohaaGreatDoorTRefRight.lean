/- The walks of Right, both sides, and of the document's Good. -/
import Derived.Test.YthlhopdlkkeohaaGreatDoorTxnShortAll
import Derived.Test.YthlhopdlkkeohaaGreatDoorTSameAll
namespace Go.Proofs.YthlhopdlkkeohaaGreatDoor.T
open Go.Proofs.YthlhopdlkkeohaaGreatDoor.D
open Go.RowKit Go.Shelf

theorem cf_neg (x y : D) : decide (Dt.comp x.1 x.2 y.1 y.2 = -1) = decide (Ct.lt x y) := by
  obtain ⟨a, b⟩ := x
  obtain ⟨c, d⟩ := y
  show decide (Dt.comp a b c d = -1) = decide (Ct.lt (a, b) (c, d))
  rcases Dt.comp_cases a b c d with ⟨h, e⟩ | ⟨h1, h2, e⟩ | ⟨h, e⟩
  · rw [e, decide_eq_true (show Ct.lt (a, b) (c, d) from h)]; rfl
  · rw [e, decide_eq_false (show ¬ Ct.lt (a, b) (c, d) by subst h1 h2; exact Ct.lt_irrefl _)]; rfl
  · rw [e, decide_eq_false (show ¬ Ct.lt (a, b) (c, d) by simp only [Ct.lt]; omega)]; rfl
theorem neqi_no {z c : Int} (h : z = c) (w : World) : (binOp .neq 3 (.int .i64 z) (.int .i64 c)).run Tryz.prog w = .ok (.bool false) w := by subst h; go_simp
theorem neqi_yes {z c : Int} (h : z ≠ c) (w : World) : (binOp .neq 3 (.int .i64 z) (.int .i64 c)).run Tryz.prog w = .ok (.bool true) w := by
  have : (z != c) = true := by simpa using h
  go_simp
theorem gtr_yes {a b : Int} (h : b < a) (w : World) : (binOp .gtr 3 (.int .i64 a) (.int .i64 b)).run Tryz.prog w = .ok (.bool true) w := by go_simp
theorem gtr_no {a b : Int} (h : a ≤ b) (w : World) : (binOp .gtr 3 (.int .i64 a) (.int .i64 b)).run Tryz.prog w = .ok (.bool false) w := by
  have : ¬ b < a := by omega
  go_simp
theorem lss_yes {a b : Int} (h : a < b) (w : World) : (binOp .lss 3 (.int .i64 a) (.int .i64 b)).run Tryz.prog w = .ok (.bool true) w := by go_simp
theorem lss_no {a b : Int} (h : b ≤ a) (w : World) : (binOp .lss 3 (.int .i64 a) (.int .i64 b)).run Tryz.prog w = .ok (.bool false) w := by
  have : ¬ a < b := by omega
  go_simp
theorem geq_yes {a b : Int} (h : b ≤ a) (w : World) : (binOp .geq 3 (.int .i64 a) (.int .i64 b)).run Tryz.prog w = .ok (.bool true) w := by go_simp
theorem geq_no {a b : Int} (h : a < b) (w : World) : (binOp .geq 3 (.int .i64 a) (.int .i64 b)).run Tryz.prog w = .ok (.bool false) w := by go_simp
theorem sub_one (k : Nat) (h : k ≤ 1000000) (w : World) : (binOp .sub 3 (.int .i64 ((k + 1 : Nat) : Int)) (.int .i64 1)).run Tryz.prog w = .ok (.int .i64 (k : Int)) w := by
  have h : IntKind.i64.wrap (k : Int) = (k : Int) := by simp [IntKind.wrap, IntKind.bits, IntKind.signed]; omega
  go_simp
/-- Two counts, one behind the other, while they are asked. -/
structure PS (w : World) (ad : Addr) (i k : Nat) (x y : U) (W : World) : Prop where
  fst : CAt W (ad.add (i * 3)) x
  snd : CAt W (ad.add (k * 3)) y
  below : Below w.heap.size w W
theorem PS.on {w : World} {ad : Addr} {i k : Nat} {x y : U} {W W' : World} (h : PS w ad i k x y W) (hb : Below W.heap.size W W') : PS w ad i k x y W' := ⟨h.fst.on hb, h.snd.on hb, bchain h.below hb⟩

set_option maxRecDepth 20000 in
set_option maxHeartbeats 1000000 in
theorem refRight_cnts (v : Value) (l : List U) (w : World) (hv : cntsIn w v l) (hn : l.length ≤ 1000000) :
    Calls Tryz.prog 63 #[v] w fun e w' => e = .returned (.bool (Ct.right l)) ∧ Below w.heap.size w w' := by
  obtain ⟨ao, c, rfl, _, _, hc⟩ := hv
  have HC : Hid (∀ k (h : k < l.length), ∃ ad, ao = some ad ∧ CAt w (ad.add (k * 3)) l[k]) := hc
  clear hc
  obtain ⟨n, hn0⟩ : ∃ n, n = l.length := ⟨_, rfl⟩
  have HN : Hid (n = l.length) := hn0
  rw [← hn0] at hn ⊢
  clear hn0
  go_enter Tryz.func63, Tryz.ntmps63
  go_wp2
  go_loopw [3] (fun i wr => ∃ k : Nat, k ≤ n ∧ i = .int .i64 k ∧ Hid (Ct.Std (l.take k)) ∧ Below w.heap.size w wr) (fun i _ => n - (intOf i).toNat)
  case atStart => exact ⟨0, by omega, rfl, by have h := Ct.std_nil; exact h, Below.refl _ w⟩
  case round =>
    obtain ⟨k0, hk, rfl, HS, hbw⟩ := hrel
    by_cases hlt : k0 < n
    · have hkl : k0 < l.length := by have := HN.out; omega
      obtain ⟨ad, rfl, hA⟩ := HC.out k0 hkl
      have hA := hA.on hbw
      have HO := fun W => one_any l[k0] W
      cases hq : Ct.ok l[k0] with
      | false =>
        have HL : Hid (Ct.right l = false) := by have h := Ct.not_ok hkl hq; exact h
        rw [hq] at HO
        obtain ⟨i0, hi0⟩ : ∃ i0, i0 = k0 := ⟨_, rfl⟩
        obtain ⟨x, hx⟩ : ∃ x, x = l[k0] := ⟨_, rfl⟩
        generalize l[k0] = y at *
        subst hx
        have hPS : PS w ad i0 k0 x x wr.drew := by rw [hi0]; exact ⟨hA.on (Below.refl _ _).drew, hA.on (Below.refl _ _).drew, hbw.drew⟩
        clear hi0 hA
        go_wp2
        refine wp_region_held_drew (S := fun W => PS w ad i0 k0 x x W) (by kernel_rfl) (hPS) (fun hH0 => ?_)
        refine held_take (i := 0) (o := { dst := some 10, op := Op.move (Operand.tmp 0), type := 23, pos := "ref.go:16", after := #[], guard := none }) (v := .slice (some ad) n c) (by kernel_rfl) (by kernel_rfl) (by kernel_rfl) (by kernel_rfl) (fun _ _ _ h => h) (by kernel_rfl) (fun _ _ => by kernel_rfl) hH0 ?_
        refine held_take (i := 1) (o := { dst := some 11, op := Op.move (Operand.tmp 3), type := 3, pos := "ref.go:16", after := #[], guard := none }) (v := .int .i64 (k0 : Int)) (by kernel_rfl) (by kernel_rfl) (by kernel_rfl) (by kernel_rfl) (fun _ _ _ h => h) (by kernel_rfl) (fun _ _ => by kernel_rfl) hH0 ?_
        refine held_take (i := 2) (o := { dst := some 12, op := Op.indexAddr 23 (Operand.tmp 10) (Operand.tmp 11), type := 0, pos := "ref.go:16", after := #[{ on := 0, ground := Ground.data }, { on := 1, ground := Ground.data }], guard := none }) (v := .pointer (some (ad.add (k0 * 3)))) (by kernel_rfl) (by kernel_rfl) (by kernel_rfl) (by kernel_rfl) (fun _ _ _ h => h) (by kernel_rfl) (fun W _ => exec_idx (n := n) (c := c) (k := k0) rfl (by kernel_rfl) (by kernel_rfl) hlt W) hH0 ?_
        refine held_take (i := 3) (o := { dst := some 13, op := Op.load 147 (Operand.tmp 12), type := 147, pos := "ref.go:16", after := #[{ on := 2, ground := Ground.data }], guard := none }) (v := uV x) (by kernel_rfl) (by kernel_rfl) (by kernel_rfl) (by kernel_rfl) (fun _ _ _ h => h) (by kernel_rfl) (fun _ h => exec_ldU rfl (by kernel_rfl) h.snd) hH0 ?_
        refine held_callX (i := 4) (o := { dst := some 14, op := Op.call { callee := Callee.value (Operand.func 105), args := #[Operand.tmp 13], argTypes := #[147] }, type := 4, pos := "ref.go:16", after := #[{ on := 3, ground := Ground.data }], guard := none }) (F := 105) (vs := #[uV x]) (by kernel_rfl) (by kernel_rfl) (by kernel_rfl) (fun _ => by kernel_rfl) (HO _) ?_
        rintro e w1 ⟨rfl, hb1⟩
        have hH1 := hH0.on hb1
        refine ⟨.bool false, rfl, hH1, ?_⟩
        refine held_take (i := 5) (o := { dst := some 15, op := Op.unOp UnOp.not 4 (Operand.tmp 14), type := 4, pos := "ref.go:16", after := #[{ on := 4, ground := Ground.data }], guard := none }) (v := .bool true) (by kernel_rfl) (by kernel_rfl) (by kernel_rfl) (by kernel_rfl) (fun _ _ _ h => h) (by kernel_rfl) (fun W _ => exec_un rfl (by kernel_rfl) (not_of false) W) hH1 ?_
        refine held_take (i := 6) (o := { dst := some 16, op := Op.move (Operand.tmp 15), type := 4, pos := "ref.go:16", after := #[{ on := 5, ground := Ground.data }, { on := 4, ground := Ground.chain }], guard := none }) (v := .bool true) (by kernel_rfl) (by kernel_rfl) (by kernel_rfl) (by kernel_rfl) (fun _ _ _ h => h) (by kernel_rfl) (fun _ _ => by kernel_rfl) hH1 ?_
        refine held_skip (i := 7) (o := { dst := some 17, op := Op.move (Operand.tmp 3), type := 3, pos := "ref.go:16", after := #[{ on := 6, ground := Ground.guard }], guard := some (6, false) }) (by kernel_rfl) (by kernel_rfl) (by kernel_rfl) (by kernel_rfl) (fun _ _ _ h => h) (by kernel_rfl) hH1 ?_
        refine held_skip (i := 8) (o := { dst := some 18, op := Op.binOp BinOp.gtr 3 (Operand.tmp 17) (Operand.const (Value.int IntKind.i64 0)) 3, type := 4, pos := "ref.go:16", after := #[{ on := 7, ground := Ground.data }, { on := 6, ground := Ground.guard }], guard := some (6, false) }) (by kernel_rfl) (by kernel_rfl) (by kernel_rfl) (by kernel_rfl) (fun _ _ _ h => h) (by kernel_rfl) hH1 ?_
        refine held_skip (i := 9) (o := { dst := some 19, op := Op.move (Operand.tmp 18), type := 4, pos := "ref.go:16", after := #[{ on := 8, ground := Ground.data }, { on := 6, ground := Ground.chain }, { on := 6, ground := Ground.guard }], guard := some (6, false) }) (by kernel_rfl) (by kernel_rfl) (by kernel_rfl) (by kernel_rfl) (fun _ _ _ h => h) (by kernel_rfl) hH1 ?_
        refine held_skip (i := 10) (o := { dst := some 20, op := Op.move (Operand.tmp 0), type := 23, pos := "ref.go:16", after := #[{ on := 9, ground := Ground.guard }], guard := some (9, true) }) (by kernel_rfl) (by kernel_rfl) (by kernel_rfl) (by kernel_rfl) (fun _ _ _ h => h) (by kernel_rfl) hH1 ?_
        refine held_skip (i := 11) (o := { dst := some 21, op := Op.move (Operand.tmp 3), type := 3, pos := "ref.go:16", after := #[{ on := 9, ground := Ground.guard }], guard := some (9, true) }) (by kernel_rfl) (by kernel_rfl) (by kernel_rfl) (by kernel_rfl) (fun _ _ _ h => h) (by kernel_rfl) hH1 ?_
        refine held_skip (i := 12) (o := { dst := some 22, op := Op.binOp BinOp.sub 3 (Operand.tmp 21) (Operand.const (Value.int IntKind.i64 1)) 3, type := 3, pos := "ref.go:16", after := #[{ on := 11, ground := Ground.data }, { on := 9, ground := Ground.guard }], guard := some (9, true) }) (by kernel_rfl) (by kernel_rfl) (by kernel_rfl) (by kernel_rfl) (fun _ _ _ h => h) (by kernel_rfl) hH1 ?_
        refine held_skip (i := 13) (o := { dst := some 23, op := Op.indexAddr 23 (Operand.tmp 20) (Operand.tmp 22), type := 0, pos := "ref.go:16", after := #[{ on := 10, ground := Ground.data }, { on := 12, ground := Ground.data }, { on := 9, ground := Ground.guard }], guard := some (9, true) }) (by kernel_rfl) (by kernel_rfl) (by kernel_rfl) (by kernel_rfl) (fun _ _ _ h => h) (by kernel_rfl) hH1 ?_
        refine held_skip (i := 14) (o := { dst := some 24, op := Op.fieldAddr 147 (Operand.tmp 23) 0, type := 0, pos := "ref.go:16", after := #[{ on := 13, ground := Ground.data }, { on := 9, ground := Ground.guard }], guard := some (9, true) }) (by kernel_rfl) (by kernel_rfl) (by kernel_rfl) (by kernel_rfl) (fun _ _ _ h => h) (by kernel_rfl) hH1 ?_
        refine held_skip (i := 15) (o := { dst := some 25, op := Op.load 53 (Operand.tmp 24), type := 53, pos := "ref.go:16", after := #[{ on := 14, ground := Ground.data }, { on := 9, ground := Ground.guard }], guard := some (9, true) }) (by kernel_rfl) (by kernel_rfl) (by kernel_rfl) (by kernel_rfl) (fun _ _ _ h => h) (by kernel_rfl) hH1 ?_
        refine held_skip (i := 16) (o := { dst := some 26, op := Op.move (Operand.tmp 0), type := 23, pos := "ref.go:16", after := #[{ on := 9, ground := Ground.guard }], guard := some (9, true) }) (by kernel_rfl) (by kernel_rfl) (by kernel_rfl) (by kernel_rfl) (fun _ _ _ h => h) (by kernel_rfl) hH1 ?_
        refine held_skip (i := 17) (o := { dst := some 27, op := Op.move (Operand.tmp 3), type := 3, pos := "ref.go:16", after := #[{ on := 9, ground := Ground.guard }], guard := some (9, true) }) (by kernel_rfl) (by kernel_rfl) (by kernel_rfl) (by kernel_rfl) (fun _ _ _ h => h) (by kernel_rfl) hH1 ?_
        refine held_skip (i := 18) (o := { dst := some 28, op := Op.indexAddr 23 (Operand.tmp 26) (Operand.tmp 27), type := 0, pos := "ref.go:16", after := #[{ on := 16, ground := Ground.data }, { on := 17, ground := Ground.data }, { on := 9, ground := Ground.guard }], guard := some (9, true) }) (by kernel_rfl) (by kernel_rfl) (by kernel_rfl) (by kernel_rfl) (fun _ _ _ h => h) (by kernel_rfl) hH1 ?_
        refine held_skip (i := 19) (o := { dst := some 29, op := Op.fieldAddr 147 (Operand.tmp 28) 0, type := 0, pos := "ref.go:16", after := #[{ on := 18, ground := Ground.data }, { on := 9, ground := Ground.guard }], guard := some (9, true) }) (by kernel_rfl) (by kernel_rfl) (by kernel_rfl) (by kernel_rfl) (fun _ _ _ h => h) (by kernel_rfl) hH1 ?_
        refine held_skip (i := 20) (o := { dst := some 30, op := Op.load 53 (Operand.tmp 29), type := 53, pos := "ref.go:16", after := #[{ on := 19, ground := Ground.data }, { on := 9, ground := Ground.guard }], guard := some (9, true) }) (by kernel_rfl) (by kernel_rfl) (by kernel_rfl) (by kernel_rfl) (fun _ _ _ h => h) (by kernel_rfl) hH1 ?_
        refine held_skip (i := 21) (o := { dst := some 31, op := Op.call { callee := Callee.value (Operand.func 100), args := #[Operand.tmp 25, Operand.tmp 30], argTypes := #[53, 53] }, type := 3, pos := "ref.go:16", after := #[{ on := 15, ground := Ground.data }, { on := 20, ground := Ground.data }, { on := 9, ground := Ground.chain }, { on := 9, ground := Ground.guard }], guard := some (9, true) }) (by kernel_rfl) (by kernel_rfl) (by kernel_rfl) (by kernel_rfl) (fun _ _ _ h => h) (by kernel_rfl) hH1 ?_
        refine held_skip (i := 22) (o := { dst := some 32, op := Op.binOp BinOp.neq 3 (Operand.tmp 31) (Operand.const (Value.int IntKind.i64 (-1))) 3, type := 4, pos := "ref.go:16", after := #[{ on := 21, ground := Ground.data }, { on := 9, ground := Ground.guard }], guard := some (9, true) }) (by kernel_rfl) (by kernel_rfl) (by kernel_rfl) (by kernel_rfl) (fun _ _ _ h => h) (by kernel_rfl) hH1 ?_
        refine held_skip (i := 23) (o := { dst := some 33, op := Op.pick (Operand.tmp 19) (Operand.tmp 32) (Operand.const (Value.bool false)), type := 4, pos := "ref.go:16", after := #[{ on := 9, ground := Ground.data }, { on := 22, ground := Ground.data }, { on := 6, ground := Ground.guard }], guard := some (6, false) }) (by kernel_rfl) (by kernel_rfl) (by kernel_rfl) (by kernel_rfl) (fun _ _ _ h => h) (by kernel_rfl) hH1 ?_
        refine held_take (i := 24) (o := { dst := some 34, op := Op.pick (Operand.tmp 16) (Operand.const (Value.bool true)) (Operand.tmp 33), type := 4, pos := "ref.go:16", after := #[{ on := 6, ground := Ground.data }, { on := 23, ground := Ground.data }], guard := none }) (v := .bool true) (by kernel_rfl) (by kernel_rfl) (by kernel_rfl) (by kernel_rfl) (fun _ _ _ h => h) (by kernel_rfl) (fun _ _ => by kernel_rfl) hH1 ?_
        refine wpAnyH_done (by kernel_rfl) ?_ _
        simp only [Act.put, List.setIfInBounds_toArray, List.set_cons_zero, List.set_cons_succ]
        go_wp2
        go_ret
        exact ⟨ret_bool HL.out.symm, hH1.below⟩
      | true =>
        rw [hq] at HO
        cases k0 with
        | zero =>
          have HS' : Hid (Ct.Std (l.take (0 + 1))) := by have h := Ct.std_step HS.out hkl hq (Or.inl rfl); exact h
          obtain ⟨i0, hi0⟩ : ∃ i0, i0 = 0 := ⟨_, rfl⟩
          have hk0 : ((0 : Nat) : Int) ≤ 0 := by omega
          obtain ⟨k0, hk1⟩ : ∃ k0, k0 = 0 := ⟨_, rfl⟩
          generalize l[0] = x at *
          have hPS : PS w ad i0 0 x x wr.drew := by rw [hi0]; exact ⟨hA.on (Below.refl _ _).drew, hA.on (Below.refl _ _).drew, hbw.drew⟩
          clear hi0 hA
          go_wp2
          refine wp_region_held_drew (S := fun W => PS w ad i0 0 x x W) (by kernel_rfl) (hPS) (fun hH0 => ?_)
          refine held_take (i := 0) (o := { dst := some 10, op := Op.move (Operand.tmp 0), type := 23, pos := "ref.go:16", after := #[], guard := none }) (v := .slice (some ad) n c) (by kernel_rfl) (by kernel_rfl) (by kernel_rfl) (by kernel_rfl) (fun _ _ _ h => h) (by kernel_rfl) (fun _ _ => by kernel_rfl) hH0 ?_
          refine held_take (i := 1) (o := { dst := some 11, op := Op.move (Operand.tmp 3), type := 3, pos := "ref.go:16", after := #[], guard := none }) (v := .int .i64 (0 : Int)) (by kernel_rfl) (by kernel_rfl) (by kernel_rfl) (by kernel_rfl) (fun _ _ _ h => h) (by kernel_rfl) (fun _ _ => by kernel_rfl) hH0 ?_
          refine held_take (i := 2) (o := { dst := some 12, op := Op.indexAddr 23 (Operand.tmp 10) (Operand.tmp 11), type := 0, pos := "ref.go:16", after := #[{ on := 0, ground := Ground.data }, { on := 1, ground := Ground.data }], guard := none }) (v := .pointer (some (ad.add (0 * 3)))) (by kernel_rfl) (by kernel_rfl) (by kernel_rfl) (by kernel_rfl) (fun _ _ _ h => h) (by kernel_rfl) (fun W _ => exec_idx (n := n) (c := c) (k := 0) rfl (by kernel_rfl) (by kernel_rfl) hlt W) hH0 ?_
          refine held_take (i := 3) (o := { dst := some 13, op := Op.load 147 (Operand.tmp 12), type := 147, pos := "ref.go:16", after := #[{ on := 2, ground := Ground.data }], guard := none }) (v := uV x) (by kernel_rfl) (by kernel_rfl) (by kernel_rfl) (by kernel_rfl) (fun _ _ _ h => h) (by kernel_rfl) (fun _ h => exec_ldU rfl (by kernel_rfl) h.snd) hH0 ?_
          refine held_callX (i := 4) (o := { dst := some 14, op := Op.call { callee := Callee.value (Operand.func 105), args := #[Operand.tmp 13], argTypes := #[147] }, type := 4, pos := "ref.go:16", after := #[{ on := 3, ground := Ground.data }], guard := none }) (F := 105) (vs := #[uV x]) (by kernel_rfl) (by kernel_rfl) (by kernel_rfl) (fun _ => by kernel_rfl) (HO _) ?_
          rintro e w1 ⟨rfl, hb1⟩
          have hH1 := hH0.on hb1
          refine ⟨.bool true, rfl, hH1, ?_⟩
          refine held_take (i := 5) (o := { dst := some 15, op := Op.unOp UnOp.not 4 (Operand.tmp 14), type := 4, pos := "ref.go:16", after := #[{ on := 4, ground := Ground.data }], guard := none }) (v := .bool false) (by kernel_rfl) (by kernel_rfl) (by kernel_rfl) (by kernel_rfl) (fun _ _ _ h => h) (by kernel_rfl) (fun W _ => exec_un rfl (by kernel_rfl) (not_of true) W) hH1 ?_
          refine held_take (i := 6) (o := { dst := some 16, op := Op.move (Operand.tmp 15), type := 4, pos := "ref.go:16", after := #[{ on := 5, ground := Ground.data }, { on := 4, ground := Ground.chain }], guard := none }) (v := .bool false) (by kernel_rfl) (by kernel_rfl) (by kernel_rfl) (by kernel_rfl) (fun _ _ _ h => h) (by kernel_rfl) (fun _ _ => by kernel_rfl) hH1 ?_
          refine held_take (i := 7) (o := { dst := some 17, op := Op.move (Operand.tmp 3), type := 3, pos := "ref.go:16", after := #[{ on := 6, ground := Ground.guard }], guard := some (6, false) }) (v := .int .i64 (0 : Int)) (by kernel_rfl) (by kernel_rfl) (by kernel_rfl) (by kernel_rfl) (fun _ _ _ h => h) (by kernel_rfl) (fun _ _ => by kernel_rfl) hH1 ?_
          refine held_take (i := 8) (o := { dst := some 18, op := Op.binOp BinOp.gtr 3 (Operand.tmp 17) (Operand.const (Value.int IntKind.i64 0)) 3, type := 4, pos := "ref.go:16", after := #[{ on := 7, ground := Ground.data }, { on := 6, ground := Ground.guard }], guard := some (6, false) }) (v := .bool false) (by kernel_rfl) (by kernel_rfl) (by kernel_rfl) (by kernel_rfl) (fun _ _ _ h => h) (by kernel_rfl) (fun W _ => exec_bin rfl (by kernel_rfl) (by kernel_rfl) (fun _ => by kernel_rfl) (gtr_no (a := ((0 : Nat) : Int)) (b := 0) (by omega)) W) hH1 ?_
          refine held_take (i := 9) (o := { dst := some 19, op := Op.move (Operand.tmp 18), type := 4, pos := "ref.go:16", after := #[{ on := 8, ground := Ground.data }, { on := 6, ground := Ground.chain }, { on := 6, ground := Ground.guard }], guard := some (6, false) }) (v := .bool false) (by kernel_rfl) (by kernel_rfl) (by kernel_rfl) (by kernel_rfl) (fun _ _ _ h => h) (by kernel_rfl) (fun _ _ => by kernel_rfl) hH1 ?_
          refine held_skip (i := 10) (o := { dst := some 20, op := Op.move (Operand.tmp 0), type := 23, pos := "ref.go:16", after := #[{ on := 9, ground := Ground.guard }], guard := some (9, true) }) (by kernel_rfl) (by kernel_rfl) (by kernel_rfl) (by kernel_rfl) (fun _ _ _ h => h) (by kernel_rfl) hH1 ?_
          refine held_skip (i := 11) (o := { dst := some 21, op := Op.move (Operand.tmp 3), type := 3, pos := "ref.go:16", after := #[{ on := 9, ground := Ground.guard }], guard := some (9, true) }) (by kernel_rfl) (by kernel_rfl) (by kernel_rfl) (by kernel_rfl) (fun _ _ _ h => h) (by kernel_rfl) hH1 ?_
          refine held_skip (i := 12) (o := { dst := some 22, op := Op.binOp BinOp.sub 3 (Operand.tmp 21) (Operand.const (Value.int IntKind.i64 1)) 3, type := 3, pos := "ref.go:16", after := #[{ on := 11, ground := Ground.data }, { on := 9, ground := Ground.guard }], guard := some (9, true) }) (by kernel_rfl) (by kernel_rfl) (by kernel_rfl) (by kernel_rfl) (fun _ _ _ h => h) (by kernel_rfl) hH1 ?_
          refine held_skip (i := 13) (o := { dst := some 23, op := Op.indexAddr 23 (Operand.tmp 20) (Operand.tmp 22), type := 0, pos := "ref.go:16", after := #[{ on := 10, ground := Ground.data }, { on := 12, ground := Ground.data }, { on := 9, ground := Ground.guard }], guard := some (9, true) }) (by kernel_rfl) (by kernel_rfl) (by kernel_rfl) (by kernel_rfl) (fun _ _ _ h => h) (by kernel_rfl) hH1 ?_
          refine held_skip (i := 14) (o := { dst := some 24, op := Op.fieldAddr 147 (Operand.tmp 23) 0, type := 0, pos := "ref.go:16", after := #[{ on := 13, ground := Ground.data }, { on := 9, ground := Ground.guard }], guard := some (9, true) }) (by kernel_rfl) (by kernel_rfl) (by kernel_rfl) (by kernel_rfl) (fun _ _ _ h => h) (by kernel_rfl) hH1 ?_
          refine held_skip (i := 15) (o := { dst := some 25, op := Op.load 53 (Operand.tmp 24), type := 53, pos := "ref.go:16", after := #[{ on := 14, ground := Ground.data }, { on := 9, ground := Ground.guard }], guard := some (9, true) }) (by kernel_rfl) (by kernel_rfl) (by kernel_rfl) (by kernel_rfl) (fun _ _ _ h => h) (by kernel_rfl) hH1 ?_
          refine held_skip (i := 16) (o := { dst := some 26, op := Op.move (Operand.tmp 0), type := 23, pos := "ref.go:16", after := #[{ on := 9, ground := Ground.guard }], guard := some (9, true) }) (by kernel_rfl) (by kernel_rfl) (by kernel_rfl) (by kernel_rfl) (fun _ _ _ h => h) (by kernel_rfl) hH1 ?_
          refine held_skip (i := 17) (o := { dst := some 27, op := Op.move (Operand.tmp 3), type := 3, pos := "ref.go:16", after := #[{ on := 9, ground := Ground.guard }], guard := some (9, true) }) (by kernel_rfl) (by kernel_rfl) (by kernel_rfl) (by kernel_rfl) (fun _ _ _ h => h) (by kernel_rfl) hH1 ?_
          refine held_skip (i := 18) (o := { dst := some 28, op := Op.indexAddr 23 (Operand.tmp 26) (Operand.tmp 27), type := 0, pos := "ref.go:16", after := #[{ on := 16, ground := Ground.data }, { on := 17, ground := Ground.data }, { on := 9, ground := Ground.guard }], guard := some (9, true) }) (by kernel_rfl) (by kernel_rfl) (by kernel_rfl) (by kernel_rfl) (fun _ _ _ h => h) (by kernel_rfl) hH1 ?_
          refine held_skip (i := 19) (o := { dst := some 29, op := Op.fieldAddr 147 (Operand.tmp 28) 0, type := 0, pos := "ref.go:16", after := #[{ on := 18, ground := Ground.data }, { on := 9, ground := Ground.guard }], guard := some (9, true) }) (by kernel_rfl) (by kernel_rfl) (by kernel_rfl) (by kernel_rfl) (fun _ _ _ h => h) (by kernel_rfl) hH1 ?_
          refine held_skip (i := 20) (o := { dst := some 30, op := Op.load 53 (Operand.tmp 29), type := 53, pos := "ref.go:16", after := #[{ on := 19, ground := Ground.data }, { on := 9, ground := Ground.guard }], guard := some (9, true) }) (by kernel_rfl) (by kernel_rfl) (by kernel_rfl) (by kernel_rfl) (fun _ _ _ h => h) (by kernel_rfl) hH1 ?_
          refine held_skip (i := 21) (o := { dst := some 31, op := Op.call { callee := Callee.value (Operand.func 100), args := #[Operand.tmp 25, Operand.tmp 30], argTypes := #[53, 53] }, type := 3, pos := "ref.go:16", after := #[{ on := 15, ground := Ground.data }, { on := 20, ground := Ground.data }, { on := 9, ground := Ground.chain }, { on := 9, ground := Ground.guard }], guard := some (9, true) }) (by kernel_rfl) (by kernel_rfl) (by kernel_rfl) (by kernel_rfl) (fun _ _ _ h => h) (by kernel_rfl) hH1 ?_
          refine held_skip (i := 22) (o := { dst := some 32, op := Op.binOp BinOp.neq 3 (Operand.tmp 31) (Operand.const (Value.int IntKind.i64 (-1))) 3, type := 4, pos := "ref.go:16", after := #[{ on := 21, ground := Ground.data }, { on := 9, ground := Ground.guard }], guard := some (9, true) }) (by kernel_rfl) (by kernel_rfl) (by kernel_rfl) (by kernel_rfl) (fun _ _ _ h => h) (by kernel_rfl) hH1 ?_
          refine held_take (i := 23) (o := { dst := some 33, op := Op.pick (Operand.tmp 19) (Operand.tmp 32) (Operand.const (Value.bool false)), type := 4, pos := "ref.go:16", after := #[{ on := 9, ground := Ground.data }, { on := 22, ground := Ground.data }, { on := 6, ground := Ground.guard }], guard := some (6, false) }) (v := .bool false) (by kernel_rfl) (by kernel_rfl) (by kernel_rfl) (by kernel_rfl) (fun _ _ _ h => h) (by kernel_rfl) (fun _ _ => by kernel_rfl) hH1 ?_
          refine held_take (i := 24) (o := { dst := some 34, op := Op.pick (Operand.tmp 16) (Operand.const (Value.bool true)) (Operand.tmp 33), type := 4, pos := "ref.go:16", after := #[{ on := 6, ground := Ground.data }, { on := 23, ground := Ground.data }], guard := none }) (v := .bool false) (by kernel_rfl) (by kernel_rfl) (by kernel_rfl) (by kernel_rfl) (fun _ _ _ h => h) (by kernel_rfl) (fun _ _ => by kernel_rfl) hH1 ?_
          refine wpAnyH_done (by kernel_rfl) ?_ _
          simp only [Act.put, List.setIfInBounds_toArray, List.set_cons_zero, List.set_cons_succ]
          go_wp2
          go_roundw
          case rel => exact ⟨1, by omega, by go_num, HS', hH1.below⟩
          case measure => simp [intOf]; omega
        | succ i0 =>
          obtain ⟨ad', ha', hX⟩ := HC.out i0 (by omega)
          cases ha'
          have hX := hX.on hbw
          have HQ := fun W => refComp_any (l[i0]).1.1 (l[i0]).1.2 (l[i0 + 1]).1.1 (l[i0 + 1]).1.2 W
          have hcf := cf_neg (l[i0]).1 (l[i0 + 1]).1
          have hlt0 : i0 < n := by omega
          have hk0 : (0 : Int) < ((i0 + 1 : Nat) : Int) := by omega
          have hsub := sub_one i0 (by omega)
          by_cases hl : Ct.lt (l[i0]).1 (l[i0 + 1]).1
          · have HS' : Hid (Ct.Std (l.take (i0 + 1 + 1))) := by have h := Ct.std_step HS.out hkl hq (Or.inr ⟨by omega, hl⟩); exact h
            rw [decide_eq_true hl] at hcf
            have hz := of_decide_eq_true hcf
            clear hcf hl HS hq
            generalize Dt.comp (l[i0]).1.1 (l[i0]).1.2 (l[i0 + 1]).1.1 (l[i0 + 1]).1.2 = z at *
            generalize l[i0] = x at *
            generalize l[i0 + 1] = y at *
            have hPS : PS w ad i0 (i0 + 1) x y wr.drew := ⟨hX.on (Below.refl _ _).drew, hA.on (Below.refl _ _).drew, hbw.drew⟩
            obtain ⟨k0, hk9⟩ : ∃ k0, k0 = i0 + 1 := ⟨_, rfl⟩
            rw [← hk9] at hPS hsub hk0 hlt HS' hk ⊢
            clear hX hA
            go_wp2
            refine wp_region_held_drew (S := fun W => PS w ad i0 k0 x y W) (by kernel_rfl) (hPS) (fun hH0 => ?_)
            refine held_take (i := 0) (o := { dst := some 10, op := Op.move (Operand.tmp 0), type := 23, pos := "ref.go:16", after := #[], guard := none }) (v := .slice (some ad) n c) (by kernel_rfl) (by kernel_rfl) (by kernel_rfl) (by kernel_rfl) (fun _ _ _ h => h) (by kernel_rfl) (fun _ _ => by kernel_rfl) hH0 ?_
            refine held_take (i := 1) (o := { dst := some 11, op := Op.move (Operand.tmp 3), type := 3, pos := "ref.go:16", after := #[], guard := none }) (v := .int .i64 (k0 : Int)) (by kernel_rfl) (by kernel_rfl) (by kernel_rfl) (by kernel_rfl) (fun _ _ _ h => h) (by kernel_rfl) (fun _ _ => by kernel_rfl) hH0 ?_
            refine held_take (i := 2) (o := { dst := some 12, op := Op.indexAddr 23 (Operand.tmp 10) (Operand.tmp 11), type := 0, pos := "ref.go:16", after := #[{ on := 0, ground := Ground.data }, { on := 1, ground := Ground.data }], guard := none }) (v := .pointer (some (ad.add (k0 * 3)))) (by kernel_rfl) (by kernel_rfl) (by kernel_rfl) (by kernel_rfl) (fun _ _ _ h => h) (by kernel_rfl) (fun W _ => exec_idx (n := n) (c := c) (k := k0) rfl (by kernel_rfl) (by kernel_rfl) hlt W) hH0 ?_
            refine held_take (i := 3) (o := { dst := some 13, op := Op.load 147 (Operand.tmp 12), type := 147, pos := "ref.go:16", after := #[{ on := 2, ground := Ground.data }], guard := none }) (v := uV y) (by kernel_rfl) (by kernel_rfl) (by kernel_rfl) (by kernel_rfl) (fun _ _ _ h => h) (by kernel_rfl) (fun _ h => exec_ldU rfl (by kernel_rfl) h.snd) hH0 ?_
            refine held_callX (i := 4) (o := { dst := some 14, op := Op.call { callee := Callee.value (Operand.func 105), args := #[Operand.tmp 13], argTypes := #[147] }, type := 4, pos := "ref.go:16", after := #[{ on := 3, ground := Ground.data }], guard := none }) (F := 105) (vs := #[uV y]) (by kernel_rfl) (by kernel_rfl) (by kernel_rfl) (fun _ => by kernel_rfl) (HO _) ?_
            rintro e w1 ⟨rfl, hb1⟩
            have hH1 := hH0.on hb1
            refine ⟨.bool true, rfl, hH1, ?_⟩
            refine held_take (i := 5) (o := { dst := some 15, op := Op.unOp UnOp.not 4 (Operand.tmp 14), type := 4, pos := "ref.go:16", after := #[{ on := 4, ground := Ground.data }], guard := none }) (v := .bool false) (by kernel_rfl) (by kernel_rfl) (by kernel_rfl) (by kernel_rfl) (fun _ _ _ h => h) (by kernel_rfl) (fun W _ => exec_un rfl (by kernel_rfl) (not_of true) W) hH1 ?_
            refine held_take (i := 6) (o := { dst := some 16, op := Op.move (Operand.tmp 15), type := 4, pos := "ref.go:16", after := #[{ on := 5, ground := Ground.data }, { on := 4, ground := Ground.chain }], guard := none }) (v := .bool false) (by kernel_rfl) (by kernel_rfl) (by kernel_rfl) (by kernel_rfl) (fun _ _ _ h => h) (by kernel_rfl) (fun _ _ => by kernel_rfl) hH1 ?_
            refine held_take (i := 7) (o := { dst := some 17, op := Op.move (Operand.tmp 3), type := 3, pos := "ref.go:16", after := #[{ on := 6, ground := Ground.guard }], guard := some (6, false) }) (v := .int .i64 (k0 : Int)) (by kernel_rfl) (by kernel_rfl) (by kernel_rfl) (by kernel_rfl) (fun _ _ _ h => h) (by kernel_rfl) (fun _ _ => by kernel_rfl) hH1 ?_
            refine held_take (i := 8) (o := { dst := some 18, op := Op.binOp BinOp.gtr 3 (Operand.tmp 17) (Operand.const (Value.int IntKind.i64 0)) 3, type := 4, pos := "ref.go:16", after := #[{ on := 7, ground := Ground.data }, { on := 6, ground := Ground.guard }], guard := some (6, false) }) (v := .bool true) (by kernel_rfl) (by kernel_rfl) (by kernel_rfl) (by kernel_rfl) (fun _ _ _ h => h) (by kernel_rfl) (fun W _ => exec_bin rfl (by kernel_rfl) (by kernel_rfl) (fun _ => by kernel_rfl) (gtr_yes hk0) W) hH1 ?_
            refine held_take (i := 9) (o := { dst := some 19, op := Op.move (Operand.tmp 18), type := 4, pos := "ref.go:16", after := #[{ on := 8, ground := Ground.data }, { on := 6, ground := Ground.chain }, { on := 6, ground := Ground.guard }], guard := some (6, false) }) (v := .bool true) (by kernel_rfl) (by kernel_rfl) (by kernel_rfl) (by kernel_rfl) (fun _ _ _ h => h) (by kernel_rfl) (fun _ _ => by kernel_rfl) hH1 ?_
            refine held_take (i := 10) (o := { dst := some 20, op := Op.move (Operand.tmp 0), type := 23, pos := "ref.go:16", after := #[{ on := 9, ground := Ground.guard }], guard := some (9, true) }) (v := .slice (some ad) n c) (by kernel_rfl) (by kernel_rfl) (by kernel_rfl) (by kernel_rfl) (fun _ _ _ h => h) (by kernel_rfl) (fun _ _ => by kernel_rfl) hH1 ?_
            refine held_take (i := 11) (o := { dst := some 21, op := Op.move (Operand.tmp 3), type := 3, pos := "ref.go:16", after := #[{ on := 9, ground := Ground.guard }], guard := some (9, true) }) (v := .int .i64 (k0 : Int)) (by kernel_rfl) (by kernel_rfl) (by kernel_rfl) (by kernel_rfl) (fun _ _ _ h => h) (by kernel_rfl) (fun _ _ => by kernel_rfl) hH1 ?_
            refine held_take (i := 12) (o := { dst := some 22, op := Op.binOp BinOp.sub 3 (Operand.tmp 21) (Operand.const (Value.int IntKind.i64 1)) 3, type := 3, pos := "ref.go:16", after := #[{ on := 11, ground := Ground.data }, { on := 9, ground := Ground.guard }], guard := some (9, true) }) (v := .int .i64 (i0 : Int)) (by kernel_rfl) (by kernel_rfl) (by kernel_rfl) (by kernel_rfl) (fun _ _ _ h => h) (by kernel_rfl) (fun W _ => exec_bin rfl (by kernel_rfl) (by kernel_rfl) (fun _ => by kernel_rfl) (hsub) W) hH1 ?_
            refine held_take (i := 13) (o := { dst := some 23, op := Op.indexAddr 23 (Operand.tmp 20) (Operand.tmp 22), type := 0, pos := "ref.go:16", after := #[{ on := 10, ground := Ground.data }, { on := 12, ground := Ground.data }, { on := 9, ground := Ground.guard }], guard := some (9, true) }) (v := .pointer (some (ad.add (i0 * 3)))) (by kernel_rfl) (by kernel_rfl) (by kernel_rfl) (by kernel_rfl) (fun _ _ _ h => h) (by kernel_rfl) (fun W _ => exec_idx (n := n) (c := c) (k := i0) rfl (by kernel_rfl) (by kernel_rfl) hlt0 W) hH1 ?_
            refine held_take (i := 14) (o := { dst := some 24, op := Op.fieldAddr 147 (Operand.tmp 23) 0, type := 0, pos := "ref.go:16", after := #[{ on := 13, ground := Ground.data }, { on := 9, ground := Ground.guard }], guard := some (9, true) }) (v := .pointer (some (ad.add (i0 * 3)))) (by kernel_rfl) (by kernel_rfl) (by kernel_rfl) (by kernel_rfl) (fun _ _ _ h => h) (by kernel_rfl) (fun W _ => exec_fld0 rfl (by kernel_rfl) W) hH1 ?_
            refine held_take (i := 15) (o := { dst := some 25, op := Op.load 53 (Operand.tmp 24), type := 53, pos := "ref.go:16", after := #[{ on := 14, ground := Ground.data }, { on := 9, ground := Ground.guard }], guard := some (9, true) }) (v := dV x.1) (by kernel_rfl) (by kernel_rfl) (by kernel_rfl) (by kernel_rfl) (fun _ _ _ h => h) (by kernel_rfl) (fun _ h => exec_ldD rfl (by kernel_rfl) h.fst) hH1 ?_
            refine held_take (i := 16) (o := { dst := some 26, op := Op.move (Operand.tmp 0), type := 23, pos := "ref.go:16", after := #[{ on := 9, ground := Ground.guard }], guard := some (9, true) }) (v := .slice (some ad) n c) (by kernel_rfl) (by kernel_rfl) (by kernel_rfl) (by kernel_rfl) (fun _ _ _ h => h) (by kernel_rfl) (fun _ _ => by kernel_rfl) hH1 ?_
            refine held_take (i := 17) (o := { dst := some 27, op := Op.move (Operand.tmp 3), type := 3, pos := "ref.go:16", after := #[{ on := 9, ground := Ground.guard }], guard := some (9, true) }) (v := .int .i64 (k0 : Int)) (by kernel_rfl) (by kernel_rfl) (by kernel_rfl) (by kernel_rfl) (fun _ _ _ h => h) (by kernel_rfl) (fun _ _ => by kernel_rfl) hH1 ?_
            refine held_take (i := 18) (o := { dst := some 28, op := Op.indexAddr 23 (Operand.tmp 26) (Operand.tmp 27), type := 0, pos := "ref.go:16", after := #[{ on := 16, ground := Ground.data }, { on := 17, ground := Ground.data }, { on := 9, ground := Ground.guard }], guard := some (9, true) }) (v := .pointer (some (ad.add (k0 * 3)))) (by kernel_rfl) (by kernel_rfl) (by kernel_rfl) (by kernel_rfl) (fun _ _ _ h => h) (by kernel_rfl) (fun W _ => exec_idx (n := n) (c := c) (k := k0) rfl (by kernel_rfl) (by kernel_rfl) hlt W) hH1 ?_
            refine held_take (i := 19) (o := { dst := some 29, op := Op.fieldAddr 147 (Operand.tmp 28) 0, type := 0, pos := "ref.go:16", after := #[{ on := 18, ground := Ground.data }, { on := 9, ground := Ground.guard }], guard := some (9, true) }) (v := .pointer (some (ad.add (k0 * 3)))) (by kernel_rfl) (by kernel_rfl) (by kernel_rfl) (by kernel_rfl) (fun _ _ _ h => h) (by kernel_rfl) (fun W _ => exec_fld0 rfl (by kernel_rfl) W) hH1 ?_
            refine held_take (i := 20) (o := { dst := some 30, op := Op.load 53 (Operand.tmp 29), type := 53, pos := "ref.go:16", after := #[{ on := 19, ground := Ground.data }, { on := 9, ground := Ground.guard }], guard := some (9, true) }) (v := dV y.1) (by kernel_rfl) (by kernel_rfl) (by kernel_rfl) (by kernel_rfl) (fun _ _ _ h => h) (by kernel_rfl) (fun _ h => exec_ldD rfl (by kernel_rfl) h.snd) hH1 ?_
            refine held_callX (i := 21) (o := { dst := some 31, op := Op.call { callee := Callee.value (Operand.func 100), args := #[Operand.tmp 25, Operand.tmp 30], argTypes := #[53, 53] }, type := 3, pos := "ref.go:16", after := #[{ on := 15, ground := Ground.data }, { on := 20, ground := Ground.data }, { on := 9, ground := Ground.chain }, { on := 9, ground := Ground.guard }], guard := some (9, true) }) (F := 100) (vs := #[dV x.1, dV y.1]) (by kernel_rfl) (by kernel_rfl) (by kernel_rfl) (fun _ => by kernel_rfl) (HQ _) ?_
            rintro e w2 ⟨rfl, hb2⟩
            have hH2 := hH1.on hb2
            refine ⟨.int .i64 z, rfl, hH2, ?_⟩
            refine held_take (i := 22) (o := { dst := some 32, op := Op.binOp BinOp.neq 3 (Operand.tmp 31) (Operand.const (Value.int IntKind.i64 (-1))) 3, type := 4, pos := "ref.go:16", after := #[{ on := 21, ground := Ground.data }, { on := 9, ground := Ground.guard }], guard := some (9, true) }) (v := .bool false) (by kernel_rfl) (by kernel_rfl) (by kernel_rfl) (by kernel_rfl) (fun _ _ _ h => h) (by kernel_rfl) (fun W _ => exec_bin rfl (by kernel_rfl) (by kernel_rfl) (fun _ => by kernel_rfl) (neqi_no hz) W) hH2 ?_
            refine held_take (i := 23) (o := { dst := some 33, op := Op.pick (Operand.tmp 19) (Operand.tmp 32) (Operand.const (Value.bool false)), type := 4, pos := "ref.go:16", after := #[{ on := 9, ground := Ground.data }, { on := 22, ground := Ground.data }, { on := 6, ground := Ground.guard }], guard := some (6, false) }) (v := .bool false) (by kernel_rfl) (by kernel_rfl) (by kernel_rfl) (by kernel_rfl) (fun _ _ _ h => h) (by kernel_rfl) (fun _ _ => by kernel_rfl) hH2 ?_
            refine held_take (i := 24) (o := { dst := some 34, op := Op.pick (Operand.tmp 16) (Operand.const (Value.bool true)) (Operand.tmp 33), type := 4, pos := "ref.go:16", after := #[{ on := 6, ground := Ground.data }, { on := 23, ground := Ground.data }], guard := none }) (v := .bool false) (by kernel_rfl) (by kernel_rfl) (by kernel_rfl) (by kernel_rfl) (fun _ _ _ h => h) (by kernel_rfl) (fun _ _ => by kernel_rfl) hH2 ?_
            refine wpAnyH_done (by kernel_rfl) ?_ _
            simp only [Act.put, List.setIfInBounds_toArray, List.set_cons_zero, List.set_cons_succ]
            go_wp2
            go_roundw
            case rel => exact ⟨k0 + 1, by omega, by go_num, HS', hH2.below⟩
            case measure => simp [intOf]; omega
          · have HL : Hid (Ct.right l = false) := by have h := Ct.not_lt hkl hl; exact h
            rw [decide_eq_false hl] at hcf
            have hz := of_decide_eq_false hcf
            clear hcf hl HS hq
            generalize Dt.comp (l[i0]).1.1 (l[i0]).1.2 (l[i0 + 1]).1.1 (l[i0 + 1]).1.2 = z at *
            generalize l[i0] = x at *
            generalize l[i0 + 1] = y at *
            have hPS : PS w ad i0 (i0 + 1) x y wr.drew := ⟨hX.on (Below.refl _ _).drew, hA.on (Below.refl _ _).drew, hbw.drew⟩
            obtain ⟨k0, hk9⟩ : ∃ k0, k0 = i0 + 1 := ⟨_, rfl⟩
            rw [← hk9] at hPS hsub hk0 hlt hk ⊢
            clear hX hA
            go_wp2
            refine wp_region_held_drew (S := fun W => PS w ad i0 k0 x y W) (by kernel_rfl) (hPS) (fun hH0 => ?_)
            refine held_take (i := 0) (o := { dst := some 10, op := Op.move (Operand.tmp 0), type := 23, pos := "ref.go:16", after := #[], guard := none }) (v := .slice (some ad) n c) (by kernel_rfl) (by kernel_rfl) (by kernel_rfl) (by kernel_rfl) (fun _ _ _ h => h) (by kernel_rfl) (fun _ _ => by kernel_rfl) hH0 ?_
            refine held_take (i := 1) (o := { dst := some 11, op := Op.move (Operand.tmp 3), type := 3, pos := "ref.go:16", after := #[], guard := none }) (v := .int .i64 (k0 : Int)) (by kernel_rfl) (by kernel_rfl) (by kernel_rfl) (by kernel_rfl) (fun _ _ _ h => h) (by kernel_rfl) (fun _ _ => by kernel_rfl) hH0 ?_
            refine held_take (i := 2) (o := { dst := some 12, op := Op.indexAddr 23 (Operand.tmp 10) (Operand.tmp 11), type := 0, pos := "ref.go:16", after := #[{ on := 0, ground := Ground.data }, { on := 1, ground := Ground.data }], guard := none }) (v := .pointer (some (ad.add (k0 * 3)))) (by kernel_rfl) (by kernel_rfl) (by kernel_rfl) (by kernel_rfl) (fun _ _ _ h => h) (by kernel_rfl) (fun W _ => exec_idx (n := n) (c := c) (k := k0) rfl (by kernel_rfl) (by kernel_rfl) hlt W) hH0 ?_
            refine held_take (i := 3) (o := { dst := some 13, op := Op.load 147 (Operand.tmp 12), type := 147, pos := "ref.go:16", after := #[{ on := 2, ground := Ground.data }], guard := none }) (v := uV y) (by kernel_rfl) (by kernel_rfl) (by kernel_rfl) (by kernel_rfl) (fun _ _ _ h => h) (by kernel_rfl) (fun _ h => exec_ldU rfl (by kernel_rfl) h.snd) hH0 ?_
            refine held_callX (i := 4) (o := { dst := some 14, op := Op.call { callee := Callee.value (Operand.func 105), args := #[Operand.tmp 13], argTypes := #[147] }, type := 4, pos := "ref.go:16", after := #[{ on := 3, ground := Ground.data }], guard := none }) (F := 105) (vs := #[uV y]) (by kernel_rfl) (by kernel_rfl) (by kernel_rfl) (fun _ => by kernel_rfl) (HO _) ?_
            rintro e w1 ⟨rfl, hb1⟩
            have hH1 := hH0.on hb1
            refine ⟨.bool true, rfl, hH1, ?_⟩
            refine held_take (i := 5) (o := { dst := some 15, op := Op.unOp UnOp.not 4 (Operand.tmp 14), type := 4, pos := "ref.go:16", after := #[{ on := 4, ground := Ground.data }], guard := none }) (v := .bool false) (by kernel_rfl) (by kernel_rfl) (by kernel_rfl) (by kernel_rfl) (fun _ _ _ h => h) (by kernel_rfl) (fun W _ => exec_un rfl (by kernel_rfl) (not_of true) W) hH1 ?_
            refine held_take (i := 6) (o := { dst := some 16, op := Op.move (Operand.tmp 15), type := 4, pos := "ref.go:16", after := #[{ on := 5, ground := Ground.data }, { on := 4, ground := Ground.chain }], guard := none }) (v := .bool false) (by kernel_rfl) (by kernel_rfl) (by kernel_rfl) (by kernel_rfl) (fun _ _ _ h => h) (by kernel_rfl) (fun _ _ => by kernel_rfl) hH1 ?_
            refine held_take (i := 7) (o := { dst := some 17, op := Op.move (Operand.tmp 3), type := 3, pos := "ref.go:16", after := #[{ on := 6, ground := Ground.guard }], guard := some (6, false) }) (v := .int .i64 (k0 : Int)) (by kernel_rfl) (by kernel_rfl) (by kernel_rfl) (by kernel_rfl) (fun _ _ _ h => h) (by kernel_rfl) (fun _ _ => by kernel_rfl) hH1 ?_
            refine held_take (i := 8) (o := { dst := some 18, op := Op.binOp BinOp.gtr 3 (Operand.tmp 17) (Operand.const (Value.int IntKind.i64 0)) 3, type := 4, pos := "ref.go:16", after := #[{ on := 7, ground := Ground.data }, { on := 6, ground := Ground.guard }], guard := some (6, false) }) (v := .bool true) (by kernel_rfl) (by kernel_rfl) (by kernel_rfl) (by kernel_rfl) (fun _ _ _ h => h) (by kernel_rfl) (fun W _ => exec_bin rfl (by kernel_rfl) (by kernel_rfl) (fun _ => by kernel_rfl) (gtr_yes hk0) W) hH1 ?_
            refine held_take (i := 9) (o := { dst := some 19, op := Op.move (Operand.tmp 18), type := 4, pos := "ref.go:16", after := #[{ on := 8, ground := Ground.data }, { on := 6, ground := Ground.chain }, { on := 6, ground := Ground.guard }], guard := some (6, false) }) (v := .bool true) (by kernel_rfl) (by kernel_rfl) (by kernel_rfl) (by kernel_rfl) (fun _ _ _ h => h) (by kernel_rfl) (fun _ _ => by kernel_rfl) hH1 ?_
            refine held_take (i := 10) (o := { dst := some 20, op := Op.move (Operand.tmp 0), type := 23, pos := "ref.go:16", after := #[{ on := 9, ground := Ground.guard }], guard := some (9, true) }) (v := .slice (some ad) n c) (by kernel_rfl) (by kernel_rfl) (by kernel_rfl) (by kernel_rfl) (fun _ _ _ h => h) (by kernel_rfl) (fun _ _ => by kernel_rfl) hH1 ?_
            refine held_take (i := 11) (o := { dst := some 21, op := Op.move (Operand.tmp 3), type := 3, pos := "ref.go:16", after := #[{ on := 9, ground := Ground.guard }], guard := some (9, true) }) (v := .int .i64 (k0 : Int)) (by kernel_rfl) (by kernel_rfl) (by kernel_rfl) (by kernel_rfl) (fun _ _ _ h => h) (by kernel_rfl) (fun _ _ => by kernel_rfl) hH1 ?_
            refine held_take (i := 12) (o := { dst := some 22, op := Op.binOp BinOp.sub 3 (Operand.tmp 21) (Operand.const (Value.int IntKind.i64 1)) 3, type := 3, pos := "ref.go:16", after := #[{ on := 11, ground := Ground.data }, { on := 9, ground := Ground.guard }], guard := some (9, true) }) (v := .int .i64 (i0 : Int)) (by kernel_rfl) (by kernel_rfl) (by kernel_rfl) (by kernel_rfl) (fun _ _ _ h => h) (by kernel_rfl) (fun W _ => exec_bin rfl (by kernel_rfl) (by kernel_rfl) (fun _ => by kernel_rfl) (hsub) W) hH1 ?_
            refine held_take (i := 13) (o := { dst := some 23, op := Op.indexAddr 23 (Operand.tmp 20) (Operand.tmp 22), type := 0, pos := "ref.go:16", after := #[{ on := 10, ground := Ground.data }, { on := 12, ground := Ground.data }, { on := 9, ground := Ground.guard }], guard := some (9, true) }) (v := .pointer (some (ad.add (i0 * 3)))) (by kernel_rfl) (by kernel_rfl) (by kernel_rfl) (by kernel_rfl) (fun _ _ _ h => h) (by kernel_rfl) (fun W _ => exec_idx (n := n) (c := c) (k := i0) rfl (by kernel_rfl) (by kernel_rfl) hlt0 W) hH1 ?_
            refine held_take (i := 14) (o := { dst := some 24, op := Op.fieldAddr 147 (Operand.tmp 23) 0, type := 0, pos := "ref.go:16", after := #[{ on := 13, ground := Ground.data }, { on := 9, ground := Ground.guard }], guard := some (9, true) }) (v := .pointer (some (ad.add (i0 * 3)))) (by kernel_rfl) (by kernel_rfl) (by kernel_rfl) (by kernel_rfl) (fun _ _ _ h => h) (by kernel_rfl) (fun W _ => exec_fld0 rfl (by kernel_rfl) W) hH1 ?_
            refine held_take (i := 15) (o := { dst := some 25, op := Op.load 53 (Operand.tmp 24), type := 53, pos := "ref.go:16", after := #[{ on := 14, ground := Ground.data }, { on := 9, ground := Ground.guard }], guard := some (9, true) }) (v := dV x.1) (by kernel_rfl) (by kernel_rfl) (by kernel_rfl) (by kernel_rfl) (fun _ _ _ h => h) (by kernel_rfl) (fun _ h => exec_ldD rfl (by kernel_rfl) h.fst) hH1 ?_
            refine held_take (i := 16) (o := { dst := some 26, op := Op.move (Operand.tmp 0), type := 23, pos := "ref.go:16", after := #[{ on := 9, ground := Ground.guard }], guard := some (9, true) }) (v := .slice (some ad) n c) (by kernel_rfl) (by kernel_rfl) (by kernel_rfl) (by kernel_rfl) (fun _ _ _ h => h) (by kernel_rfl) (fun _ _ => by kernel_rfl) hH1 ?_
            refine held_take (i := 17) (o := { dst := some 27, op := Op.move (Operand.tmp 3), type := 3, pos := "ref.go:16", after := #[{ on := 9, ground := Ground.guard }], guard := some (9, true) }) (v := .int .i64 (k0 : Int)) (by kernel_rfl) (by kernel_rfl) (by kernel_rfl) (by kernel_rfl) (fun _ _ _ h => h) (by kernel_rfl) (fun _ _ => by kernel_rfl) hH1 ?_
            refine held_take (i := 18) (o := { dst := some 28, op := Op.indexAddr 23 (Operand.tmp 26) (Operand.tmp 27), type := 0, pos := "ref.go:16", after := #[{ on := 16, ground := Ground.data }, { on := 17, ground := Ground.data }, { on := 9, ground := Ground.guard }], guard := some (9, true) }) (v := .pointer (some (ad.add (k0 * 3)))) (by kernel_rfl) (by kernel_rfl) (by kernel_rfl) (by kernel_rfl) (fun _ _ _ h => h) (by kernel_rfl) (fun W _ => exec_idx (n := n) (c := c) (k := k0) rfl (by kernel_rfl) (by kernel_rfl) hlt W) hH1 ?_
            refine held_take (i := 19) (o := { dst := some 29, op := Op.fieldAddr 147 (Operand.tmp 28) 0, type := 0, pos := "ref.go:16", after := #[{ on := 18, ground := Ground.data }, { on := 9, ground := Ground.guard }], guard := some (9, true) }) (v := .pointer (some (ad.add (k0 * 3)))) (by kernel_rfl) (by kernel_rfl) (by kernel_rfl) (by kernel_rfl) (fun _ _ _ h => h) (by kernel_rfl) (fun W _ => exec_fld0 rfl (by kernel_rfl) W) hH1 ?_
            refine held_take (i := 20) (o := { dst := some 30, op := Op.load 53 (Operand.tmp 29), type := 53, pos := "ref.go:16", after := #[{ on := 19, ground := Ground.data }, { on := 9, ground := Ground.guard }], guard := some (9, true) }) (v := dV y.1) (by kernel_rfl) (by kernel_rfl) (by kernel_rfl) (by kernel_rfl) (fun _ _ _ h => h) (by kernel_rfl) (fun _ h => exec_ldD rfl (by kernel_rfl) h.snd) hH1 ?_
            refine held_callX (i := 21) (o := { dst := some 31, op := Op.call { callee := Callee.value (Operand.func 100), args := #[Operand.tmp 25, Operand.tmp 30], argTypes := #[53, 53] }, type := 3, pos := "ref.go:16", after := #[{ on := 15, ground := Ground.data }, { on := 20, ground := Ground.data }, { on := 9, ground := Ground.chain }, { on := 9, ground := Ground.guard }], guard := some (9, true) }) (F := 100) (vs := #[dV x.1, dV y.1]) (by kernel_rfl) (by kernel_rfl) (by kernel_rfl) (fun _ => by kernel_rfl) (HQ _) ?_
            rintro e w2 ⟨rfl, hb2⟩
            have hH2 := hH1.on hb2
            refine ⟨.int .i64 z, rfl, hH2, ?_⟩
            refine held_take (i := 22) (o := { dst := some 32, op := Op.binOp BinOp.neq 3 (Operand.tmp 31) (Operand.const (Value.int IntKind.i64 (-1))) 3, type := 4, pos := "ref.go:16", after := #[{ on := 21, ground := Ground.data }, { on := 9, ground := Ground.guard }], guard := some (9, true) }) (v := .bool true) (by kernel_rfl) (by kernel_rfl) (by kernel_rfl) (by kernel_rfl) (fun _ _ _ h => h) (by kernel_rfl) (fun W _ => exec_bin rfl (by kernel_rfl) (by kernel_rfl) (fun _ => by kernel_rfl) (neqi_yes hz) W) hH2 ?_
            refine held_take (i := 23) (o := { dst := some 33, op := Op.pick (Operand.tmp 19) (Operand.tmp 32) (Operand.const (Value.bool false)), type := 4, pos := "ref.go:16", after := #[{ on := 9, ground := Ground.data }, { on := 22, ground := Ground.data }, { on := 6, ground := Ground.guard }], guard := some (6, false) }) (v := .bool true) (by kernel_rfl) (by kernel_rfl) (by kernel_rfl) (by kernel_rfl) (fun _ _ _ h => h) (by kernel_rfl) (fun _ _ => by kernel_rfl) hH2 ?_
            refine held_take (i := 24) (o := { dst := some 34, op := Op.pick (Operand.tmp 16) (Operand.const (Value.bool true)) (Operand.tmp 33), type := 4, pos := "ref.go:16", after := #[{ on := 6, ground := Ground.data }, { on := 23, ground := Ground.data }], guard := none }) (v := .bool true) (by kernel_rfl) (by kernel_rfl) (by kernel_rfl) (by kernel_rfl) (fun _ _ _ h => h) (by kernel_rfl) (fun _ _ => by kernel_rfl) hH2 ?_
            refine wpAnyH_done (by kernel_rfl) ?_ _
            simp only [Act.put, List.setIfInBounds_toArray, List.set_cons_zero, List.set_cons_succ]
            go_wp2
            go_ret
            exact ⟨ret_bool HL.out.symm, hH2.below⟩
    · obtain rfl : k0 = n := by omega
      have HL : Hid (Ct.right l = true) := by
        have h := HS.out
        rw [HN.out, List.take_length] at h
        have h2 := Ct.right_iff.2 h
        exact h2
      go_wp2
      go_ret
      exact ⟨ret_bool HL.out.symm, hbw⟩
end Go.Proofs.YthlhopdlkkeohaaGreatDoor.T
