/- The walks of Refs, both sides · The walks of both Leafs, and of what the program asks of a kind. -/
import Derived.Test.YthlhopdlkkeohaaGreatDoorChecksAll
import Derived.Test.YthlhopdlkkeohaaGreatDoorValAll
/- The walks of Refs, both sides. -/
namespace Go.Proofs.YthlhopdlkkeohaaGreatDoor.O
open Go.RowKit

theorem neqi_no {z c : Int} (h : z = c) (w : World) : (binOp .neq 3 (.int .i64 z) (.int .i64 c)).run Tryz.prog w = .ok (.bool false) w := by subst h; go_simp
theorem neqi_yes {z c : Int} (h : z ≠ c) (w : World) : (binOp .neq 3 (.int .i64 z) (.int .i64 c)).run Tryz.prog w = .ok (.bool true) w := by
  have : (z != c) = true := by simpa using h
  go_simp
theorem gtr_yes {a b : Int} (h : b < a) (w : World) : (binOp .gtr 3 (.int .i64 a) (.int .i64 b)).run Tryz.prog w = .ok (.bool true) w := by go_simp
theorem gtr_no {a b : Int} (h : a ≤ b) (w : World) : (binOp .gtr 3 (.int .i64 a) (.int .i64 b)).run Tryz.prog w = .ok (.bool false) w := by
  have : ¬ b < a := by omega
  go_simp
theorem lss_yes {a b : Int} (h : a < b) (w : World) : (binOp .lss 3 (.int .i64 a) (.int .i64 b)).run Tryz.prog w = .ok (.bool true) w := by go_simp
theorem lss_no {a b : Int} (h : b ≤ a) (w : World) : (binOp .lss 3 (.int .i64 a) (.int .i64 b)).run Tryz.prog w = .ok (.bool false) w := by
  have : ¬ a < b := by omega
  go_simp
theorem geq_yes {a b : Int} (h : b ≤ a) (w : World) : (binOp .geq 3 (.int .i64 a) (.int .i64 b)).run Tryz.prog w = .ok (.bool true) w := by go_simp
theorem geq_no {a b : Int} (h : a < b) (w : World) : (binOp .geq 3 (.int .i64 a) (.int .i64 b)).run Tryz.prog w = .ok (.bool false) w := by
  have : ¬ b ≤ a := by omega
  go_simp
theorem sub_one (k : Nat) (h : k ≤ 1000000) (w : World) : (binOp .sub 3 (.int .i64 ((k + 1 : Nat) : Int)) (.int .i64 1)).run Tryz.prog w = .ok (.int .i64 (k : Int)) w := by
  have h : IntKind.i64.wrap (k : Int) = (k : Int) := by simp [IntKind.wrap, IntKind.bits, IntKind.signed]; omega
  go_simp
/-- Two references, one behind the other, while they are asked. -/
structure PS (w : World) (ad : Addr) (i k : Nat) (x y : U) (W : World) : Prop where
  fst : CAt W (ad.add (i * 3)) x
  snd : CAt W (ad.add (k * 3)) y
  below : Below w.heap.size w W
theorem PS.on {w : World} {ad : Addr} {i k : Nat} {x y : U} {W W' : World} (h : PS w ad i k x y W) (hb : Below W.heap.size W W') : PS w ad i k x y W' := ⟨h.fst.on hb, h.snd.on hb, bchain h.below hb⟩
/-- A reference in its variable, and the one ahead of it, while they are asked. -/
structure QS (w : World) (vb : Nat) (ad : Addr) (i : Nat) (x y : U) (W : World) : Prop where
  var : CAt W ⟨vb, 0, none⟩ y
  fst : CAt W (ad.add (i * 3)) x
  below : Below w.heap.size w W
theorem QS.on {w : World} {vb : Nat} {ad : Addr} {i : Nat} {x y : U} {W W' : World} (h : QS w vb ad i x y W) (hb : Below W.heap.size W W') : QS w vb ad i x y W' := ⟨h.var.on hb, h.fst.on hb, bchain h.below hb⟩
abbrev uC9 (u : U) : Array Value := #[.int .i64 u.1.1, .int .i64 u.1.2, .int .i64 u.2]

set_option maxRecDepth 20000 in
set_option maxHeartbeats 2000000 in
theorem refRefs_list (v : Value) (l : List U) (w : World) (hv : refsIn w v l) (hn : l.length ≤ 1000000) :
    Calls Tryz.prog 137 #[v] w fun e w' => e = .returned (.bool (Os.ups l)) ∧ Below w.heap.size w w' := by
  obtain ⟨ao, c, rfl, _, _, hc⟩ := hv
  have HC : Hid (∀ k (h : k < l.length), ∃ ad, ao = some ad ∧ CAt w (ad.add (k * 3)) l[k]) := hc
  clear hc
  obtain ⟨n, hn0⟩ : ∃ n, n = l.length := ⟨_, rfl⟩
  have HN : Hid (n = l.length) := hn0
  rw [← hn0] at hn ⊢
  clear hn0
  go_enter Tryz.func137, Tryz.ntmps137
  go_wp2
  go_loopw [3] (fun i wr => ∃ k : Nat, k ≤ n ∧ i = .int .i64 k ∧ Hid (Os.Ups (l.take k)) ∧ Below w.heap.size w wr) (fun i _ => n - (intOf i).toNat)
  case atStart => exact ⟨0, by omega, rfl, by have h := Os.ups_nil; exact h, Below.refl _ w⟩
  case round =>
    obtain ⟨k0, hk, rfl, HS, hbw⟩ := hrel
    by_cases hlt : k0 < n
    · have hkl : k0 < l.length := by have := HN.out; omega
      obtain ⟨ad, rfl, hA⟩ := HC.out k0 hkl
      have hA := hA.on hbw
      have hA9 := hA
      have HO := fun W => D.refRight_any (l[k0]).1.1 (l[k0]).1.2 W
      have hop := Os.ok_parts l[k0]
      have hi0 : (0 : Int) ≤ (k0 : Int) := by omega
      have hi1 : (k0 : Int) < (n : Int) := by omega
      cases hq : Dt.right (l[k0]).1.1 (l[k0]).1.2 with
      | false =>
        rw [hq] at HO hop
        have HL : Hid (Os.ups l = false) := by have h := Os.not_ok hkl hop; exact h
        clear hq hop
        generalize l[k0] = y at *
        obtain ⟨c0, c1, c2⟩ := hA9
        clear hA
        go_wp2_with (go_at_call 102; refine (HO _).mono ?_; rintro e w1 ⟨rfl, hb1⟩)
        go_ret
        exact ⟨ret_bool HL.out.symm, bchain hbw hb1⟩
      | true =>
       rw [hq] at HO hop
       by_cases hN1 : 0 ≤ (l[k0]).2
       rotate_left
       · have HL : Hid (Os.ups l = false) := by
           rw [decide_eq_false hN1] at hop
           have h := Os.not_ok hkl hop
           exact h
         clear hq hop
         have hN1 : (l[k0]).2 < 0 := by omega
         generalize l[k0] = y at *
         obtain ⟨c0, c1, c2⟩ := hA9
         go_wp2_with (go_at_call 102; refine (HO _).mono ?_; rintro e w1 ⟨rfl, hb1⟩; obtain ⟨k0', k1', k2'⟩ := hA.on hb1)
         go_ret
         exact ⟨ret_bool HL.out.symm, bchain hbw hb1⟩
       have hN1' : ¬ (l[k0]).2 < 0 := by omega
       by_cases hN2 : (l[k0]).2 ≤ 15
       rotate_left
       · have HL : Hid (Os.ups l = false) := by
           rw [decide_eq_true hN1, decide_eq_false hN2] at hop
           have h := Os.not_ok hkl hop
           exact h
         clear hq hop
         have hN2 : 15 < (l[k0]).2 := by omega
         generalize l[k0] = y at *
         obtain ⟨c0, c1, c2⟩ := hA9
         go_wp2_with (go_at_call 102; refine (HO _).mono ?_; rintro e w1 ⟨rfl, hb1⟩; obtain ⟨k0', k1', k2'⟩ := hA.on hb1)
         go_ret
         exact ⟨ret_bool HL.out.symm, bchain hbw hb1⟩
       rw [decide_eq_true hN1, decide_eq_true hN2] at hop
       have hN2' : ¬ 15 < (l[k0]).2 := by omega
       cases k0 with
       | zero =>
         have HS' : Hid (Os.Ups (l.take (0 + 1))) := by have h := Os.ups_step HS.out hkl hop (Or.inl rfl); exact h
         clear hop hq
         have hA9' : CAt wr ad l[0] := by simpa [Addr.add] using hA9
         generalize l[0] = y at *
         obtain ⟨c0, c1, c2⟩ := hA9'
         go_wp2_with (go_at_call 102; refine (HO _).mono ?_; rintro e w0 ⟨rfl, hb0⟩; obtain ⟨k0', k1', k2'⟩ := CAt.on (show CAt wr ad y from ⟨c0, c1, c2⟩) hb0; have hPS : PS w ad 0 0 y y w0.drew := ⟨(hA.on hb0).on (Below.refl _ _).drew, (hA.on hb0).on (Below.refl _ _).drew, (bchain hbw hb0).drew⟩)
         refine wp_region_held_drew (S := fun W => PS w ad 0 0 y y W) (by kernel_rfl) (hPS) (fun hH0 => ?_)
         refine held_take (i := 0) (o := { dst := some 33, op := Op.move (Operand.tmp 3), type := 3, pos := "ref.go:39", after := #[], guard := none }) (v := .int .i64 ((0 : Nat) : Int)) (by kernel_rfl) (by kernel_rfl) (by kernel_rfl) (by kernel_rfl) (fun _ _ _ h => h) (by kernel_rfl) (fun _ _ => by kernel_rfl) hH0 ?_
         refine held_take (i := 1) (o := { dst := some 34, op := Op.binOp BinOp.gtr 3 (Operand.tmp 33) (Operand.const (Value.int IntKind.i64 0)) 3, type := 4, pos := "ref.go:39", after := #[{ on := 0, ground := Ground.data }], guard := none }) (v := .bool false) (by kernel_rfl) (by kernel_rfl) (by kernel_rfl) (by kernel_rfl) (fun _ _ _ h => h) (by kernel_rfl) (fun W _ => exec_bin rfl (by kernel_rfl) (by kernel_rfl) (fun _ => by kernel_rfl) (gtr_no (a := ((0 : Nat) : Int)) (b := 0) (by omega)) W) hH0 ?_
         refine held_take (i := 2) (o := { dst := some 35, op := Op.move (Operand.tmp 34), type := 4, pos := "ref.go:39", after := #[{ on := 1, ground := Ground.data }], guard := none }) (v := .bool false) (by kernel_rfl) (by kernel_rfl) (by kernel_rfl) (by kernel_rfl) (fun _ _ _ h => h) (by kernel_rfl) (fun _ _ => by kernel_rfl) hH0 ?_
         refine held_skip (i := 3) (o := { dst := some 36, op := Op.move (Operand.tmp 0), type := 63, pos := "ref.go:39", after := #[{ on := 2, ground := Ground.guard }], guard := some (2, true) }) (by kernel_rfl) (by kernel_rfl) (by kernel_rfl) (by kernel_rfl) (fun _ _ _ h => h) (by kernel_rfl) hH0 ?_
         refine held_skip (i := 4) (o := { dst := some 37, op := Op.move (Operand.tmp 3), type := 3, pos := "ref.go:39", after := #[{ on := 2, ground := Ground.guard }], guard := some (2, true) }) (by kernel_rfl) (by kernel_rfl) (by kernel_rfl) (by kernel_rfl) (fun _ _ _ h => h) (by kernel_rfl) hH0 ?_
         refine held_skip (i := 5) (o := { dst := some 38, op := Op.binOp BinOp.sub 3 (Operand.tmp 37) (Operand.const (Value.int IntKind.i64 1)) 3, type := 3, pos := "ref.go:39", after := #[{ on := 4, ground := Ground.data }, { on := 2, ground := Ground.guard }], guard := some (2, true) }) (by kernel_rfl) (by kernel_rfl) (by kernel_rfl) (by kernel_rfl) (fun _ _ _ h => h) (by kernel_rfl) hH0 ?_
         refine held_skip (i := 6) (o := { dst := some 39, op := Op.indexAddr 63 (Operand.tmp 36) (Operand.tmp 38), type := 0, pos := "ref.go:39", after := #[{ on := 3, ground := Ground.data }, { on := 5, ground := Ground.data }, { on := 2, ground := Ground.guard }], guard := some (2, true) }) (by kernel_rfl) (by kernel_rfl) (by kernel_rfl) (by kernel_rfl) (fun _ _ _ h => h) (by kernel_rfl) hH0 ?_
         refine held_skip (i := 7) (o := { dst := some 40, op := Op.load 70 (Operand.tmp 39), type := 70, pos := "ref.go:39", after := #[{ on := 6, ground := Ground.data }, { on := 2, ground := Ground.guard }], guard := some (2, true) }) (by kernel_rfl) (by kernel_rfl) (by kernel_rfl) (by kernel_rfl) (fun _ _ _ h => h) (by kernel_rfl) hH0 ?_
         refine held_skip (i := 8) (o := { dst := some 41, op := Op.move (Operand.tmp 0), type := 63, pos := "ref.go:39", after := #[{ on := 2, ground := Ground.guard }], guard := some (2, true) }) (by kernel_rfl) (by kernel_rfl) (by kernel_rfl) (by kernel_rfl) (fun _ _ _ h => h) (by kernel_rfl) hH0 ?_
         refine held_skip (i := 9) (o := { dst := some 42, op := Op.move (Operand.tmp 3), type := 3, pos := "ref.go:39", after := #[{ on := 2, ground := Ground.guard }], guard := some (2, true) }) (by kernel_rfl) (by kernel_rfl) (by kernel_rfl) (by kernel_rfl) (fun _ _ _ h => h) (by kernel_rfl) hH0 ?_
         refine held_skip (i := 10) (o := { dst := some 43, op := Op.indexAddr 63 (Operand.tmp 41) (Operand.tmp 42), type := 0, pos := "ref.go:39", after := #[{ on := 8, ground := Ground.data }, { on := 9, ground := Ground.data }, { on := 2, ground := Ground.guard }], guard := some (2, true) }) (by kernel_rfl) (by kernel_rfl) (by kernel_rfl) (by kernel_rfl) (fun _ _ _ h => h) (by kernel_rfl) hH0 ?_
         refine held_skip (i := 11) (o := { dst := some 44, op := Op.load 70 (Operand.tmp 43), type := 70, pos := "ref.go:39", after := #[{ on := 10, ground := Ground.data }, { on := 2, ground := Ground.guard }], guard := some (2, true) }) (by kernel_rfl) (by kernel_rfl) (by kernel_rfl) (by kernel_rfl) (fun _ _ _ h => h) (by kernel_rfl) hH0 ?_
         refine held_skip (i := 12) (o := { dst := some 45, op := Op.call { callee := Callee.value (Operand.func 173), args := #[Operand.tmp 40, Operand.tmp 44], argTypes := #[70, 70] }, type := 3, pos := "ref.go:39", after := #[{ on := 7, ground := Ground.data }, { on := 11, ground := Ground.data }, { on := 2, ground := Ground.chain }, { on := 2, ground := Ground.guard }], guard := some (2, true) }) (by kernel_rfl) (by kernel_rfl) (by kernel_rfl) (by kernel_rfl) (fun _ _ _ h => h) (by kernel_rfl) hH0 ?_
         refine held_skip (i := 13) (o := { dst := some 46, op := Op.binOp BinOp.neq 3 (Operand.tmp 45) (Operand.const (Value.int IntKind.i64 (-1))) 3, type := 4, pos := "ref.go:39", after := #[{ on := 12, ground := Ground.data }, { on := 2, ground := Ground.guard }], guard := some (2, true) }) (by kernel_rfl) (by kernel_rfl) (by kernel_rfl) (by kernel_rfl) (fun _ _ _ h => h) (by kernel_rfl) hH0 ?_
         refine held_take (i := 14) (o := { dst := some 47, op := Op.pick (Operand.tmp 35) (Operand.tmp 46) (Operand.const (Value.bool false)), type := 4, pos := "ref.go:39", after := #[{ on := 2, ground := Ground.data }, { on := 13, ground := Ground.data }], guard := none }) (v := .bool false) (by kernel_rfl) (by kernel_rfl) (by kernel_rfl) (by kernel_rfl) (fun _ _ _ h => h) (by kernel_rfl) (fun _ _ => by kernel_rfl) hH0 ?_
         refine wpAnyH_done (by kernel_rfl) ?_ _
         simp only [Act.put, List.setIfInBounds_toArray, List.set_cons_zero, List.set_cons_succ]
         go_wp2
         go_roundw
         case rel => exact ⟨1, by omega, by go_num, HS', hH0.below⟩
         case measure => simp [intOf]; omega
       | succ i0 =>
         obtain ⟨ad', ha', hX⟩ := HC.out i0 (by omega)
         cases ha'
         have hX := hX.on hbw
         have HQ := fun W => refCmpR_any l[i0] l[i0 + 1] W
         have hcn := Os.comp_neg (x := l[i0]) (y := l[i0 + 1])
         have hlt0 : i0 < n := by omega
         have hk0 : (0 : Int) < ((i0 + 1 : Nat) : Int) := by omega
         have hsub := sub_one i0 (by omega)
         by_cases hl : Os.lt l[i0] l[i0 + 1]
         · have HS' : Hid (Os.Ups (l.take (i0 + 1 + 1))) := by have h := Os.ups_step HS.out hkl hop (Or.inr ⟨by omega, hl⟩); exact h
           have hz := hcn.2 hl
           clear hcn hl HS hop hq
           generalize Os.comp l[i0] l[i0 + 1] = z at *
           generalize l[i0] = x at *
           generalize l[i0 + 1] = y at *
           obtain ⟨k0, hk9⟩ : ∃ k0, k0 = i0 + 1 := ⟨_, rfl⟩
           rw [← hk9] at hsub hk0 hlt hi0 hi1 HS' hA9 hk hA ⊢
           obtain ⟨c0, c1, c2⟩ := hA9
           clear hk9
           go_wp2_with (go_at_call 102; refine (HO _).mono ?_; rintro e w0 ⟨rfl, hb0⟩; obtain ⟨k0', k1', k2'⟩ := CAt.on (show CAt wr (ad.add (k0 * 3)) y from ⟨c0, c1, c2⟩) hb0; have hPS : PS w ad i0 k0 x y w0.drew := ⟨(hX.on hb0).on (Below.refl _ _).drew, (hA.on hb0).on (Below.refl _ _).drew, (bchain hbw hb0).drew⟩)
           refine wp_region_held_drew (S := fun W => PS w ad i0 k0 x y W) (by kernel_rfl) (hPS) (fun hH0 => ?_)
           refine held_take (i := 0) (o := { dst := some 33, op := Op.move (Operand.tmp 3), type := 3, pos := "ref.go:39", after := #[], guard := none }) (v := .int .i64 (k0 : Int)) (by kernel_rfl) (by kernel_rfl) (by kernel_rfl) (by kernel_rfl) (fun _ _ _ h => h) (by kernel_rfl) (fun _ _ => by kernel_rfl) hH0 ?_
           refine held_take (i := 1) (o := { dst := some 34, op := Op.binOp BinOp.gtr 3 (Operand.tmp 33) (Operand.const (Value.int IntKind.i64 0)) 3, type := 4, pos := "ref.go:39", after := #[{ on := 0, ground := Ground.data }], guard := none }) (v := .bool true) (by kernel_rfl) (by kernel_rfl) (by kernel_rfl) (by kernel_rfl) (fun _ _ _ h => h) (by kernel_rfl) (fun W _ => exec_bin rfl (by kernel_rfl) (by kernel_rfl) (fun _ => by kernel_rfl) (gtr_yes hk0) W) hH0 ?_
           refine held_take (i := 2) (o := { dst := some 35, op := Op.move (Operand.tmp 34), type := 4, pos := "ref.go:39", after := #[{ on := 1, ground := Ground.data }], guard := none }) (v := .bool true) (by kernel_rfl) (by kernel_rfl) (by kernel_rfl) (by kernel_rfl) (fun _ _ _ h => h) (by kernel_rfl) (fun _ _ => by kernel_rfl) hH0 ?_
           refine held_take (i := 3) (o := { dst := some 36, op := Op.move (Operand.tmp 0), type := 63, pos := "ref.go:39", after := #[{ on := 2, ground := Ground.guard }], guard := some (2, true) }) (v := .slice (some ad) n c) (by kernel_rfl) (by kernel_rfl) (by kernel_rfl) (by kernel_rfl) (fun _ _ _ h => h) (by kernel_rfl) (fun _ _ => by kernel_rfl) hH0 ?_
           refine held_take (i := 4) (o := { dst := some 37, op := Op.move (Operand.tmp 3), type := 3, pos := "ref.go:39", after := #[{ on := 2, ground := Ground.guard }], guard := some (2, true) }) (v := .int .i64 (k0 : Int)) (by kernel_rfl) (by kernel_rfl) (by kernel_rfl) (by kernel_rfl) (fun _ _ _ h => h) (by kernel_rfl) (fun _ _ => by kernel_rfl) hH0 ?_
           refine held_take (i := 5) (o := { dst := some 38, op := Op.binOp BinOp.sub 3 (Operand.tmp 37) (Operand.const (Value.int IntKind.i64 1)) 3, type := 3, pos := "ref.go:39", after := #[{ on := 4, ground := Ground.data }, { on := 2, ground := Ground.guard }], guard := some (2, true) }) (v := .int .i64 (i0 : Int)) (by kernel_rfl) (by kernel_rfl) (by kernel_rfl) (by kernel_rfl) (fun _ _ _ h => h) (by kernel_rfl) (fun W _ => exec_bin rfl (by kernel_rfl) (by kernel_rfl) (fun _ => by kernel_rfl) (hsub) W) hH0 ?_
           refine held_take (i := 6) (o := { dst := some 39, op := Op.indexAddr 63 (Operand.tmp 36) (Operand.tmp 38), type := 0, pos := "ref.go:39", after := #[{ on := 3, ground := Ground.data }, { on := 5, ground := Ground.data }, { on := 2, ground := Ground.guard }], guard := some (2, true) }) (v := .pointer (some (ad.add (i0 * 3)))) (by kernel_rfl) (by kernel_rfl) (by kernel_rfl) (by kernel_rfl) (fun _ _ _ h => h) (by kernel_rfl) (fun W _ => exec_idx (n := n) (c := c) (k := i0) rfl (by kernel_rfl) (by kernel_rfl) hlt0 W) hH0 ?_
           refine held_take (i := 7) (o := { dst := some 40, op := Op.load 70 (Operand.tmp 39), type := 70, pos := "ref.go:39", after := #[{ on := 6, ground := Ground.data }, { on := 2, ground := Ground.guard }], guard := some (2, true) }) (v := uV x) (by kernel_rfl) (by kernel_rfl) (by kernel_rfl) (by kernel_rfl) (fun _ _ _ h => h) (by kernel_rfl) (fun _ h => exec_ldU rfl (by kernel_rfl) h.fst) hH0 ?_
           refine held_take (i := 8) (o := { dst := some 41, op := Op.move (Operand.tmp 0), type := 63, pos := "ref.go:39", after := #[{ on := 2, ground := Ground.guard }], guard := some (2, true) }) (v := .slice (some ad) n c) (by kernel_rfl) (by kernel_rfl) (by kernel_rfl) (by kernel_rfl) (fun _ _ _ h => h) (by kernel_rfl) (fun _ _ => by kernel_rfl) hH0 ?_
           refine held_take (i := 9) (o := { dst := some 42, op := Op.move (Operand.tmp 3), type := 3, pos := "ref.go:39", after := #[{ on := 2, ground := Ground.guard }], guard := some (2, true) }) (v := .int .i64 (k0 : Int)) (by kernel_rfl) (by kernel_rfl) (by kernel_rfl) (by kernel_rfl) (fun _ _ _ h => h) (by kernel_rfl) (fun _ _ => by kernel_rfl) hH0 ?_
           refine held_take (i := 10) (o := { dst := some 43, op := Op.indexAddr 63 (Operand.tmp 41) (Operand.tmp 42), type := 0, pos := "ref.go:39", after := #[{ on := 8, ground := Ground.data }, { on := 9, ground := Ground.data }, { on := 2, ground := Ground.guard }], guard := some (2, true) }) (v := .pointer (some (ad.add (k0 * 3)))) (by kernel_rfl) (by kernel_rfl) (by kernel_rfl) (by kernel_rfl) (fun _ _ _ h => h) (by kernel_rfl) (fun W _ => exec_idx (n := n) (c := c) (k := k0) rfl (by kernel_rfl) (by kernel_rfl) hlt W) hH0 ?_
           refine held_take (i := 11) (o := { dst := some 44, op := Op.load 70 (Operand.tmp 43), type := 70, pos := "ref.go:39", after := #[{ on := 10, ground := Ground.data }, { on := 2, ground := Ground.guard }], guard := some (2, true) }) (v := uV y) (by kernel_rfl) (by kernel_rfl) (by kernel_rfl) (by kernel_rfl) (fun _ _ _ h => h) (by kernel_rfl) (fun _ h => exec_ldU rfl (by kernel_rfl) h.snd) hH0 ?_
           refine held_callX (i := 12) (o := { dst := some 45, op := Op.call { callee := Callee.value (Operand.func 173), args := #[Operand.tmp 40, Operand.tmp 44], argTypes := #[70, 70] }, type := 3, pos := "ref.go:39", after := #[{ on := 7, ground := Ground.data }, { on := 11, ground := Ground.data }, { on := 2, ground := Ground.chain }, { on := 2, ground := Ground.guard }], guard := some (2, true) }) (F := 173) (vs := #[uV x, uV y]) (by kernel_rfl) (by kernel_rfl) (by kernel_rfl) (fun _ => by kernel_rfl) (HQ _) ?_
           rintro e w1 ⟨rfl, hb1⟩
           have hH1 := hH0.on hb1
           refine ⟨.int .i64 z, rfl, hH1, ?_⟩
           refine held_take (i := 13) (o := { dst := some 46, op := Op.binOp BinOp.neq 3 (Operand.tmp 45) (Operand.const (Value.int IntKind.i64 (-1))) 3, type := 4, pos := "ref.go:39", after := #[{ on := 12, ground := Ground.data }, { on := 2, ground := Ground.guard }], guard := some (2, true) }) (v := .bool false) (by kernel_rfl) (by kernel_rfl) (by kernel_rfl) (by kernel_rfl) (fun _ _ _ h => h) (by kernel_rfl) (fun W _ => exec_bin rfl (by kernel_rfl) (by kernel_rfl) (fun _ => by kernel_rfl) (neqi_no hz) W) hH1 ?_
           refine held_take (i := 14) (o := { dst := some 47, op := Op.pick (Operand.tmp 35) (Operand.tmp 46) (Operand.const (Value.bool false)), type := 4, pos := "ref.go:39", after := #[{ on := 2, ground := Ground.data }, { on := 13, ground := Ground.data }], guard := none }) (v := .bool false) (by kernel_rfl) (by kernel_rfl) (by kernel_rfl) (by kernel_rfl) (fun _ _ _ h => h) (by kernel_rfl) (fun _ _ => by kernel_rfl) hH1 ?_
           refine wpAnyH_done (by kernel_rfl) ?_ _
           simp only [Act.put, List.setIfInBounds_toArray, List.set_cons_zero, List.set_cons_succ]
           go_wp2
           go_roundw
           case rel => exact ⟨k0 + 1, by omega, by go_num, HS', hH1.below⟩
           case measure => simp [intOf]; omega
         · have HL : Hid (Os.ups l = false) := by have h := Os.not_lt hkl hl; exact h
           have hz : Os.comp l[i0] l[i0 + 1] ≠ -1 := fun e => hl (hcn.1 e)
           clear hcn hl HS hop hq
           generalize Os.comp l[i0] l[i0 + 1] = z at *
           generalize l[i0] = x at *
           generalize l[i0 + 1] = y at *
           obtain ⟨k0, hk9⟩ : ∃ k0, k0 = i0 + 1 := ⟨_, rfl⟩
           rw [← hk9] at hsub hk0 hlt hi0 hi1  hA9 hk hA ⊢
           obtain ⟨c0, c1, c2⟩ := hA9
           clear hk9
           go_wp2_with (go_at_call 102; refine (HO _).mono ?_; rintro e w0 ⟨rfl, hb0⟩; obtain ⟨k0', k1', k2'⟩ := CAt.on (show CAt wr (ad.add (k0 * 3)) y from ⟨c0, c1, c2⟩) hb0; have hPS : PS w ad i0 k0 x y w0.drew := ⟨(hX.on hb0).on (Below.refl _ _).drew, (hA.on hb0).on (Below.refl _ _).drew, (bchain hbw hb0).drew⟩)
           refine wp_region_held_drew (S := fun W => PS w ad i0 k0 x y W) (by kernel_rfl) (hPS) (fun hH0 => ?_)
           refine held_take (i := 0) (o := { dst := some 33, op := Op.move (Operand.tmp 3), type := 3, pos := "ref.go:39", after := #[], guard := none }) (v := .int .i64 (k0 : Int)) (by kernel_rfl) (by kernel_rfl) (by kernel_rfl) (by kernel_rfl) (fun _ _ _ h => h) (by kernel_rfl) (fun _ _ => by kernel_rfl) hH0 ?_
           refine held_take (i := 1) (o := { dst := some 34, op := Op.binOp BinOp.gtr 3 (Operand.tmp 33) (Operand.const (Value.int IntKind.i64 0)) 3, type := 4, pos := "ref.go:39", after := #[{ on := 0, ground := Ground.data }], guard := none }) (v := .bool true) (by kernel_rfl) (by kernel_rfl) (by kernel_rfl) (by kernel_rfl) (fun _ _ _ h => h) (by kernel_rfl) (fun W _ => exec_bin rfl (by kernel_rfl) (by kernel_rfl) (fun _ => by kernel_rfl) (gtr_yes hk0) W) hH0 ?_
           refine held_take (i := 2) (o := { dst := some 35, op := Op.move (Operand.tmp 34), type := 4, pos := "ref.go:39", after := #[{ on := 1, ground := Ground.data }], guard := none }) (v := .bool true) (by kernel_rfl) (by kernel_rfl) (by kernel_rfl) (by kernel_rfl) (fun _ _ _ h => h) (by kernel_rfl) (fun _ _ => by kernel_rfl) hH0 ?_
           refine held_take (i := 3) (o := { dst := some 36, op := Op.move (Operand.tmp 0), type := 63, pos := "ref.go:39", after := #[{ on := 2, ground := Ground.guard }], guard := some (2, true) }) (v := .slice (some ad) n c) (by kernel_rfl) (by kernel_rfl) (by kernel_rfl) (by kernel_rfl) (fun _ _ _ h => h) (by kernel_rfl) (fun _ _ => by kernel_rfl) hH0 ?_
           refine held_take (i := 4) (o := { dst := some 37, op := Op.move (Operand.tmp 3), type := 3, pos := "ref.go:39", after := #[{ on := 2, ground := Ground.guard }], guard := some (2, true) }) (v := .int .i64 (k0 : Int)) (by kernel_rfl) (by kernel_rfl) (by kernel_rfl) (by kernel_rfl) (fun _ _ _ h => h) (by kernel_rfl) (fun _ _ => by kernel_rfl) hH0 ?_
           refine held_take (i := 5) (o := { dst := some 38, op := Op.binOp BinOp.sub 3 (Operand.tmp 37) (Operand.const (Value.int IntKind.i64 1)) 3, type := 3, pos := "ref.go:39", after := #[{ on := 4, ground := Ground.data }, { on := 2, ground := Ground.guard }], guard := some (2, true) }) (v := .int .i64 (i0 : Int)) (by kernel_rfl) (by kernel_rfl) (by kernel_rfl) (by kernel_rfl) (fun _ _ _ h => h) (by kernel_rfl) (fun W _ => exec_bin rfl (by kernel_rfl) (by kernel_rfl) (fun _ => by kernel_rfl) (hsub) W) hH0 ?_
           refine held_take (i := 6) (o := { dst := some 39, op := Op.indexAddr 63 (Operand.tmp 36) (Operand.tmp 38), type := 0, pos := "ref.go:39", after := #[{ on := 3, ground := Ground.data }, { on := 5, ground := Ground.data }, { on := 2, ground := Ground.guard }], guard := some (2, true) }) (v := .pointer (some (ad.add (i0 * 3)))) (by kernel_rfl) (by kernel_rfl) (by kernel_rfl) (by kernel_rfl) (fun _ _ _ h => h) (by kernel_rfl) (fun W _ => exec_idx (n := n) (c := c) (k := i0) rfl (by kernel_rfl) (by kernel_rfl) hlt0 W) hH0 ?_
           refine held_take (i := 7) (o := { dst := some 40, op := Op.load 70 (Operand.tmp 39), type := 70, pos := "ref.go:39", after := #[{ on := 6, ground := Ground.data }, { on := 2, ground := Ground.guard }], guard := some (2, true) }) (v := uV x) (by kernel_rfl) (by kernel_rfl) (by kernel_rfl) (by kernel_rfl) (fun _ _ _ h => h) (by kernel_rfl) (fun _ h => exec_ldU rfl (by kernel_rfl) h.fst) hH0 ?_
           refine held_take (i := 8) (o := { dst := some 41, op := Op.move (Operand.tmp 0), type := 63, pos := "ref.go:39", after := #[{ on := 2, ground := Ground.guard }], guard := some (2, true) }) (v := .slice (some ad) n c) (by kernel_rfl) (by kernel_rfl) (by kernel_rfl) (by kernel_rfl) (fun _ _ _ h => h) (by kernel_rfl) (fun _ _ => by kernel_rfl) hH0 ?_
           refine held_take (i := 9) (o := { dst := some 42, op := Op.move (Operand.tmp 3), type := 3, pos := "ref.go:39", after := #[{ on := 2, ground := Ground.guard }], guard := some (2, true) }) (v := .int .i64 (k0 : Int)) (by kernel_rfl) (by kernel_rfl) (by kernel_rfl) (by kernel_rfl) (fun _ _ _ h => h) (by kernel_rfl) (fun _ _ => by kernel_rfl) hH0 ?_
           refine held_take (i := 10) (o := { dst := some 43, op := Op.indexAddr 63 (Operand.tmp 41) (Operand.tmp 42), type := 0, pos := "ref.go:39", after := #[{ on := 8, ground := Ground.data }, { on := 9, ground := Ground.data }, { on := 2, ground := Ground.guard }], guard := some (2, true) }) (v := .pointer (some (ad.add (k0 * 3)))) (by kernel_rfl) (by kernel_rfl) (by kernel_rfl) (by kernel_rfl) (fun _ _ _ h => h) (by kernel_rfl) (fun W _ => exec_idx (n := n) (c := c) (k := k0) rfl (by kernel_rfl) (by kernel_rfl) hlt W) hH0 ?_
           refine held_take (i := 11) (o := { dst := some 44, op := Op.load 70 (Operand.tmp 43), type := 70, pos := "ref.go:39", after := #[{ on := 10, ground := Ground.data }, { on := 2, ground := Ground.guard }], guard := some (2, true) }) (v := uV y) (by kernel_rfl) (by kernel_rfl) (by kernel_rfl) (by kernel_rfl) (fun _ _ _ h => h) (by kernel_rfl) (fun _ h => exec_ldU rfl (by kernel_rfl) h.snd) hH0 ?_
           refine held_callX (i := 12) (o := { dst := some 45, op := Op.call { callee := Callee.value (Operand.func 173), args := #[Operand.tmp 40, Operand.tmp 44], argTypes := #[70, 70] }, type := 3, pos := "ref.go:39", after := #[{ on := 7, ground := Ground.data }, { on := 11, ground := Ground.data }, { on := 2, ground := Ground.chain }, { on := 2, ground := Ground.guard }], guard := some (2, true) }) (F := 173) (vs := #[uV x, uV y]) (by kernel_rfl) (by kernel_rfl) (by kernel_rfl) (fun _ => by kernel_rfl) (HQ _) ?_
           rintro e w1 ⟨rfl, hb1⟩
           have hH1 := hH0.on hb1
           refine ⟨.int .i64 z, rfl, hH1, ?_⟩
           refine held_take (i := 13) (o := { dst := some 46, op := Op.binOp BinOp.neq 3 (Operand.tmp 45) (Operand.const (Value.int IntKind.i64 (-1))) 3, type := 4, pos := "ref.go:39", after := #[{ on := 12, ground := Ground.data }, { on := 2, ground := Ground.guard }], guard := some (2, true) }) (v := .bool true) (by kernel_rfl) (by kernel_rfl) (by kernel_rfl) (by kernel_rfl) (fun _ _ _ h => h) (by kernel_rfl) (fun W _ => exec_bin rfl (by kernel_rfl) (by kernel_rfl) (fun _ => by kernel_rfl) (neqi_yes hz) W) hH1 ?_
           refine held_take (i := 14) (o := { dst := some 47, op := Op.pick (Operand.tmp 35) (Operand.tmp 46) (Operand.const (Value.bool false)), type := 4, pos := "ref.go:39", after := #[{ on := 2, ground := Ground.data }, { on := 13, ground := Ground.data }], guard := none }) (v := .bool true) (by kernel_rfl) (by kernel_rfl) (by kernel_rfl) (by kernel_rfl) (fun _ _ _ h => h) (by kernel_rfl) (fun _ _ => by kernel_rfl) hH1 ?_
           refine wpAnyH_done (by kernel_rfl) ?_ _
           simp only [Act.put, List.setIfInBounds_toArray, List.set_cons_zero, List.set_cons_succ]
           go_wp2
           go_ret
           exact ⟨ret_bool HL.out.symm, hH1.below⟩
    · obtain rfl : k0 = n := by omega
      have HL : Hid (Os.ups l = true) := by
        have h := HS.out
        rw [HN.out, List.take_length] at h
        have h2 := Os.ups_iff.2 h
        exact h2
      go_wp2
      go_ret
      exact ⟨ret_bool HL.out.symm, hbw⟩
end Go.Proofs.YthlhopdlkkeohaaGreatDoor.O
/- The walks of both Leafs, and of what the program asks of a kind. -/
namespace Go.Proofs.YthlhopdlkkeohaaGreatDoor.O
open Go.RowKit

/-- The kinds, one by one. -/
theorem kinds (k : Int) : k = 1 ∨ k = 2 ∨ k = 3 ∨ k = 4 ∨ k = 5 ∨ ((k == 1) = false ∧ (k == 2) = false ∧ (k == 3) = false ∧ (k == 4) = false ∧ (k == 5) = false ∧ k ≠ 1 ∧ k ≠ 2 ∧ k ≠ 3 ∧ k ≠ 4 ∧ k ≠ 5) := by
  by_cases h1 : k = 1
  · exact .inl h1
  by_cases h2 : k = 2
  · exact .inr (.inl h2)
  by_cases h3 : k = 3
  · exact .inr (.inr (.inl h3))
  by_cases h4 : k = 4
  · exact .inr (.inr (.inr (.inl h4)))
  by_cases h5 : k = 5
  · exact .inr (.inr (.inr (.inr (.inl h5))))
  exact .inr (.inr (.inr (.inr (.inr ⟨beq_eq_false_iff_ne.2 h1, beq_eq_false_iff_ne.2 h2, beq_eq_false_iff_ne.2 h3, beq_eq_false_iff_ne.2 h4, beq_eq_false_iff_ne.2 h5, h1, h2, h3, h4, h5⟩))))
theorem leaf_else {k : Int} (h1 : k ≠ 1) (h2 : k ≠ 2) (h3 : k ≠ 3) (h4 : k ≠ 4) : Os.leaf k = 0 := by
  unfold Os.leaf
  rw [if_neg h1, if_neg (by omega), if_neg h3]
set_option maxRecDepth 20000 in
theorem leaf_any (k : Int) (w : World) : Calls Tryz.prog 72 #[.int .i64 k] w fun e w' => e = .returned (.int .i64 (Os.leaf k)) ∧ w' = w := by
  rcases kinds k with rfl | rfl | rfl | rfl | rfl | ⟨e1, e2, e3, e4, e5, h1, h2, h3, h4, h5⟩
  rotate_right
  · rw [leaf_else h1 h2 h3 h4]
    clear h1 h2 h3 h4 h5
    go_enter Tryz.func72, Tryz.ntmps72
    go_wp2
    go_ret
    exact ⟨rfl, rfl⟩
  all_goals
    go_enter Tryz.func72, Tryz.ntmps72
    go_wp2
    go_ret
    exact ⟨rfl, rfl⟩
end Go.Proofs.YthlhopdlkkeohaaGreatDoor.O
