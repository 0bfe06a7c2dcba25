/- The walk of the program's Right. -/
import Derived.Test.YtenfbjlmfdiniaaWithin
import Derived.Test.YtenfbjlmfdiniaaBins
namespace Go.Proofs.Ytenfbjlmfdiniaa
open Go.RowKit Go.Shelf

theorem saidB_yes {P : Prop} (h : P) : saidB P (.returned (.bool true)) := ⟨true, rfl, fun _ => h, fun _ => rfl⟩
theorem saidB_no {P : Prop} (h : ¬ P) : saidB P (.returned (.bool false)) := ⟨false, rfl, fun e => (by cases e), fun e => absurd e h⟩
/-- What holds while a dot is looked at. -/
structure QR (w : World) (l : List Int) (v : Value) (b : Nat) (d : D) (W0 W : World) : Prop where
  set : SetAt W w.heap.size l v
  dot : DotAt W b d
  below : Below W0.heap.size W0 W
theorem QR.on {w : World} {l : List Int} {v : Value} {b : Nat} {d : D} {W0 W W' : World} (h : QR w l v b d W0 W) (hb : Below W.heap.size W W') : QR w l v b d W0 W' :=
  ⟨h.set.on hb, h.dot.on hb, bchain h.below hb⟩

set_option maxRecDepth 20000 in
set_option maxHeartbeats 1000000 in
theorem right_said (l : List Int) (hl : l.length = 16) (v : Value) (ds : List D) (w : World) (hd : dotsIn w v ds) (hn6 : ds.length ≤ 1000000) :
    Calls Try.prog 10 #[setV l v] w fun e w' => saidB (St.Std l ds ∧ ds.length ≤ 4096) e ∧ Below w.heap.size w w' := by
  obtain ⟨W0, hW0⟩ : ∃ W0, W0 = w.alloc (.cells (setC l v).toArray 26) := ⟨_, rfl⟩
  have hB0 : Below w.heap.size w W0 := by rw [hW0]; exact below_new _ _
  have hA0 : SetAt W0 w.heap.size l v := by rw [hW0]; exact SetAt.new w l v
  have HV := fun W => right_vec l hl W
  obtain ⟨ao, ca, rfl, _, hc⟩ := hd.on hB0
  have HC : Hid (∀ k (h : k < ds.length), ∃ ad, ao = some ad ∧ W0.cell? (ad.add (k * 2)) = some (.int .i64 (ds[k]).1) ∧ W0.cell? ⟨(ad.add (k * 2)).block, (ad.add (k * 2)).off + 1, none⟩ = some (.int .i64 (ds[k]).2)) := hc
  have HNO : Hid (∀ k, ¬ okAt l ds k → ¬ (St.Std l ds ∧ ds.length ≤ 4096)) := fun k hk e => hk (std_ok e.1 k)
  have HYE : Hid (Vc.right l = true → okTo l ds ds.length → ds.length ≤ 4096 → (St.Std l ds ∧ ds.length ≤ 4096)) := fun hv h h2 => ⟨ok_std hl hv h, h2⟩
  have HVN : Hid (Vc.right l = false → ¬ (St.Std l ds ∧ ds.length ≤ 4096)) := fun hv e => by have := e.1.vec; rw [hv] at this; cases this
  have HLN : Hid (¬ ds.length ≤ 4096 → ¬ (St.Std l ds ∧ ds.length ≤ 4096)) := fun hv e => hv e.2
  generalize (St.Std l ds ∧ ds.length ≤ 4096) = P at *
  obtain ⟨n, hn0⟩ : ∃ n, n = ds.length := ⟨_, rfl⟩
  have HN : Hid (n = ds.length) := hn0
  rw [← hn0] at hn6 hA0 HYE HLN hW0 ⊢
  have HA : Hid (SetAt W0 w.heap.size l (.slice ao n ca)) := hA0
  have HB : Hid (Below w.heap.size w W0) := hB0
  have HW : Hid (W0 = w.alloc (.cells (setC l (.slice ao n ca)).toArray 26)) := hW0
  rw [hW0] at hA0
  clear hW0 hd hB0 hc hn0
  cases hvr : Vc.right l with
  | false =>
    have HE : Hid (¬ P) := by have h := HVN.out hvr; exact h
    rw [hvr] at HV
    clear hvr
    go_enter Try.func10, Try.ntmps10
    go_wp2_with (first
      | (refine load_setVec rfl _ rfl w.heap.size l _ hl rfl hA0 ?_)
      | (go_at_call 44; refine (HV _).mono ?_; rintro e w1 ⟨rfl, hb1⟩))
    go_ret
    rw [← HW.out] at hb1
    exact ⟨saidB_no HE.out, bchain HB.out hb1⟩
  | true =>
    rw [hvr] at HV
    have HVR : Hid (Vc.right l = true) := hvr
    clear hvr
    by_cases hn : n ≤ 4096
    rotate_left
    · have HE : Hid (¬ P) := by have h := HLN.out hn; exact h
      have hn9 : (4096 : Int) < (n : Int) := by omega
      go_enter Try.func10, Try.ntmps10
      go_wp2_with (first
        | (refine load_setVec rfl _ rfl w.heap.size l _ hl rfl hA0 ?_)
        | (go_at_call 44; refine (HV _).mono ?_; rintro e w1 ⟨rfl, hb1⟩
           rw [← HW.out] at hb1
           have m1 := (HA.out.on hb1).more hl))
      go_ret
      exact ⟨saidB_no HE.out, bchain HB.out hb1⟩
    have hn9 : ¬ (4096 : Int) < (n : Int) := by omega
    go_enter Try.func10, Try.ntmps10
    go_wp2_with (first
      | (refine load_setVec rfl _ rfl w.heap.size l _ hl rfl hA0 ?_)
      | (go_at_call 44; refine (HV _).mono ?_; rintro e w1 ⟨rfl, hb1⟩
         rw [← HW.out] at hb1
         have m1 := (HA.out.on hb1).more hl))
    go_loopw [3, 4, 18] (fun _ _ i wr => ∃ k : Nat, k ≤ n ∧ i = .int .i64 k ∧ Hid (okTo l ds k) ∧ Below W0.heap.size W0 wr) (fun _ _ i _ => n - (intOf i).toNat)
    case atStart => exact ⟨0, by omega, rfl, okTo_zero _ _, hb1⟩
    case round =>
      clear hb1 m1
      obtain ⟨k, hk, rfl, HOK, hbw⟩ := hrel
      by_cases hlt : k < n
      · have hkd : k < ds.length := by have := HN.out; omega
        have hi0 : (0 : Int) ≤ (k : Int) := by omega
        have hi1 : (k : Int) < (n : Int) := by omega
        obtain ⟨ad, hao, c0, c1⟩ := HC.out k hkd
        subst hao
        have c0 := keep_cell hbw c0
        have c1 := keep_cell hbw c1
        have HPV : Hid (0 < k → ∃ pd : D, (∀ W, Below W0.heap.size W0 W → W.cell? (ad.add ((k - 1) * 2)) = some (.int .i64 pd.1) ∧ W.cell? ⟨(ad.add ((k - 1) * 2)).block, (ad.add ((k - 1) * 2)).off + 1, none⟩ = some (.int .i64 pd.2)) ∧ (¬ (0 ≤ Dt.comp pd.1 pd.2 (ds[k]).1 (ds[k]).2) ↔ ∀ h0 : 0 < k, St.lt (ds[k - 1]'(by omega)) ds[k])) := fun h0 => by
          have h' : k - 1 < ds.length := by omega
          obtain ⟨ad3, hao3, c3, c4⟩ := HC.out (k - 1) h'
          cases hao3
          refine ⟨ds[k - 1], fun W hW => ⟨keep_cell hW c3, keep_cell hW c4⟩, ⟨fun e _ => ?_, fun e => ?_⟩⟩
          · rcases Dt.comp_cases (ds[k - 1]).1 (ds[k - 1]).2 (ds[k]).1 (ds[k]).2 with ⟨h, e1⟩ | ⟨h1, h2, e1⟩ | ⟨h, e1⟩
            · exact lt_comp.2 e1
            · rw [e1] at e; omega
            · rw [e1] at e; omega
          · rw [lt_comp.1 (e h0)]; omega
        have HOA : Hid (okAt l ds k ↔ (rightD ds[k] = true ∧ St.at' l ds[k] + 1 < (ds[k]).2 ∧ ∀ h0 : 0 < k, St.lt (ds[k - 1]'(by omega)) ds[k])) := ⟨fun h => h hkd, fun h _ => h⟩
        generalize hP : (∀ h0 : 0 < k, St.lt (ds[k - 1]'(by omega)) ds[k]) = PP at *
        have HP0 : Hid (k = 0 → PP) := fun h0 => by rw [← hP]; exact fun h => absurd h (by omega)
        clear hP
        generalize ds[k] = d at *
        have HR := fun W => right_any d.1 d.2 W
        obtain ⟨W5, hW5⟩ : ∃ W5, W5 = wr.alloc (.cells #[.int .i64 d.1, .int .i64 d.2] 28) := ⟨_, rfl⟩
        have hQR : QR w l (.slice (some ad) n ca) wr.heap.size d W0 W5.drew := by
          rw [hW5]
          exact ⟨((HA.out.on hbw).alloc _).drew, (DotAt.new wr d).on (Below.refl _ _).drew, (bchain hbw (below_new _ _)).drew⟩
        cases hdr0 : rightD d with
        | false =>
          have HE : Hid (¬ P) := by have h := HNO.out k (fun h => by have := (HOA.out.1 h).1; rw [hdr0] at this; cases this); exact h
          have hr' : Dt.right d.1 d.2 = false := hdr0
          rw [hr'] at HR
          clear hdr0 hr' HOA HPV HP0
          go_wp2
          rw [← hW5]
          clear hW5
          refine wp_region_held_drew (S := QR w l (.slice (some ad) n ca) wr.heap.size d W0) (by kernel_rfl) (hQR) (fun hH0 => ?_)
          refine held_take (i := 0) (o := { dst := some 23, op := Op.load 28 (Operand.tmp 4), type := 28, pos := "dots.go:43", after := #[], guard := none }) (v := dV d) (by kernel_rfl) (by kernel_rfl) (by kernel_rfl) (by kernel_rfl) (fun _ _ _ h => h) (by kernel_rfl) (fun _ h => exec_dot rfl (by kernel_rfl) h.dot.1 h.dot.2) hH0 ?_
          refine held_callX (i := 1) (o := { dst := some 24, op := Op.call { callee := Callee.value (Operand.func 45), args := #[Operand.tmp 23], argTypes := #[28] }, type := 4, pos := "dots.go:43", after := #[{ on := 0, ground := Ground.data }], guard := none }) (F := 45) (vs := #[dV d]) (by kernel_rfl) (by kernel_rfl) (by kernel_rfl) (fun _ => by kernel_rfl) (HR _) ?_
          rintro e w1 ⟨rfl, hb1⟩
          have hH1 := hH0.on hb1
          refine ⟨.bool false, rfl, hH1, ?_⟩
          refine held_take (i := 2) (o := { dst := some 25, op := Op.unOp UnOp.not 4 (Operand.tmp 24), type := 4, pos := "dots.go:43", after := #[{ on := 1, ground := Ground.data }], guard := none }) (v := .bool true) (by kernel_rfl) (by kernel_rfl) (by kernel_rfl) (by kernel_rfl) (fun _ _ _ h => h) (by kernel_rfl) (fun W _ => exec_un rfl (by kernel_rfl) (not_of false) W) hH1 ?_
          refine held_take (i := 3) (o := { dst := some 26, op := Op.move (Operand.tmp 25), type := 4, pos := "dots.go:43", after := #[{ on := 2, ground := Ground.data }, { on := 1, ground := Ground.chain }], guard := none }) (v := .bool true) (by kernel_rfl) (by kernel_rfl) (by kernel_rfl) (by kernel_rfl) (fun _ _ _ h => h) (by kernel_rfl) (fun _ _ => by kernel_rfl) hH1 ?_
          refine held_skip (i := 4) (o := { dst := some 27, op := Op.fieldAddr 26 (Operand.tmp 1) 0, type := 0, pos := "dots.go:43", after := #[{ on := 3, ground := Ground.guard }], guard := some (3, false) }) (by kernel_rfl) (by kernel_rfl) (by kernel_rfl) (by kernel_rfl) (fun _ _ _ h => h) (by kernel_rfl) hH1 ?_
          refine held_skip (i := 5) (o := { dst := some 28, op := Op.load 23 (Operand.tmp 27), type := 23, pos := "dots.go:43", after := #[{ on := 4, ground := Ground.data }, { on := 3, ground := Ground.guard }], guard := some (3, false) }) (by kernel_rfl) (by kernel_rfl) (by kernel_rfl) (by kernel_rfl) (fun _ _ _ h => h) (by kernel_rfl) hH1 ?_
          refine held_skip (i := 6) (o := { dst := some 29, op := Op.load 28 (Operand.tmp 4), type := 28, pos := "dots.go:43", after := #[{ on := 3, ground := Ground.guard }], guard := some (3, false) }) (by kernel_rfl) (by kernel_rfl) (by kernel_rfl) (by kernel_rfl) (fun _ _ _ h => h) (by kernel_rfl) hH1 ?_
          refine held_skip (i := 7) (o := { dst := some 30, op := Op.call { callee := Callee.value (Operand.func 46), args := #[Operand.tmp 28, Operand.tmp 29], argTypes := #[23, 28] }, type := 4, pos := "dots.go:43", after := #[{ on := 5, ground := Ground.data }, { on := 6, ground := Ground.data }, { on := 3, ground := Ground.chain }, { on := 3, ground := Ground.guard }], guard := some (3, false) }) (by kernel_rfl) (by kernel_rfl) (by kernel_rfl) (by kernel_rfl) (fun _ _ _ h => h) (by kernel_rfl) hH1 ?_
          refine held_skip (i := 8) (o := { dst := some 31, op := Op.unOp UnOp.not 4 (Operand.tmp 30), type := 4, pos := "dots.go:43", after := #[{ on := 7, ground := Ground.data }, { on := 3, ground := Ground.guard }], guard := some (3, false) }) (by kernel_rfl) (by kernel_rfl) (by kernel_rfl) (by kernel_rfl) (fun _ _ _ h => h) (by kernel_rfl) hH1 ?_
          refine held_take (i := 9) (o := { dst := some 32, op := Op.pick (Operand.tmp 26) (Operand.const (Value.bool true)) (Operand.tmp 31), type := 4, pos := "dots.go:43", after := #[{ on := 3, ground := Ground.data }, { on := 8, ground := Ground.data }], guard := none }) (v := .bool true) (by kernel_rfl) (by kernel_rfl) (by kernel_rfl) (by kernel_rfl) (fun _ _ _ h => h) (by kernel_rfl) (fun _ _ => by kernel_rfl) hH1 ?_
          refine held_take (i := 10) (o := { dst := some 33, op := Op.move (Operand.tmp 32), type := 4, pos := "dots.go:43", after := #[{ on := 9, ground := Ground.data }, { on := 7, ground := Ground.chain }], guard := none }) (v := .bool true) (by kernel_rfl) (by kernel_rfl) (by kernel_rfl) (by kernel_rfl) (fun _ _ _ h => h) (by kernel_rfl) (fun _ _ => by kernel_rfl) hH1 ?_
          refine held_skip (i := 11) (o := { dst := some 34, op := Op.move (Operand.tmp 3), type := 3, pos := "dots.go:43", after := #[{ on := 10, ground := Ground.guard }], guard := some (10, false) }) (by kernel_rfl) (by kernel_rfl) (by kernel_rfl) (by kernel_rfl) (fun _ _ _ h => h) (by kernel_rfl) hH1 ?_
          refine held_skip (i := 12) (o := { dst := some 35, op := Op.binOp BinOp.gtr 3 (Operand.tmp 34) (Operand.const (Value.int IntKind.i64 0)) 3, type := 4, pos := "dots.go:43", after := #[{ on := 11, ground := Ground.data }, { on := 10, ground := Ground.guard }], guard := some (10, false) }) (by kernel_rfl) (by kernel_rfl) (by kernel_rfl) (by kernel_rfl) (fun _ _ _ h => h) (by kernel_rfl) hH1 ?_
          refine held_skip (i := 13) (o := { dst := some 36, op := Op.move (Operand.tmp 35), type := 4, pos := "dots.go:43", after := #[{ on := 12, ground := Ground.data }, { on := 10, ground := Ground.chain }, { on := 10, ground := Ground.guard }], guard := some (10, false) }) (by kernel_rfl) (by kernel_rfl) (by kernel_rfl) (by kernel_rfl) (fun _ _ _ h => h) (by kernel_rfl) hH1 ?_
          refine held_skip (i := 14) (o := { dst := some 37, op := Op.fieldAddr 26 (Operand.tmp 1) 1, type := 0, pos := "dots.go:43", after := #[{ on := 13, ground := Ground.guard }], guard := some (13, true) }) (by kernel_rfl) (by kernel_rfl) (by kernel_rfl) (by kernel_rfl) (fun _ _ _ h => h) (by kernel_rfl) hH1 ?_
          refine held_skip (i := 15) (o := { dst := some 38, op := Op.load 24 (Operand.tmp 37), type := 24, pos := "dots.go:43", after := #[{ on := 14, ground := Ground.data }, { on := 13, ground := Ground.guard }], guard := some (13, true) }) (by kernel_rfl) (by kernel_rfl) (by kernel_rfl) (by kernel_rfl) (fun _ _ _ h => h) (by kernel_rfl) hH1 ?_
          refine held_skip (i := 16) (o := { dst := some 39, op := Op.move (Operand.tmp 3), type := 3, pos := "dots.go:43", after := #[{ on := 13, ground := Ground.guard }], guard := some (13, true) }) (by kernel_rfl) (by kernel_rfl) (by kernel_rfl) (by kernel_rfl) (fun _ _ _ h => h) (by kernel_rfl) hH1 ?_
          refine held_skip (i := 17) (o := { dst := some 40, op := Op.binOp BinOp.sub 3 (Operand.tmp 39) (Operand.const (Value.int IntKind.i64 1)) 3, type := 3, pos := "dots.go:43", after := #[{ on := 16, ground := Ground.data }, { on := 13, ground := Ground.guard }], guard := some (13, true) }) (by kernel_rfl) (by kernel_rfl) (by kernel_rfl) (by kernel_rfl) (fun _ _ _ h => h) (by kernel_rfl) hH1 ?_
          refine held_skip (i := 18) (o := { dst := some 41, op := Op.indexAddr 24 (Operand.tmp 38) (Operand.tmp 40), type := 0, pos := "dots.go:43", after := #[{ on := 15, ground := Ground.data }, { on := 17, ground := Ground.data }, { on := 13, ground := Ground.guard }], guard := some (13, true) }) (by kernel_rfl) (by kernel_rfl) (by kernel_rfl) (by kernel_rfl) (fun _ _ _ h => h) (by kernel_rfl) hH1 ?_
          refine held_skip (i := 19) (o := { dst := some 42, op := Op.load 28 (Operand.tmp 41), type := 28, pos := "dots.go:43", after := #[{ on := 18, ground := Ground.data }, { on := 13, ground := Ground.guard }], guard := some (13, true) }) (by kernel_rfl) (by kernel_rfl) (by kernel_rfl) (by kernel_rfl) (fun _ _ _ h => h) (by kernel_rfl) hH1 ?_
          refine held_skip (i := 20) (o := { dst := some 43, op := Op.load 28 (Operand.tmp 4), type := 28, pos := "dots.go:43", after := #[{ on := 13, ground := Ground.guard }], guard := some (13, true) }) (by kernel_rfl) (by kernel_rfl) (by kernel_rfl) (by kernel_rfl) (fun _ _ _ h => h) (by kernel_rfl) hH1 ?_
          refine held_skip (i := 21) (o := { dst := some 44, op := Op.call { callee := Callee.value (Operand.func 47), args := #[Operand.tmp 42, Operand.tmp 43], argTypes := #[28, 28] }, type := 3, pos := "dots.go:43", after := #[{ on := 19, ground := Ground.data }, { on := 20, ground := Ground.data }, { on := 13, ground := Ground.chain }, { on := 13, ground := Ground.guard }], guard := some (13, true) }) (by kernel_rfl) (by kernel_rfl) (by kernel_rfl) (by kernel_rfl) (fun _ _ _ h => h) (by kernel_rfl) hH1 ?_
          refine held_skip (i := 22) (o := { dst := some 45, op := Op.binOp BinOp.geq 3 (Operand.tmp 44) (Operand.const (Value.int IntKind.i64 0)) 3, type := 4, pos := "dots.go:43", after := #[{ on := 21, ground := Ground.data }, { on := 13, ground := Ground.guard }], guard := some (13, true) }) (by kernel_rfl) (by kernel_rfl) (by kernel_rfl) (by kernel_rfl) (fun _ _ _ h => h) (by kernel_rfl) hH1 ?_
          refine held_skip (i := 23) (o := { dst := some 46, op := Op.pick (Operand.tmp 36) (Operand.tmp 45) (Operand.const (Value.bool false)), type := 4, pos := "dots.go:43", after := #[{ on := 13, ground := Ground.data }, { on := 22, ground := Ground.data }, { on := 10, ground := Ground.guard }], guard := some (10, false) }) (by kernel_rfl) (by kernel_rfl) (by kernel_rfl) (by kernel_rfl) (fun _ _ _ h => h) (by kernel_rfl) hH1 ?_
          refine held_take (i := 24) (o := { dst := some 47, op := Op.pick (Operand.tmp 33) (Operand.const (Value.bool true)) (Operand.tmp 46), type := 4, pos := "dots.go:43", after := #[{ on := 10, ground := Ground.data }, { on := 23, ground := Ground.data }], guard := none }) (v := .bool true) (by kernel_rfl) (by kernel_rfl) (by kernel_rfl) (by kernel_rfl) (fun _ _ _ h => h) (by kernel_rfl) (fun _ _ => by kernel_rfl) hH1 ?_
          refine wpAnyH_done (by kernel_rfl) ?_ _
          simp only [Act.put, List.setIfInBounds_toArray, List.set_cons_zero, List.set_cons_succ]
          go_wp2
          go_ret
          exact ⟨saidB_no HE.out, bchain HB.out hH1.below⟩
        | true =>
          have hr' : Dt.right d.1 d.2 = true := hdr0
          rw [hr'] at HR
          have HG := fun W => gap_any l hl HVR.out d hdr0 W
          have HOA' : Hid (okAt l ds k ↔ (St.at' l d + 1 < d.2 ∧ PP)) := by
            have h : okAt l ds k ↔ (St.at' l d + 1 < d.2 ∧ PP) := by
              rw [HOA.out]
              exact ⟨fun h => h.2, fun h => ⟨hdr0, h⟩⟩
            exact h
          clear hr' HOA hdr0
          by_cases hg : St.at' l d + 1 < d.2
          rotate_left
          · have HE : Hid (¬ P) := by have h := HNO.out k (fun h => hg (HOA'.out.1 h).1); exact h
            rw [decide_eq_false hg] at HG
            clear hg HOA' HPV HP0
            go_wp2
            rw [← hW5]
            clear hW5
            refine wp_region_held_drew (S := QR w l (.slice (some ad) n ca) wr.heap.size d W0) (by kernel_rfl) (hQR) (fun hH0 => ?_)
            refine held_take (i := 0) (o := { dst := some 23, op := Op.load 28 (Operand.tmp 4), type := 28, pos := "dots.go:43", after := #[], guard := none }) (v := dV d) (by kernel_rfl) (by kernel_rfl) (by kernel_rfl) (by kernel_rfl) (fun _ _ _ h => h) (by kernel_rfl) (fun _ h => exec_dot rfl (by kernel_rfl) h.dot.1 h.dot.2) hH0 ?_
            refine held_callX (i := 1) (o := { dst := some 24, op := Op.call { callee := Callee.value (Operand.func 45), args := #[Operand.tmp 23], argTypes := #[28] }, type := 4, pos := "dots.go:43", after := #[{ on := 0, ground := Ground.data }], guard := none }) (F := 45) (vs := #[dV d]) (by kernel_rfl) (by kernel_rfl) (by kernel_rfl) (fun _ => by kernel_rfl) (HR _) ?_
            rintro e w1 ⟨rfl, hb1⟩
            have hH1 := hH0.on hb1
            refine ⟨.bool true, rfl, hH1, ?_⟩
            refine held_take (i := 2) (o := { dst := some 25, op := Op.unOp UnOp.not 4 (Operand.tmp 24), type := 4, pos := "dots.go:43", after := #[{ on := 1, ground := Ground.data }], guard := none }) (v := .bool false) (by kernel_rfl) (by kernel_rfl) (by kernel_rfl) (by kernel_rfl) (fun _ _ _ h => h) (by kernel_rfl) (fun W _ => exec_un rfl (by kernel_rfl) (not_of true) W) hH1 ?_
            refine held_take (i := 3) (o := { dst := some 26, op := Op.move (Operand.tmp 25), type := 4, pos := "dots.go:43", after := #[{ on := 2, ground := Ground.data }, { on := 1, ground := Ground.chain }], guard := none }) (v := .bool false) (by kernel_rfl) (by kernel_rfl) (by kernel_rfl) (by kernel_rfl) (fun _ _ _ h => h) (by kernel_rfl) (fun _ _ => by kernel_rfl) hH1 ?_
            refine held_take (i := 4) (o := { dst := some 27, op := Op.fieldAddr 26 (Operand.tmp 1) 0, type := 0, pos := "dots.go:43", after := #[{ on := 3, ground := Ground.guard }], guard := some (3, false) }) (v := .pointer (some ⟨w.heap.size, 0, none⟩)) (by kernel_rfl) (by kernel_rfl) (by kernel_rfl) (by kernel_rfl) (fun _ _ _ h => h) (by kernel_rfl) (fun _ _ => by kernel_rfl) hH1 ?_
            refine held_take (i := 5) (o := { dst := some 28, op := Op.load 23 (Operand.tmp 27), type := 23, pos := "dots.go:43", after := #[{ on := 4, ground := Ground.data }, { on := 3, ground := Ground.guard }], guard := some (3, false) }) (v := vecV l) (by kernel_rfl) (by kernel_rfl) (by kernel_rfl) (by kernel_rfl) (fun _ _ _ h => h) (by kernel_rfl) (fun _ h => exec_setVec rfl hl (by kernel_rfl) h.set) hH1 ?_
            refine held_take (i := 6) (o := { dst := some 29, op := Op.load 28 (Operand.tmp 4), type := 28, pos := "dots.go:43", after := #[{ on := 3, ground := Ground.guard }], guard := some (3, false) }) (v := dV d) (by kernel_rfl) (by kernel_rfl) (by kernel_rfl) (by kernel_rfl) (fun _ _ _ h => h) (by kernel_rfl) (fun _ h => exec_dot rfl (by kernel_rfl) h.dot.1 h.dot.2) hH1 ?_
            refine held_callX (i := 7) (o := { dst := some 30, op := Op.call { callee := Callee.value (Operand.func 46), args := #[Operand.tmp 28, Operand.tmp 29], argTypes := #[23, 28] }, type := 4, pos := "dots.go:43", after := #[{ on := 5, ground := Ground.data }, { on := 6, ground := Ground.data }, { on := 3, ground := Ground.chain }, { on := 3, ground := Ground.guard }], guard := some (3, false) }) (F := 46) (vs := #[vecV l, dV d]) (by kernel_rfl) (by kernel_rfl) (by kernel_rfl) (fun _ => by kernel_rfl) (HG _) ?_
            rintro e w2 ⟨rfl, hb2⟩
            have hH2 := hH1.on hb2
            refine ⟨.bool false, rfl, hH2, ?_⟩
            refine held_take (i := 8) (o := { dst := some 31, op := Op.unOp UnOp.not 4 (Operand.tmp 30), type := 4, pos := "dots.go:43", after := #[{ on := 7, ground := Ground.data }, { on := 3, ground := Ground.guard }], guard := some (3, false) }) (v := .bool true) (by kernel_rfl) (by kernel_rfl) (by kernel_rfl) (by kernel_rfl) (fun _ _ _ h => h) (by kernel_rfl) (fun W _ => exec_un rfl (by kernel_rfl) (not_of false) W) hH2 ?_
            refine held_take (i := 9) (o := { dst := some 32, op := Op.pick (Operand.tmp 26) (Operand.const (Value.bool true)) (Operand.tmp 31), type := 4, pos := "dots.go:43", after := #[{ on := 3, ground := Ground.data }, { on := 8, ground := Ground.data }], guard := none }) (v := .bool true) (by kernel_rfl) (by kernel_rfl) (by kernel_rfl) (by kernel_rfl) (fun _ _ _ h => h) (by kernel_rfl) (fun _ _ => by kernel_rfl) hH2 ?_
            refine held_take (i := 10) (o := { dst := some 33, op := Op.move (Operand.tmp 32), type := 4, pos := "dots.go:43", after := #[{ on := 9, ground := Ground.data }, { on := 7, ground := Ground.chain }], guard := none }) (v := .bool true) (by kernel_rfl) (by kernel_rfl) (by kernel_rfl) (by kernel_rfl) (fun _ _ _ h => h) (by kernel_rfl) (fun _ _ => by kernel_rfl) hH2 ?_
            refine held_skip (i := 11) (o := { dst := some 34, op := Op.move (Operand.tmp 3), type := 3, pos := "dots.go:43", after := #[{ on := 10, ground := Ground.guard }], guard := some (10, false) }) (by kernel_rfl) (by kernel_rfl) (by kernel_rfl) (by kernel_rfl) (fun _ _ _ h => h) (by kernel_rfl) hH2 ?_
            refine held_skip (i := 12) (o := { dst := some 35, op := Op.binOp BinOp.gtr 3 (Operand.tmp 34) (Operand.const (Value.int IntKind.i64 0)) 3, type := 4, pos := "dots.go:43", after := #[{ on := 11, ground := Ground.data }, { on := 10, ground := Ground.guard }], guard := some (10, false) }) (by kernel_rfl) (by kernel_rfl) (by kernel_rfl) (by kernel_rfl) (fun _ _ _ h => h) (by kernel_rfl) hH2 ?_
            refine held_skip (i := 13) (o := { dst := some 36, op := Op.move (Operand.tmp 35), type := 4, pos := "dots.go:43", after := #[{ on := 12, ground := Ground.data }, { on := 10, ground := Ground.chain }, { on := 10, ground := Ground.guard }], guard := some (10, false) }) (by kernel_rfl) (by kernel_rfl) (by kernel_rfl) (by kernel_rfl) (fun _ _ _ h => h) (by kernel_rfl) hH2 ?_
            refine held_skip (i := 14) (o := { dst := some 37, op := Op.fieldAddr 26 (Operand.tmp 1) 1, type := 0, pos := "dots.go:43", after := #[{ on := 13, ground := Ground.guard }], guard := some (13, true) }) (by kernel_rfl) (by kernel_rfl) (by kernel_rfl) (by kernel_rfl) (fun _ _ _ h => h) (by kernel_rfl) hH2 ?_
            refine held_skip (i := 15) (o := { dst := some 38, op := Op.load 24 (Operand.tmp 37), type := 24, pos := "dots.go:43", after := #[{ on := 14, ground := Ground.data }, { on := 13, ground := Ground.guard }], guard := some (13, true) }) (by kernel_rfl) (by kernel_rfl) (by kernel_rfl) (by kernel_rfl) (fun _ _ _ h => h) (by kernel_rfl) hH2 ?_
            refine held_skip (i := 16) (o := { dst := some 39, op := Op.move (Operand.tmp 3), type := 3, pos := "dots.go:43", after := #[{ on := 13, ground := Ground.guard }], guard := some (13, true) }) (by kernel_rfl) (by kernel_rfl) (by kernel_rfl) (by kernel_rfl) (fun _ _ _ h => h) (by kernel_rfl) hH2 ?_
            refine held_skip (i := 17) (o := { dst := some 40, op := Op.binOp BinOp.sub 3 (Operand.tmp 39) (Operand.const (Value.int IntKind.i64 1)) 3, type := 3, pos := "dots.go:43", after := #[{ on := 16, ground := Ground.data }, { on := 13, ground := Ground.guard }], guard := some (13, true) }) (by kernel_rfl) (by kernel_rfl) (by kernel_rfl) (by kernel_rfl) (fun _ _ _ h => h) (by kernel_rfl) hH2 ?_
            refine held_skip (i := 18) (o := { dst := some 41, op := Op.indexAddr 24 (Operand.tmp 38) (Operand.tmp 40), type := 0, pos := "dots.go:43", after := #[{ on := 15, ground := Ground.data }, { on := 17, ground := Ground.data }, { on := 13, ground := Ground.guard }], guard := some (13, true) }) (by kernel_rfl) (by kernel_rfl) (by kernel_rfl) (by kernel_rfl) (fun _ _ _ h => h) (by kernel_rfl) hH2 ?_
            refine held_skip (i := 19) (o := { dst := some 42, op := Op.load 28 (Operand.tmp 41), type := 28, pos := "dots.go:43", after := #[{ on := 18, ground := Ground.data }, { on := 13, ground := Ground.guard }], guard := some (13, true) }) (by kernel_rfl) (by kernel_rfl) (by kernel_rfl) (by kernel_rfl) (fun _ _ _ h => h) (by kernel_rfl) hH2 ?_
            refine held_skip (i := 20) (o := { dst := some 43, op := Op.load 28 (Operand.tmp 4), type := 28, pos := "dots.go:43", after := #[{ on := 13, ground := Ground.guard }], guard := some (13, true) }) (by kernel_rfl) (by kernel_rfl) (by kernel_rfl) (by kernel_rfl) (fun _ _ _ h => h) (by kernel_rfl) hH2 ?_
            refine held_skip (i := 21) (o := { dst := some 44, op := Op.call { callee := Callee.value (Operand.func 47), args := #[Operand.tmp 42, Operand.tmp 43], argTypes := #[28, 28] }, type := 3, pos := "dots.go:43", after := #[{ on := 19, ground := Ground.data }, { on := 20, ground := Ground.data }, { on := 13, ground := Ground.chain }, { on := 13, ground := Ground.guard }], guard := some (13, true) }) (by kernel_rfl) (by kernel_rfl) (by kernel_rfl) (by kernel_rfl) (fun _ _ _ h => h) (by kernel_rfl) hH2 ?_
            refine held_skip (i := 22) (o := { dst := some 45, op := Op.binOp BinOp.geq 3 (Operand.tmp 44) (Operand.const (Value.int IntKind.i64 0)) 3, type := 4, pos := "dots.go:43", after := #[{ on := 21, ground := Ground.data }, { on := 13, ground := Ground.guard }], guard := some (13, true) }) (by kernel_rfl) (by kernel_rfl) (by kernel_rfl) (by kernel_rfl) (fun _ _ _ h => h) (by kernel_rfl) hH2 ?_
            refine held_skip (i := 23) (o := { dst := some 46, op := Op.pick (Operand.tmp 36) (Operand.tmp 45) (Operand.const (Value.bool false)), type := 4, pos := "dots.go:43", after := #[{ on := 13, ground := Ground.data }, { on := 22, ground := Ground.data }, { on := 10, ground := Ground.guard }], guard := some (10, false) }) (by kernel_rfl) (by kernel_rfl) (by kernel_rfl) (by kernel_rfl) (fun _ _ _ h => h) (by kernel_rfl) hH2 ?_
            refine held_take (i := 24) (o := { dst := some 47, op := Op.pick (Operand.tmp 33) (Operand.const (Value.bool true)) (Operand.tmp 46), type := 4, pos := "dots.go:43", after := #[{ on := 10, ground := Ground.data }, { on := 23, ground := Ground.data }], guard := none }) (v := .bool true) (by kernel_rfl) (by kernel_rfl) (by kernel_rfl) (by kernel_rfl) (fun _ _ _ h => h) (by kernel_rfl) (fun _ _ => by kernel_rfl) hH2 ?_
            refine wpAnyH_done (by kernel_rfl) ?_ _
            simp only [Act.put, List.setIfInBounds_toArray, List.set_cons_zero, List.set_cons_succ]
            go_wp2
            go_ret
            exact ⟨saidB_no HE.out, bchain HB.out hH2.below⟩
          · rw [decide_eq_true hg] at HG
            go_wp2
            rw [← hW5]
            clear hW5
            by_cases hk0 : k = 0
            · subst hk0
              have HOK' : Hid (okTo l ds 1) := by have h := okTo_step HOK.out (HOA'.out.2 ⟨hg, HP0.out rfl⟩); exact h
              clear hg HOA' HPV HP0
              refine wp_region_held_drew (S := QR w l (.slice (some ad) n ca) wr.heap.size d W0) (by kernel_rfl) (hQR) (fun hH0 => ?_)
              refine held_take (i := 0) (o := { dst := some 23, op := Op.load 28 (Operand.tmp 4), type := 28, pos := "dots.go:43", after := #[], guard := none }) (v := dV d) (by kernel_rfl) (by kernel_rfl) (by kernel_rfl) (by kernel_rfl) (fun _ _ _ h => h) (by kernel_rfl) (fun _ h => exec_dot rfl (by kernel_rfl) h.dot.1 h.dot.2) hH0 ?_
              refine held_callX (i := 1) (o := { dst := some 24, op := Op.call { callee := Callee.value (Operand.func 45), args := #[Operand.tmp 23], argTypes := #[28] }, type := 4, pos := "dots.go:43", after := #[{ on := 0, ground := Ground.data }], guard := none }) (F := 45) (vs := #[dV d]) (by kernel_rfl) (by kernel_rfl) (by kernel_rfl) (fun _ => by kernel_rfl) (HR _) ?_
              rintro e w1 ⟨rfl, hb1⟩
              have hH1 := hH0.on hb1
              refine ⟨.bool true, rfl, hH1, ?_⟩
              refine held_take (i := 2) (o := { dst := some 25, op := Op.unOp UnOp.not 4 (Operand.tmp 24), type := 4, pos := "dots.go:43", after := #[{ on := 1, ground := Ground.data }], guard := none }) (v := .bool false) (by kernel_rfl) (by kernel_rfl) (by kernel_rfl) (by kernel_rfl) (fun _ _ _ h => h) (by kernel_rfl) (fun W _ => exec_un rfl (by kernel_rfl) (not_of true) W) hH1 ?_
              refine held_take (i := 3) (o := { dst := some 26, op := Op.move (Operand.tmp 25), type := 4, pos := "dots.go:43", after := #[{ on := 2, ground := Ground.data }, { on := 1, ground := Ground.chain }], guard := none }) (v := .bool false) (by kernel_rfl) (by kernel_rfl) (by kernel_rfl) (by kernel_rfl) (fun _ _ _ h => h) (by kernel_rfl) (fun _ _ => by kernel_rfl) hH1 ?_
              refine held_take (i := 4) (o := { dst := some 27, op := Op.fieldAddr 26 (Operand.tmp 1) 0, type := 0, pos := "dots.go:43", after := #[{ on := 3, ground := Ground.guard }], guard := some (3, false) }) (v := .pointer (some ⟨w.heap.size, 0, none⟩)) (by kernel_rfl) (by kernel_rfl) (by kernel_rfl) (by kernel_rfl) (fun _ _ _ h => h) (by kernel_rfl) (fun _ _ => by kernel_rfl) hH1 ?_
              refine held_take (i := 5) (o := { dst := some 28, op := Op.load 23 (Operand.tmp 27), type := 23, pos := "dots.go:43", after := #[{ on := 4, ground := Ground.data }, { on := 3, ground := Ground.guard }], guard := some (3, false) }) (v := vecV l) (by kernel_rfl) (by kernel_rfl) (by kernel_rfl) (by kernel_rfl) (fun _ _ _ h => h) (by kernel_rfl) (fun _ h => exec_setVec rfl hl (by kernel_rfl) h.set) hH1 ?_
              refine held_take (i := 6) (o := { dst := some 29, op := Op.load 28 (Operand.tmp 4), type := 28, pos := "dots.go:43", after := #[{ on := 3, ground := Ground.guard }], guard := some (3, false) }) (v := dV d) (by kernel_rfl) (by kernel_rfl) (by kernel_rfl) (by kernel_rfl) (fun _ _ _ h => h) (by kernel_rfl) (fun _ h => exec_dot rfl (by kernel_rfl) h.dot.1 h.dot.2) hH1 ?_
              refine held_callX (i := 7) (o := { dst := some 30, op := Op.call { callee := Callee.value (Operand.func 46), args := #[Operand.tmp 28, Operand.tmp 29], argTypes := #[23, 28] }, type := 4, pos := "dots.go:43", after := #[{ on := 5, ground := Ground.data }, { on := 6, ground := Ground.data }, { on := 3, ground := Ground.chain }, { on := 3, ground := Ground.guard }], guard := some (3, false) }) (F := 46) (vs := #[vecV l, dV d]) (by kernel_rfl) (by kernel_rfl) (by kernel_rfl) (fun _ => by kernel_rfl) (HG _) ?_
              rintro e w2 ⟨rfl, hb2⟩
              have hH2 := hH1.on hb2
              refine ⟨.bool true, rfl, hH2, ?_⟩
              refine held_take (i := 8) (o := { dst := some 31, op := Op.unOp UnOp.not 4 (Operand.tmp 30), type := 4, pos := "dots.go:43", after := #[{ on := 7, ground := Ground.data }, { on := 3, ground := Ground.guard }], guard := some (3, false) }) (v := .bool false) (by kernel_rfl) (by kernel_rfl) (by kernel_rfl) (by kernel_rfl) (fun _ _ _ h => h) (by kernel_rfl) (fun W _ => exec_un rfl (by kernel_rfl) (not_of true) W) hH2 ?_
              refine held_take (i := 9) (o := { dst := some 32, op := Op.pick (Operand.tmp 26) (Operand.const (Value.bool true)) (Operand.tmp 31), type := 4, pos := "dots.go:43", after := #[{ on := 3, ground := Ground.data }, { on := 8, ground := Ground.data }], guard := none }) (v := .bool false) (by kernel_rfl) (by kernel_rfl) (by kernel_rfl) (by kernel_rfl) (fun _ _ _ h => h) (by kernel_rfl) (fun _ _ => by kernel_rfl) hH2 ?_
              refine held_take (i := 10) (o := { dst := some 33, op := Op.move (Operand.tmp 32), type := 4, pos := "dots.go:43", after := #[{ on := 9, ground := Ground.data }, { on := 7, ground := Ground.chain }], guard := none }) (v := .bool false) (by kernel_rfl) (by kernel_rfl) (by kernel_rfl) (by kernel_rfl) (fun _ _ _ h => h) (by kernel_rfl) (fun _ _ => by kernel_rfl) hH2 ?_
              refine held_take (i := 11) (o := { dst := some 34, op := Op.move (Operand.tmp 3), type := 3, pos := "dots.go:43", after := #[{ on := 10, ground := Ground.guard }], guard := some (10, false) }) (v := .int .i64 ((0 : Nat) : Int)) (by kernel_rfl) (by kernel_rfl) (by kernel_rfl) (by kernel_rfl) (fun _ _ _ h => h) (by kernel_rfl) (fun _ _ => by kernel_rfl) hH2 ?_
              refine held_take (i := 12) (o := { dst := some 35, op := Op.binOp BinOp.gtr 3 (Operand.tmp 34) (Operand.const (Value.int IntKind.i64 0)) 3, type := 4, pos := "dots.go:43", after := #[{ on := 11, ground := Ground.data }, { on := 10, ground := Ground.guard }], guard := some (10, false) }) (v := .bool false) (by kernel_rfl) (by kernel_rfl) (by kernel_rfl) (by kernel_rfl) (fun _ _ _ h => h) (by kernel_rfl) (fun W _ => exec_bin rfl (by kernel_rfl) (by kernel_rfl) (fun _ => by kernel_rfl) (gtr_no (x := ((0 : Nat) : Int)) (y := 0) (by omega)) W) hH2 ?_
              refine held_take (i := 13) (o := { dst := some 36, op := Op.move (Operand.tmp 35), type := 4, pos := "dots.go:43", after := #[{ on := 12, ground := Ground.data }, { on := 10, ground := Ground.chain }, { on := 10, ground := Ground.guard }], guard := some (10, false) }) (v := .bool false) (by kernel_rfl) (by kernel_rfl) (by kernel_rfl) (by kernel_rfl) (fun _ _ _ h => h) (by kernel_rfl) (fun _ _ => by kernel_rfl) hH2 ?_
              refine held_skip (i := 14) (o := { dst := some 37, op := Op.fieldAddr 26 (Operand.tmp 1) 1, type := 0, pos := "dots.go:43", after := #[{ on := 13, ground := Ground.guard }], guard := some (13, true) }) (by kernel_rfl) (by kernel_rfl) (by kernel_rfl) (by kernel_rfl) (fun _ _ _ h => h) (by kernel_rfl) hH2 ?_
              refine held_skip (i := 15) (o := { dst := some 38, op := Op.load 24 (Operand.tmp 37), type := 24, pos := "dots.go:43", after := #[{ on := 14, ground := Ground.data }, { on := 13, ground := Ground.guard }], guard := some (13, true) }) (by kernel_rfl) (by kernel_rfl) (by kernel_rfl) (by kernel_rfl) (fun _ _ _ h => h) (by kernel_rfl) hH2 ?_
              refine held_skip (i := 16) (o := { dst := some 39, op := Op.move (Operand.tmp 3), type := 3, pos := "dots.go:43", after := #[{ on := 13, ground := Ground.guard }], guard := some (13, true) }) (by kernel_rfl) (by kernel_rfl) (by kernel_rfl) (by kernel_rfl) (fun _ _ _ h => h) (by kernel_rfl) hH2 ?_
              refine held_skip (i := 17) (o := { dst := some 40, op := Op.binOp BinOp.sub 3 (Operand.tmp 39) (Operand.const (Value.int IntKind.i64 1)) 3, type := 3, pos := "dots.go:43", after := #[{ on := 16, ground := Ground.data }, { on := 13, ground := Ground.guard }], guard := some (13, true) }) (by kernel_rfl) (by kernel_rfl) (by kernel_rfl) (by kernel_rfl) (fun _ _ _ h => h) (by kernel_rfl) hH2 ?_
              refine held_skip (i := 18) (o := { dst := some 41, op := Op.indexAddr 24 (Operand.tmp 38) (Operand.tmp 40), type := 0, pos := "dots.go:43", after := #[{ on := 15, ground := Ground.data }, { on := 17, ground := Ground.data }, { on := 13, ground := Ground.guard }], guard := some (13, true) }) (by kernel_rfl) (by kernel_rfl) (by kernel_rfl) (by kernel_rfl) (fun _ _ _ h => h) (by kernel_rfl) hH2 ?_
              refine held_skip (i := 19) (o := { dst := some 42, op := Op.load 28 (Operand.tmp 41), type := 28, pos := "dots.go:43", after := #[{ on := 18, ground := Ground.data }, { on := 13, ground := Ground.guard }], guard := some (13, true) }) (by kernel_rfl) (by kernel_rfl) (by kernel_rfl) (by kernel_rfl) (fun _ _ _ h => h) (by kernel_rfl) hH2 ?_
              refine held_skip (i := 20) (o := { dst := some 43, op := Op.load 28 (Operand.tmp 4), type := 28, pos := "dots.go:43", after := #[{ on := 13, ground := Ground.guard }], guard := some (13, true) }) (by kernel_rfl) (by kernel_rfl) (by kernel_rfl) (by kernel_rfl) (fun _ _ _ h => h) (by kernel_rfl) hH2 ?_
              refine held_skip (i := 21) (o := { dst := some 44, op := Op.call { callee := Callee.value (Operand.func 47), args := #[Operand.tmp 42, Operand.tmp 43], argTypes := #[28, 28] }, type := 3, pos := "dots.go:43", after := #[{ on := 19, ground := Ground.data }, { on := 20, ground := Ground.data }, { on := 13, ground := Ground.chain }, { on := 13, ground := Ground.guard }], guard := some (13, true) }) (by kernel_rfl) (by kernel_rfl) (by kernel_rfl) (by kernel_rfl) (fun _ _ _ h => h) (by kernel_rfl) hH2 ?_
              refine held_skip (i := 22) (o := { dst := some 45, op := Op.binOp BinOp.geq 3 (Operand.tmp 44) (Operand.const (Value.int IntKind.i64 0)) 3, type := 4, pos := "dots.go:43", after := #[{ on := 21, ground := Ground.data }, { on := 13, ground := Ground.guard }], guard := some (13, true) }) (by kernel_rfl) (by kernel_rfl) (by kernel_rfl) (by kernel_rfl) (fun _ _ _ h => h) (by kernel_rfl) hH2 ?_
              refine held_take (i := 23) (o := { dst := some 46, op := Op.pick (Operand.tmp 36) (Operand.tmp 45) (Operand.const (Value.bool false)), type := 4, pos := "dots.go:43", after := #[{ on := 13, ground := Ground.data }, { on := 22, ground := Ground.data }, { on := 10, ground := Ground.guard }], guard := some (10, false) }) (v := .bool false) (by kernel_rfl) (by kernel_rfl) (by kernel_rfl) (by kernel_rfl) (fun _ _ _ h => h) (by kernel_rfl) (fun _ _ => by kernel_rfl) hH2 ?_
              refine held_take (i := 24) (o := { dst := some 47, op := Op.pick (Operand.tmp 33) (Operand.const (Value.bool true)) (Operand.tmp 46), type := 4, pos := "dots.go:43", after := #[{ on := 10, ground := Ground.data }, { on := 23, ground := Ground.data }], guard := none }) (v := .bool false) (by kernel_rfl) (by kernel_rfl) (by kernel_rfl) (by kernel_rfl) (fun _ _ _ h => h) (by kernel_rfl) (fun _ _ => by kernel_rfl) hH2 ?_
              refine wpAnyH_done (by kernel_rfl) ?_ _
              simp only [Act.put, List.setIfInBounds_toArray, List.set_cons_zero, List.set_cons_succ]
              go_wp2
              go_roundw
              case rel => exact ⟨1, by omega, by go_num, HOK', hH2.below⟩
              case measure => simp [intOf]; omega
            · obtain ⟨j, rfl⟩ : ∃ j, k = j + 1 := ⟨k - 1, by omega⟩
              obtain ⟨pd, hpc, hcm⟩ := HPV.out (by omega)
              rw [show j + 1 - 1 = j by omega] at hpc
              have HQ := fun W => comp_any pd.1 pd.2 d.1 d.2 W
              have hj1 : j < n := by omega
              by_cases hz : 0 ≤ Dt.comp pd.1 pd.2 d.1 d.2
              rotate_left
              · have HOK' : Hid (okTo l ds (j + 1 + 1)) := by have h := okTo_step HOK.out (HOA'.out.2 ⟨hg, hcm.1 (by omega)⟩); exact h
                generalize Dt.comp pd.1 pd.2 d.1 d.2 = z at *
                clear hg HOA' HPV HP0 hcm
                refine wp_region_held_drew (S := QR w l (.slice (some ad) n ca) wr.heap.size d W0) (by kernel_rfl) (hQR) (fun hH0 => ?_)
                refine held_take (i := 0) (o := { dst := some 23, op := Op.load 28 (Operand.tmp 4), type := 28, pos := "dots.go:43", after := #[], guard := none }) (v := dV d) (by kernel_rfl) (by kernel_rfl) (by kernel_rfl) (by kernel_rfl) (fun _ _ _ h => h) (by kernel_rfl) (fun _ h => exec_dot rfl (by kernel_rfl) h.dot.1 h.dot.2) hH0 ?_
                refine held_callX (i := 1) (o := { dst := some 24, op := Op.call { callee := Callee.value (Operand.func 45), args := #[Operand.tmp 23], argTypes := #[28] }, type := 4, pos := "dots.go:43", after := #[{ on := 0, ground := Ground.data }], guard := none }) (F := 45) (vs := #[dV d]) (by kernel_rfl) (by kernel_rfl) (by kernel_rfl) (fun _ => by kernel_rfl) (HR _) ?_
                rintro e w1 ⟨rfl, hb1⟩
                have hH1 := hH0.on hb1
                refine ⟨.bool true, rfl, hH1, ?_⟩
                refine held_take (i := 2) (o := { dst := some 25, op := Op.unOp UnOp.not 4 (Operand.tmp 24), type := 4, pos := "dots.go:43", after := #[{ on := 1, ground := Ground.data }], guard := none }) (v := .bool false) (by kernel_rfl) (by kernel_rfl) (by kernel_rfl) (by kernel_rfl) (fun _ _ _ h => h) (by kernel_rfl) (fun W _ => exec_un rfl (by kernel_rfl) (not_of true) W) hH1 ?_
                refine held_take (i := 3) (o := { dst := some 26, op := Op.move (Operand.tmp 25), type := 4, pos := "dots.go:43", after := #[{ on := 2, ground := Ground.data }, { on := 1, ground := Ground.chain }], guard := none }) (v := .bool false) (by kernel_rfl) (by kernel_rfl) (by kernel_rfl) (by kernel_rfl) (fun _ _ _ h => h) (by kernel_rfl) (fun _ _ => by kernel_rfl) hH1 ?_
                refine held_take (i := 4) (o := { dst := some 27, op := Op.fieldAddr 26 (Operand.tmp 1) 0, type := 0, pos := "dots.go:43", after := #[{ on := 3, ground := Ground.guard }], guard := some (3, false) }) (v := .pointer (some ⟨w.heap.size, 0, none⟩)) (by kernel_rfl) (by kernel_rfl) (by kernel_rfl) (by kernel_rfl) (fun _ _ _ h => h) (by kernel_rfl) (fun _ _ => by kernel_rfl) hH1 ?_
                refine held_take (i := 5) (o := { dst := some 28, op := Op.load 23 (Operand.tmp 27), type := 23, pos := "dots.go:43", after := #[{ on := 4, ground := Ground.data }, { on := 3, ground := Ground.guard }], guard := some (3, false) }) (v := vecV l) (by kernel_rfl) (by kernel_rfl) (by kernel_rfl) (by kernel_rfl) (fun _ _ _ h => h) (by kernel_rfl) (fun _ h => exec_setVec rfl hl (by kernel_rfl) h.set) hH1 ?_
                refine held_take (i := 6) (o := { dst := some 29, op := Op.load 28 (Operand.tmp 4), type := 28, pos := "dots.go:43", after := #[{ on := 3, ground := Ground.guard }], guard := some (3, false) }) (v := dV d) (by kernel_rfl) (by kernel_rfl) (by kernel_rfl) (by kernel_rfl) (fun _ _ _ h => h) (by kernel_rfl) (fun _ h => exec_dot rfl (by kernel_rfl) h.dot.1 h.dot.2) hH1 ?_
                refine held_callX (i := 7) (o := { dst := some 30, op := Op.call { callee := Callee.value (Operand.func 46), args := #[Operand.tmp 28, Operand.tmp 29], argTypes := #[23, 28] }, type := 4, pos := "dots.go:43", after := #[{ on := 5, ground := Ground.data }, { on := 6, ground := Ground.data }, { on := 3, ground := Ground.chain }, { on := 3, ground := Ground.guard }], guard := some (3, false) }) (F := 46) (vs := #[vecV l, dV d]) (by kernel_rfl) (by kernel_rfl) (by kernel_rfl) (fun _ => by kernel_rfl) (HG _) ?_
                rintro e w2 ⟨rfl, hb2⟩
                have hH2 := hH1.on hb2
                refine ⟨.bool true, rfl, hH2, ?_⟩
                refine held_take (i := 8) (o := { dst := some 31, op := Op.unOp UnOp.not 4 (Operand.tmp 30), type := 4, pos := "dots.go:43", after := #[{ on := 7, ground := Ground.data }, { on := 3, ground := Ground.guard }], guard := some (3, false) }) (v := .bool false) (by kernel_rfl) (by kernel_rfl) (by kernel_rfl) (by kernel_rfl) (fun _ _ _ h => h) (by kernel_rfl) (fun W _ => exec_un rfl (by kernel_rfl) (not_of true) W) hH2 ?_
                refine held_take (i := 9) (o := { dst := some 32, op := Op.pick (Operand.tmp 26) (Operand.const (Value.bool true)) (Operand.tmp 31), type := 4, pos := "dots.go:43", after := #[{ on := 3, ground := Ground.data }, { on := 8, ground := Ground.data }], guard := none }) (v := .bool false) (by kernel_rfl) (by kernel_rfl) (by kernel_rfl) (by kernel_rfl) (fun _ _ _ h => h) (by kernel_rfl) (fun _ _ => by kernel_rfl) hH2 ?_
                refine held_take (i := 10) (o := { dst := some 33, op := Op.move (Operand.tmp 32), type := 4, pos := "dots.go:43", after := #[{ on := 9, ground := Ground.data }, { on := 7, ground := Ground.chain }], guard := none }) (v := .bool false) (by kernel_rfl) (by kernel_rfl) (by kernel_rfl) (by kernel_rfl) (fun _ _ _ h => h) (by kernel_rfl) (fun _ _ => by kernel_rfl) hH2 ?_
                refine held_take (i := 11) (o := { dst := some 34, op := Op.move (Operand.tmp 3), type := 3, pos := "dots.go:43", after := #[{ on := 10, ground := Ground.guard }], guard := some (10, false) }) (v := .int .i64 ((j + 1 : Nat) : Int)) (by kernel_rfl) (by kernel_rfl) (by kernel_rfl) (by kernel_rfl) (fun _ _ _ h => h) (by kernel_rfl) (fun _ _ => by kernel_rfl) hH2 ?_
                refine held_take (i := 12) (o := { dst := some 35, op := Op.binOp BinOp.gtr 3 (Operand.tmp 34) (Operand.const (Value.int IntKind.i64 0)) 3, type := 4, pos := "dots.go:43", after := #[{ on := 11, ground := Ground.data }, { on := 10, ground := Ground.guard }], guard := some (10, false) }) (v := .bool true) (by kernel_rfl) (by kernel_rfl) (by kernel_rfl) (by kernel_rfl) (fun _ _ _ h => h) (by kernel_rfl) (fun W _ => exec_bin rfl (by kernel_rfl) (by kernel_rfl) (fun _ => by kernel_rfl) (gtr_i (x := ((j + 1 : Nat) : Int)) (y := 0) (by omega)) W) hH2 ?_
                refine held_take (i := 13) (o := { dst := some 36, op := Op.move (Operand.tmp 35), type := 4, pos := "dots.go:43", after := #[{ on := 12, ground := Ground.data }, { on := 10, ground := Ground.chain }, { on := 10, ground := Ground.guard }], guard := some (10, false) }) (v := .bool true) (by kernel_rfl) (by kernel_rfl) (by kernel_rfl) (by kernel_rfl) (fun _ _ _ h => h) (by kernel_rfl) (fun _ _ => by kernel_rfl) hH2 ?_
                refine held_take (i := 14) (o := { dst := some 37, op := Op.fieldAddr 26 (Operand.tmp 1) 1, type := 0, pos := "dots.go:43", after := #[{ on := 13, ground := Ground.guard }], guard := some (13, true) }) (v := .pointer (some ⟨w.heap.size, 16, none⟩)) (by kernel_rfl) (by kernel_rfl) (by kernel_rfl) (by kernel_rfl) (fun _ _ _ h => h) (by kernel_rfl) (fun _ _ => by kernel_rfl) hH2 ?_
                refine held_take (i := 15) (o := { dst := some 38, op := Op.load 24 (Operand.tmp 37), type := 24, pos := "dots.go:43", after := #[{ on := 14, ground := Ground.data }, { on := 13, ground := Ground.guard }], guard := some (13, true) }) (v := .slice (some ad) n ca) (by kernel_rfl) (by kernel_rfl) (by kernel_rfl) (by kernel_rfl) (fun _ _ _ h => h) (by kernel_rfl) (fun _ h => exec_more rfl (by kernel_rfl) (h.set.more hl)) hH2 ?_
                refine held_take (i := 16) (o := { dst := some 39, op := Op.move (Operand.tmp 3), type := 3, pos := "dots.go:43", after := #[{ on := 13, ground := Ground.guard }], guard := some (13, true) }) (v := .int .i64 ((j + 1 : Nat) : Int)) (by kernel_rfl) (by kernel_rfl) (by kernel_rfl) (by kernel_rfl) (fun _ _ _ h => h) (by kernel_rfl) (fun _ _ => by kernel_rfl) hH2 ?_
                refine held_take (i := 17) (o := { dst := some 40, op := Op.binOp BinOp.sub 3 (Operand.tmp 39) (Operand.const (Value.int IntKind.i64 1)) 3, type := 3, pos := "dots.go:43", after := #[{ on := 16, ground := Ground.data }, { on := 13, ground := Ground.guard }], guard := some (13, true) }) (v := .int .i64 (j : Int)) (by kernel_rfl) (by kernel_rfl) (by kernel_rfl) (by kernel_rfl) (fun _ _ _ h => h) (by kernel_rfl) (fun W _ => exec_bin rfl (by kernel_rfl) (by kernel_rfl) (fun _ => by kernel_rfl) (sub_i (x := ((j + 1 : Nat) : Int)) (y := 1) (z := (j : Int)) (by omega) (by omega) (by omega)) W) hH2 ?_
                refine held_take (i := 18) (o := { dst := some 41, op := Op.indexAddr 24 (Operand.tmp 38) (Operand.tmp 40), type := 0, pos := "dots.go:43", after := #[{ on := 15, ground := Ground.data }, { on := 17, ground := Ground.data }, { on := 13, ground := Ground.guard }], guard := some (13, true) }) (v := .pointer (some (ad.add (j * 2)))) (by kernel_rfl) (by kernel_rfl) (by kernel_rfl) (by kernel_rfl) (fun _ _ _ h => h) (by kernel_rfl) (fun W _ => exec_idx (n := n) (c := ca) rfl (by kernel_rfl) (by kernel_rfl) hj1 W) hH2 ?_
                refine held_take (i := 19) (o := { dst := some 42, op := Op.load 28 (Operand.tmp 41), type := 28, pos := "dots.go:43", after := #[{ on := 18, ground := Ground.data }, { on := 13, ground := Ground.guard }], guard := some (13, true) }) (v := dV pd) (by kernel_rfl) (by kernel_rfl) (by kernel_rfl) (by kernel_rfl) (fun _ _ _ h => h) (by kernel_rfl) (fun W h => exec_row rfl (by kernel_rfl) (hpc W h.below).1 (hpc W h.below).2) hH2 ?_
                refine held_take (i := 20) (o := { dst := some 43, op := Op.load 28 (Operand.tmp 4), type := 28, pos := "dots.go:43", after := #[{ on := 13, ground := Ground.guard }], guard := some (13, true) }) (v := dV d) (by kernel_rfl) (by kernel_rfl) (by kernel_rfl) (by kernel_rfl) (fun _ _ _ h => h) (by kernel_rfl) (fun _ h => exec_dot rfl (by kernel_rfl) h.dot.1 h.dot.2) hH2 ?_
                refine held_callX (i := 21) (o := { dst := some 44, op := Op.call { callee := Callee.value (Operand.func 47), args := #[Operand.tmp 42, Operand.tmp 43], argTypes := #[28, 28] }, type := 3, pos := "dots.go:43", after := #[{ on := 19, ground := Ground.data }, { on := 20, ground := Ground.data }, { on := 13, ground := Ground.chain }, { on := 13, ground := Ground.guard }], guard := some (13, true) }) (F := 47) (vs := #[dV pd, dV d]) (by kernel_rfl) (by kernel_rfl) (by kernel_rfl) (fun _ => by kernel_rfl) (HQ _) ?_
                rintro e w3 ⟨rfl, hb3⟩
                have hH3 := hH2.on hb3
                refine ⟨.int .i64 z, rfl, hH3, ?_⟩
                refine held_take (i := 22) (o := { dst := some 45, op := Op.binOp BinOp.geq 3 (Operand.tmp 44) (Operand.const (Value.int IntKind.i64 0)) 3, type := 4, pos := "dots.go:43", after := #[{ on := 21, ground := Ground.data }, { on := 13, ground := Ground.guard }], guard := some (13, true) }) (v := .bool false) (by kernel_rfl) (by kernel_rfl) (by kernel_rfl) (by kernel_rfl) (fun _ _ _ h => h) (by kernel_rfl) (fun W _ => exec_bin rfl (by kernel_rfl) (by kernel_rfl) (fun _ => by kernel_rfl) (geq_no (x := z) (y := 0) (by omega)) W) hH3 ?_
                refine held_take (i := 23) (o := { dst := some 46, op := Op.pick (Operand.tmp 36) (Operand.tmp 45) (Operand.const (Value.bool false)), type := 4, pos := "dots.go:43", after := #[{ on := 13, ground := Ground.data }, { on := 22, ground := Ground.data }, { on := 10, ground := Ground.guard }], guard := some (10, false) }) (v := .bool false) (by kernel_rfl) (by kernel_rfl) (by kernel_rfl) (by kernel_rfl) (fun _ _ _ h => h) (by kernel_rfl) (fun _ _ => by kernel_rfl) hH3 ?_
                refine held_take (i := 24) (o := { dst := some 47, op := Op.pick (Operand.tmp 33) (Operand.const (Value.bool true)) (Operand.tmp 46), type := 4, pos := "dots.go:43", after := #[{ on := 10, ground := Ground.data }, { on := 23, ground := Ground.data }], guard := none }) (v := .bool false) (by kernel_rfl) (by kernel_rfl) (by kernel_rfl) (by kernel_rfl) (fun _ _ _ h => h) (by kernel_rfl) (fun _ _ => by kernel_rfl) hH3 ?_
                refine wpAnyH_done (by kernel_rfl) ?_ _
                simp only [Act.put, List.setIfInBounds_toArray, List.set_cons_zero, List.set_cons_succ]
                go_wp2
                go_roundw
                case rel => exact ⟨j + 1 + 1, by omega, by go_num, HOK', hH3.below⟩
                case measure => simp [intOf]; omega
              · have HE : Hid (¬ P) := by have h := HNO.out (j + 1) (fun h => by have := hcm.2 (HOA'.out.1 h).2; omega); exact h
                generalize Dt.comp pd.1 pd.2 d.1 d.2 = z at *
                clear hg HOA' HPV HP0 hcm
                refine wp_region_held_drew (S := QR w l (.slice (some ad) n ca) wr.heap.size d W0) (by kernel_rfl) (hQR) (fun hH0 => ?_)
                refine held_take (i := 0) (o := { dst := some 23, op := Op.load 28 (Operand.tmp 4), type := 28, pos := "dots.go:43", after := #[], guard := none }) (v := dV d) (by kernel_rfl) (by kernel_rfl) (by kernel_rfl) (by kernel_rfl) (fun _ _ _ h => h) (by kernel_rfl) (fun _ h => exec_dot rfl (by kernel_rfl) h.dot.1 h.dot.2) hH0 ?_
                refine held_callX (i := 1) (o := { dst := some 24, op := Op.call { callee := Callee.value (Operand.func 45), args := #[Operand.tmp 23], argTypes := #[28] }, type := 4, pos := "dots.go:43", after := #[{ on := 0, ground := Ground.data }], guard := none }) (F := 45) (vs := #[dV d]) (by kernel_rfl) (by kernel_rfl) (by kernel_rfl) (fun _ => by kernel_rfl) (HR _) ?_
                rintro e w1 ⟨rfl, hb1⟩
                have hH1 := hH0.on hb1
                refine ⟨.bool true, rfl, hH1, ?_⟩
                refine held_take (i := 2) (o := { dst := some 25, op := Op.unOp UnOp.not 4 (Operand.tmp 24), type := 4, pos := "dots.go:43", after := #[{ on := 1, ground := Ground.data }], guard := none }) (v := .bool false) (by kernel_rfl) (by kernel_rfl) (by kernel_rfl) (by kernel_rfl) (fun _ _ _ h => h) (by kernel_rfl) (fun W _ => exec_un rfl (by kernel_rfl) (not_of true) W) hH1 ?_
                refine held_take (i := 3) (o := { dst := some 26, op := Op.move (Operand.tmp 25), type := 4, pos := "dots.go:43", after := #[{ on := 2, ground := Ground.data }, { on := 1, ground := Ground.chain }], guard := none }) (v := .bool false) (by kernel_rfl) (by kernel_rfl) (by kernel_rfl) (by kernel_rfl) (fun _ _ _ h => h) (by kernel_rfl) (fun _ _ => by kernel_rfl) hH1 ?_
                refine held_take (i := 4) (o := { dst := some 27, op := Op.fieldAddr 26 (Operand.tmp 1) 0, type := 0, pos := "dots.go:43", after := #[{ on := 3, ground := Ground.guard }], guard := some (3, false) }) (v := .pointer (some ⟨w.heap.size, 0, none⟩)) (by kernel_rfl) (by kernel_rfl) (by kernel_rfl) (by kernel_rfl) (fun _ _ _ h => h) (by kernel_rfl) (fun _ _ => by kernel_rfl) hH1 ?_
                refine held_take (i := 5) (o := { dst := some 28, op := Op.load 23 (Operand.tmp 27), type := 23, pos := "dots.go:43", after := #[{ on := 4, ground := Ground.data }, { on := 3, ground := Ground.guard }], guard := some (3, false) }) (v := vecV l) (by kernel_rfl) (by kernel_rfl) (by kernel_rfl) (by kernel_rfl) (fun _ _ _ h => h) (by kernel_rfl) (fun _ h => exec_setVec rfl hl (by kernel_rfl) h.set) hH1 ?_
                refine held_take (i := 6) (o := { dst := some 29, op := Op.load 28 (Operand.tmp 4), type := 28, pos := "dots.go:43", after := #[{ on := 3, ground := Ground.guard }], guard := some (3, false) }) (v := dV d) (by kernel_rfl) (by kernel_rfl) (by kernel_rfl) (by kernel_rfl) (fun _ _ _ h => h) (by kernel_rfl) (fun _ h => exec_dot rfl (by kernel_rfl) h.dot.1 h.dot.2) hH1 ?_
                refine held_callX (i := 7) (o := { dst := some 30, op := Op.call { callee := Callee.value (Operand.func 46), args := #[Operand.tmp 28, Operand.tmp 29], argTypes := #[23, 28] }, type := 4, pos := "dots.go:43", after := #[{ on := 5, ground := Ground.data }, { on := 6, ground := Ground.data }, { on := 3, ground := Ground.chain }, { on := 3, ground := Ground.guard }], guard := some (3, false) }) (F := 46) (vs := #[vecV l, dV d]) (by kernel_rfl) (by kernel_rfl) (by kernel_rfl) (fun _ => by kernel_rfl) (HG _) ?_
                rintro e w2 ⟨rfl, hb2⟩
                have hH2 := hH1.on hb2
                refine ⟨.bool true, rfl, hH2, ?_⟩
                refine held_take (i := 8) (o := { dst := some 31, op := Op.unOp UnOp.not 4 (Operand.tmp 30), type := 4, pos := "dots.go:43", after := #[{ on := 7, ground := Ground.data }, { on := 3, ground := Ground.guard }], guard := some (3, false) }) (v := .bool false) (by kernel_rfl) (by kernel_rfl) (by kernel_rfl) (by kernel_rfl) (fun _ _ _ h => h) (by kernel_rfl) (fun W _ => exec_un rfl (by kernel_rfl) (not_of true) W) hH2 ?_
                refine held_take (i := 9) (o := { dst := some 32, op := Op.pick (Operand.tmp 26) (Operand.const (Value.bool true)) (Operand.tmp 31), type := 4, pos := "dots.go:43", after := #[{ on := 3, ground := Ground.data }, { on := 8, ground := Ground.data }], guard := none }) (v := .bool false) (by kernel_rfl) (by kernel_rfl) (by kernel_rfl) (by kernel_rfl) (fun _ _ _ h => h) (by kernel_rfl) (fun _ _ => by kernel_rfl) hH2 ?_
                refine held_take (i := 10) (o := { dst := some 33, op := Op.move (Operand.tmp 32), type := 4, pos := "dots.go:43", after := #[{ on := 9, ground := Ground.data }, { on := 7, ground := Ground.chain }], guard := none }) (v := .bool false) (by kernel_rfl) (by kernel_rfl) (by kernel_rfl) (by kernel_rfl) (fun _ _ _ h => h) (by kernel_rfl) (fun _ _ => by kernel_rfl) hH2 ?_
                refine held_take (i := 11) (o := { dst := some 34, op := Op.move (Operand.tmp 3), type := 3, pos := "dots.go:43", after := #[{ on := 10, ground := Ground.guard }], guard := some (10, false) }) (v := .int .i64 ((j + 1 : Nat) : Int)) (by kernel_rfl) (by kernel_rfl) (by kernel_rfl) (by kernel_rfl) (fun _ _ _ h => h) (by kernel_rfl) (fun _ _ => by kernel_rfl) hH2 ?_
                refine held_take (i := 12) (o := { dst := some 35, op := Op.binOp BinOp.gtr 3 (Operand.tmp 34) (Operand.const (Value.int IntKind.i64 0)) 3, type := 4, pos := "dots.go:43", after := #[{ on := 11, ground := Ground.data }, { on := 10, ground := Ground.guard }], guard := some (10, false) }) (v := .bool true) (by kernel_rfl) (by kernel_rfl) (by kernel_rfl) (by kernel_rfl) (fun _ _ _ h => h) (by kernel_rfl) (fun W _ => exec_bin rfl (by kernel_rfl) (by kernel_rfl) (fun _ => by kernel_rfl) (gtr_i (x := ((j + 1 : Nat) : Int)) (y := 0) (by omega)) W) hH2 ?_
                refine held_take (i := 13) (o := { dst := some 36, op := Op.move (Operand.tmp 35), type := 4, pos := "dots.go:43", after := #[{ on := 12, ground := Ground.data }, { on := 10, ground := Ground.chain }, { on := 10, ground := Ground.guard }], guard := some (10, false) }) (v := .bool true) (by kernel_rfl) (by kernel_rfl) (by kernel_rfl) (by kernel_rfl) (fun _ _ _ h => h) (by kernel_rfl) (fun _ _ => by kernel_rfl) hH2 ?_
                refine held_take (i := 14) (o := { dst := some 37, op := Op.fieldAddr 26 (Operand.tmp 1) 1, type := 0, pos := "dots.go:43", after := #[{ on := 13, ground := Ground.guard }], guard := some (13, true) }) (v := .pointer (some ⟨w.heap.size, 16, none⟩)) (by kernel_rfl) (by kernel_rfl) (by kernel_rfl) (by kernel_rfl) (fun _ _ _ h => h) (by kernel_rfl) (fun _ _ => by kernel_rfl) hH2 ?_
                refine held_take (i := 15) (o := { dst := some 38, op := Op.load 24 (Operand.tmp 37), type := 24, pos := "dots.go:43", after := #[{ on := 14, ground := Ground.data }, { on := 13, ground := Ground.guard }], guard := some (13, true) }) (v := .slice (some ad) n ca) (by kernel_rfl) (by kernel_rfl) (by kernel_rfl) (by kernel_rfl) (fun _ _ _ h => h) (by kernel_rfl) (fun _ h => exec_more rfl (by kernel_rfl) (h.set.more hl)) hH2 ?_
                refine held_take (i := 16) (o := { dst := some 39, op := Op.move (Operand.tmp 3), type := 3, pos := "dots.go:43", after := #[{ on := 13, ground := Ground.guard }], guard := some (13, true) }) (v := .int .i64 ((j + 1 : Nat) : Int)) (by kernel_rfl) (by kernel_rfl) (by kernel_rfl) (by kernel_rfl) (fun _ _ _ h => h) (by kernel_rfl) (fun _ _ => by kernel_rfl) hH2 ?_
                refine held_take (i := 17) (o := { dst := some 40, op := Op.binOp BinOp.sub 3 (Operand.tmp 39) (Operand.const (Value.int IntKind.i64 1)) 3, type := 3, pos := "dots.go:43", after := #[{ on := 16, ground := Ground.data }, { on := 13, ground := Ground.guard }], guard := some (13, true) }) (v := .int .i64 (j : Int)) (by kernel_rfl) (by kernel_rfl) (by kernel_rfl) (by kernel_rfl) (fun _ _ _ h => h) (by kernel_rfl) (fun W _ => exec_bin rfl (by kernel_rfl) (by kernel_rfl) (fun _ => by kernel_rfl) (sub_i (x := ((j + 1 : Nat) : Int)) (y := 1) (z := (j : Int)) (by omega) (by omega) (by omega)) W) hH2 ?_
                refine held_take (i := 18) (o := { dst := some 41, op := Op.indexAddr 24 (Operand.tmp 38) (Operand.tmp 40), type := 0, pos := "dots.go:43", after := #[{ on := 15, ground := Ground.data }, { on := 17, ground := Ground.data }, { on := 13, ground := Ground.guard }], guard := some (13, true) }) (v := .pointer (some (ad.add (j * 2)))) (by kernel_rfl) (by kernel_rfl) (by kernel_rfl) (by kernel_rfl) (fun _ _ _ h => h) (by kernel_rfl) (fun W _ => exec_idx (n := n) (c := ca) rfl (by kernel_rfl) (by kernel_rfl) hj1 W) hH2 ?_
                refine held_take (i := 19) (o := { dst := some 42, op := Op.load 28 (Operand.tmp 41), type := 28, pos := "dots.go:43", after := #[{ on := 18, ground := Ground.data }, { on := 13, ground := Ground.guard }], guard := some (13, true) }) (v := dV pd) (by kernel_rfl) (by kernel_rfl) (by kernel_rfl) (by kernel_rfl) (fun _ _ _ h => h) (by kernel_rfl) (fun W h => exec_row rfl (by kernel_rfl) (hpc W h.below).1 (hpc W h.below).2) hH2 ?_
                refine held_take (i := 20) (o := { dst := some 43, op := Op.load 28 (Operand.tmp 4), type := 28, pos := "dots.go:43", after := #[{ on := 13, ground := Ground.guard }], guard := some (13, true) }) (v := dV d) (by kernel_rfl) (by kernel_rfl) (by kernel_rfl) (by kernel_rfl) (fun _ _ _ h => h) (by kernel_rfl) (fun _ h => exec_dot rfl (by kernel_rfl) h.dot.1 h.dot.2) hH2 ?_
                refine held_callX (i := 21) (o := { dst := some 44, op := Op.call { callee := Callee.value (Operand.func 47), args := #[Operand.tmp 42, Operand.tmp 43], argTypes := #[28, 28] }, type := 3, pos := "dots.go:43", after := #[{ on := 19, ground := Ground.data }, { on := 20, ground := Ground.data }, { on := 13, ground := Ground.chain }, { on := 13, ground := Ground.guard }], guard := some (13, true) }) (F := 47) (vs := #[dV pd, dV d]) (by kernel_rfl) (by kernel_rfl) (by kernel_rfl) (fun _ => by kernel_rfl) (HQ _) ?_
                rintro e w3 ⟨rfl, hb3⟩
                have hH3 := hH2.on hb3
                refine ⟨.int .i64 z, rfl, hH3, ?_⟩
                refine held_take (i := 22) (o := { dst := some 45, op := Op.binOp BinOp.geq 3 (Operand.tmp 44) (Operand.const (Value.int IntKind.i64 0)) 3, type := 4, pos := "dots.go:43", after := #[{ on := 21, ground := Ground.data }, { on := 13, ground := Ground.guard }], guard := some (13, true) }) (v := .bool true) (by kernel_rfl) (by kernel_rfl) (by kernel_rfl) (by kernel_rfl) (fun _ _ _ h => h) (by kernel_rfl) (fun W _ => exec_bin rfl (by kernel_rfl) (by kernel_rfl) (fun _ => by kernel_rfl) (geq_i (x := z) (y := 0) (by omega)) W) hH3 ?_
                refine held_take (i := 23) (o := { dst := some 46, op := Op.pick (Operand.tmp 36) (Operand.tmp 45) (Operand.const (Value.bool false)), type := 4, pos := "dots.go:43", after := #[{ on := 13, ground := Ground.data }, { on := 22, ground := Ground.data }, { on := 10, ground := Ground.guard }], guard := some (10, false) }) (v := .bool true) (by kernel_rfl) (by kernel_rfl) (by kernel_rfl) (by kernel_rfl) (fun _ _ _ h => h) (by kernel_rfl) (fun _ _ => by kernel_rfl) hH3 ?_
                refine held_take (i := 24) (o := { dst := some 47, op := Op.pick (Operand.tmp 33) (Operand.const (Value.bool true)) (Operand.tmp 46), type := 4, pos := "dots.go:43", after := #[{ on := 10, ground := Ground.data }, { on := 23, ground := Ground.data }], guard := none }) (v := .bool true) (by kernel_rfl) (by kernel_rfl) (by kernel_rfl) (by kernel_rfl) (fun _ _ _ h => h) (by kernel_rfl) (fun _ _ => by kernel_rfl) hH3 ?_
                refine wpAnyH_done (by kernel_rfl) ?_ _
                simp only [Act.put, List.setIfInBounds_toArray, List.set_cons_zero, List.set_cons_succ]
                go_wp2
                go_ret
                exact ⟨saidB_no HE.out, bchain HB.out hH3.below⟩
      · obtain rfl : k = n := by omega
        have hk' : ¬ (k : Int) < (k : Int) := by omega
        have HE : Hid P := by have h := HYE.out HVR.out HOK.out hn; exact h
        go_wp2
        go_ret
        exact ⟨saidB_yes HE.out, bchain HB.out hbw⟩
end Go.Proofs.Ytenfbjlmfdiniaa
