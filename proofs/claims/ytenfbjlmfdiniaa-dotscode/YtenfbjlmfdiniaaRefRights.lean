/- The walk of the document's Right, at any set. -/
import Derived.Test.YtenfbjlmfdiniaaRefOf
namespace Go.Proofs.Ytenfbjlmfdiniaa
open Go.RowKit Go.Shelf

/-- A dot in a block, and all else as it was. -/
def DS (b : Nat) (d : D) (W W' : World) : Prop := DotAt W' b d ∧ Below W.heap.size W W'
theorem DS.on {b : Nat} {d : D} {W W' W'' : World} (h : DS b d W W') (hb : Below W'.heap.size W' W'') : DS b d W W'' := ⟨h.1.on hb, bchain h.2 hb⟩
/-- At place k nothing is wrong. -/
def okAt (l : List Int) (ds : List D) (k : Nat) : Prop := ∀ h : k < ds.length, rightD ds[k] = true ∧ St.at' l ds[k] + 1 < (ds[k]).2 ∧ ∀ h0 : 0 < k, St.lt (ds[k - 1]'(by omega)) ds[k]
def okTo (l : List Int) (ds : List D) (k : Nat) : Prop := ∀ j, j < k → okAt l ds j
theorem okTo_zero (l : List Int) (ds : List D) : okTo l ds 0 := fun _ h => absurd h (Nat.not_lt_zero _)
theorem okTo_step {l : List Int} {ds : List D} {k : Nat} (h : okTo l ds k) (hk : okAt l ds k) : okTo l ds (k + 1) := fun j hj => by
  by_cases e : j = k
  · subst e; exact hk
  · exact h j (by omega)
theorem std_ok {l : List Int} {ds : List D} (h : St.Std l ds) (k : Nat) : okAt l ds k := fun hk =>
  ⟨(h.gap _ (List.getElem_mem hk)).1, (h.gap _ (List.getElem_mem hk)).2, fun h0 => List.pairwise_iff_getElem.1 h.row (k - 1) k (by omega) hk (by omega)⟩
theorem ok_std {l : List Int} {ds : List D} (hl : l.length = 16) (hv : Vc.right l = true) (h : okTo l ds ds.length) : St.Std l ds := by
  refine ⟨hl, hv, fun d hd => ?_, ?_⟩
  · obtain ⟨k, hk, rfl⟩ := List.mem_iff_getElem.1 hd
    have := h k hk hk
    exact ⟨this.1, this.2.1⟩
  · rw [List.pairwise_iff_getElem]
    intro i j hi hj hij
    induction j with
    | zero => omega
    | succ j ih =>
      have h1 := (h (j + 1) hj hj).2.2 (by omega)
      by_cases e : i = j
      · subst e; exact h1
      · exact St.lt_trans (ih (by omega) (by omega)) h1
theorem lt_comp {x y : D} : St.lt x y ↔ Dt.comp x.1 x.2 y.1 y.2 = -1 := by
  rcases Dt.comp_cases x.1 x.2 y.1 y.2 with ⟨h, e⟩ | ⟨h1, h2, e⟩ | ⟨h, e⟩ <;> rw [e]
  · simp only [iff_true]; exact h
  · constructor
    · intro k; unfold St.lt at k; omega
    · intro k; omega
  · constructor
    · intro k; unfold St.lt at k; omega
    · intro k; omega

set_option maxRecDepth 20000 in
set_option maxHeartbeats 1000000 in
theorem refRight_bool (l : List Int) (hl : l.length = 16) (v : Value) (ds : List D) (w : World) (hd : dotsIn w v ds) (hn6 : ds.length ≤ 1000000) :
    Calls Try.prog 11 #[setV l v] w fun e w' => ∃ b : Bool, e = .returned (.bool b) ∧ (b = true ↔ (St.Std l ds ∧ ds.length ≤ 4096)) ∧ Below w.heap.size w w' := by
  obtain ⟨W0, hW0⟩ : ∃ W0, W0 = w.alloc (.cells (setC l v).toArray 26) := ⟨_, rfl⟩
  have hB0 : Below w.heap.size w W0 := by rw [hW0]; exact below_new _ _
  have hA0 : SetAt W0 w.heap.size l v := by rw [hW0]; exact SetAt.new w l v
  have HV := fun W => refRight_vec l hl W
  obtain ⟨ao, ca, rfl, _, hc⟩ := hd.on hB0
  have HC : Hid (∀ k (h : k < ds.length), ∃ ad, ao = some ad ∧ W0.cell? (ad.add (k * 2)) = some (.int .i64 (ds[k]).1) ∧ W0.cell? ⟨(ad.add (k * 2)).block, (ad.add (k * 2)).off + 1, none⟩ = some (.int .i64 (ds[k]).2)) := hc
  have HA : Hid (SetAt W0 w.heap.size l (.slice ao ds.length ca)) := hA0
  have HB : Hid (Below w.heap.size w W0) := hB0
  have HW : Hid (W0 = w.alloc (.cells (setC l (.slice ao ds.length ca)).toArray 26)) := hW0
  rw [hW0] at hA0
  clear hW0 hd hB0 hc
  cases hvr : Vc.right l with
  | false =>
    have HE : Hid (false = true ↔ (St.Std l ds ∧ ds.length ≤ 4096)) := by
      have h : false = true ↔ (St.Std l ds ∧ ds.length ≤ 4096) := ⟨fun e => (by cases e), fun e => by rw [e.1.vec] at hvr; cases hvr⟩
      exact h
    rw [hvr] at HV
    clear hvr
    go_enter Try.func11, Try.ntmps11
    go_wp2_with (first
      | (refine load_setVec rfl _ rfl w.heap.size l _ hl rfl hA0 ?_)
      | (go_at_call 48; refine (HV _).mono ?_; rintro e w1 ⟨rfl, hb1⟩))
    go_ret
    rw [← HW.out] at hb1
    exact ⟨false, rfl, HE.out, bchain HB.out hb1⟩
  | true =>
    rw [hvr] at HV
    have HVR : Hid (Vc.right l = true) := hvr
    clear hvr
    by_cases hn : ds.length ≤ 4096
    rotate_left
    · have HE : Hid (false = true ↔ (St.Std l ds ∧ ds.length ≤ 4096)) := by
        have h : false = true ↔ (St.Std l ds ∧ ds.length ≤ 4096) := ⟨fun e => (by cases e), fun e => absurd e.2 hn⟩
        exact h
      have hn9 : (4096 : Int) < (ds.length : Int) := by omega
      go_enter Try.func11, Try.ntmps11
      go_wp2_with (first
        | (refine load_setVec rfl _ rfl w.heap.size l _ hl rfl hA0 ?_)
        | (go_at_call 48; refine (HV _).mono ?_; rintro e w1 ⟨rfl, hb1⟩
           rw [← HW.out] at hb1
           have m1 := (HA.out.on hb1).more hl))
      go_ret
      exact ⟨false, rfl, HE.out, bchain HB.out hb1⟩
    obtain ⟨n, hn0⟩ : ∃ n, n = ds.length := ⟨_, rfl⟩
    have HN : Hid (n = ds.length) := hn0
    have HNO : Hid (∀ k, ¬ okAt l ds k → (false = true ↔ (St.Std l ds ∧ n ≤ 4096))) := fun k hk => ⟨fun e => (by cases e), fun e => absurd (std_ok e.1 k) hk⟩
    have HYE : Hid (okTo l ds n → (true = true ↔ (St.Std l ds ∧ n ≤ 4096))) := fun h => ⟨fun _ => ⟨ok_std hl HVR.out (by rw [← hn0]; exact h), by rw [hn0]; exact hn⟩, fun _ => rfl⟩
    rw [← hn0] at hn hn6 hA0 HA HW ⊢
    clear hn0
    have hn9 : ¬ (4096 : Int) < (n : Int) := by omega
    go_enter Try.func11, Try.ntmps11
    go_wp2_with (first
      | (refine load_setVec rfl _ rfl w.heap.size l _ hl rfl hA0 ?_)
      | (go_at_call 48; refine (HV _).mono ?_; rintro e w1 ⟨rfl, hb1⟩
         rw [← HW.out] at hb1
         have m1 := (HA.out.on hb1).more hl))
    go_loopw [3, 4] (fun i _ wr => ∃ k : Nat, k ≤ n ∧ i = .int .i64 k ∧ Hid (okTo l ds k) ∧ Below W0.heap.size W0 wr) (fun i _ _ => n - (intOf i).toNat)
    case atStart => exact ⟨0, by omega, rfl, okTo_zero _ _, hb1⟩
    case round =>
      clear hb1 m1 hA0
      obtain ⟨k, hk, rfl, HOK, hbw⟩ := hrel
      have hAr := HA.out.on hbw
      have m0 := hAr.more hl
      by_cases hlt : k < n
      · have hkd : k < ds.length := by have := HN.out; omega
        obtain ⟨ad, rfl, c0, c1⟩ := HC.out k hkd
        have c0 := keep_cell hbw c0
        have c1 := keep_cell hbw c1
        have HR := fun W => refRight_any (ds[k]).1 (ds[k]).2 W
        have hB5 : Below wr.heap.size wr (wr.alloc (.cells #[.int .i64 (ds[k]).1, .int .i64 (ds[k]).2] 28)) := below_new _ _
        have hDS0 : DotAt (wr.alloc (.cells #[.int .i64 (ds[k]).1, .int .i64 (ds[k]).2] 28)) wr.heap.size ds[k] := DotAt.new wr ds[k]
        have HPV : Hid (0 < k → ∀ W, Below W0.heap.size W0 W → ∃ pd : D, W.cell? (ad.add ((k - 1) * 2)) = some (.int .i64 pd.1) ∧ W.cell? ⟨(ad.add ((k - 1) * 2)).block, (ad.add ((k - 1) * 2)).off + 1, none⟩ = some (.int .i64 pd.2) ∧ (Dt.comp pd.1 pd.2 (ds[k]).1 (ds[k]).2 = -1 ↔ ∀ h0 : 0 < k, St.lt (ds[k - 1]'(by omega)) ds[k])) := fun h0 W hW => by
          have h' : k - 1 < ds.length := by omega
          obtain ⟨ad3, hao3, c3, c4⟩ := HC.out (k - 1) h'
          cases hao3
          exact ⟨ds[k - 1], keep_cell hW c3, keep_cell hW c4, ⟨fun e _ => lt_comp.2 e, fun e => lt_comp.1 (e h0)⟩⟩
        have HOA : Hid (okAt l ds k ↔ (rightD ds[k] = true ∧ St.at' l ds[k] + 1 < (ds[k]).2 ∧ ∀ h0 : 0 < k, St.lt (ds[k - 1]'(by omega)) ds[k])) := ⟨fun h => h hkd, fun h _ => h⟩
        generalize hP : (∀ h0 : 0 < k, St.lt (ds[k - 1]'(by omega)) ds[k]) = PP at *
        have HP0 : Hid (k = 0 → PP) := fun h0 => by rw [← hP]; exact fun h => absurd h (by omega)
        clear hP
        generalize ds[k] = d at *
        obtain ⟨W5, hW5⟩ : ∃ W5, W5 = wr.alloc (.cells #[.int .i64 d.1, .int .i64 d.2] 28) := ⟨_, rfl⟩
        cases hdr0 : rightD d with
        | false =>
          have HE := HNO.out k (fun h => by have := (HOA.out.1 h).1; rw [hdr0] at this; cases this)
          have hr' : Dt.right d.1 d.2 = false := hdr0
          rw [hr'] at HR
          have hDS : DS wr.heap.size d W5 W5.drew := by rw [hW5]; exact ⟨hDS0, (Below.refl _ _).drew⟩
          have HEE : Hid _ := HE
          clear HE hdr0 hr' HOA HPV HP0
          go_wp2
          rw [← hW5]
          rw [← hW5] at hB5
          clear hW5 hDS0
          refine wp_region_held_drew (S := DS wr.heap.size d W5) (by kernel_rfl) (hDS) (fun hH0 => ?_)
          refine held_take (i := 0) (o := { dst := some 27, op := Op.load 28 (Operand.tmp 4), type := 28, pos := "ref.go:18", after := #[], guard := none }) (v := dV d) (by kernel_rfl) (by kernel_rfl) (by kernel_rfl) (by kernel_rfl) (fun _ _ _ h => h) (by kernel_rfl) (fun _ h => exec_dot rfl (by kernel_rfl) h.1.1 h.1.2) hH0 ?_
          refine held_callX (i := 1) (o := { dst := some 28, op := Op.call { callee := Callee.value (Operand.func 27), args := #[Operand.tmp 27], argTypes := #[28] }, type := 4, pos := "ref.go:18", after := #[{ on := 0, ground := Ground.data }], guard := none }) (F := 27) (vs := #[dV d]) (by kernel_rfl) (by kernel_rfl) (by kernel_rfl) (fun _ => by kernel_rfl) (HR _) ?_
          rintro e w1 ⟨rfl, hb1⟩
          have hH1 := hH0.on hb1
          refine ⟨.bool false, rfl, hH1, ?_⟩
          refine held_take (i := 2) (o := { dst := some 29, op := Op.unOp UnOp.not 4 (Operand.tmp 28), type := 4, pos := "ref.go:18", after := #[{ on := 1, ground := Ground.data }], guard := none }) (v := .bool true) (by kernel_rfl) (by kernel_rfl) (by kernel_rfl) (by kernel_rfl) (fun _ _ _ h => h) (by kernel_rfl) (fun W _ => exec_un rfl (by kernel_rfl) (not_of false) W) hH1 ?_
          refine held_take (i := 3) (o := { dst := some 30, op := Op.move (Operand.tmp 29), type := 4, pos := "ref.go:18", after := #[{ on := 2, ground := Ground.data }, { on := 1, ground := Ground.chain }], guard := none }) (v := .bool true) (by kernel_rfl) (by kernel_rfl) (by kernel_rfl) (by kernel_rfl) (fun _ _ _ h => h) (by kernel_rfl) (fun _ _ => by kernel_rfl) hH1 ?_
          refine held_skip (i := 4) (o := { dst := some 31, op := Op.fieldAddr 28 (Operand.tmp 4) 1, type := 0, pos := "ref.go:18", after := #[{ on := 3, ground := Ground.guard }], guard := some (3, false) }) (by kernel_rfl) (by kernel_rfl) (by kernel_rfl) (by kernel_rfl) (fun _ _ _ h => h) (by kernel_rfl) hH1 ?_
          refine held_skip (i := 5) (o := { dst := some 32, op := Op.load 3 (Operand.tmp 31), type := 3, pos := "ref.go:18", after := #[{ on := 4, ground := Ground.data }, { on := 3, ground := Ground.guard }], guard := some (3, false) }) (by kernel_rfl) (by kernel_rfl) (by kernel_rfl) (by kernel_rfl) (fun _ _ _ h => h) (by kernel_rfl) hH1 ?_
          refine held_skip (i := 6) (o := { dst := some 33, op := Op.binOp BinOp.sub 3 (Operand.tmp 32) (Operand.const (Value.int IntKind.i64 1)) 3, type := 3, pos := "ref.go:18", after := #[{ on := 5, ground := Ground.data }, { on := 3, ground := Ground.guard }], guard := some (3, false) }) (by kernel_rfl) (by kernel_rfl) (by kernel_rfl) (by kernel_rfl) (fun _ _ _ h => h) (by kernel_rfl) hH1 ?_
          refine held_skip (i := 7) (o := { dst := some 34, op := Op.fieldAddr 28 (Operand.tmp 4) 0, type := 0, pos := "ref.go:18", after := #[{ on := 3, ground := Ground.guard }], guard := some (3, false) }) (by kernel_rfl) (by kernel_rfl) (by kernel_rfl) (by kernel_rfl) (fun _ _ _ h => h) (by kernel_rfl) hH1 ?_
          refine held_skip (i := 8) (o := { dst := some 35, op := Op.load 3 (Operand.tmp 34), type := 3, pos := "ref.go:18", after := #[{ on := 7, ground := Ground.data }, { on := 3, ground := Ground.guard }], guard := some (3, false) }) (by kernel_rfl) (by kernel_rfl) (by kernel_rfl) (by kernel_rfl) (fun _ _ _ h => h) (by kernel_rfl) hH1 ?_
          refine held_skip (i := 9) (o := { dst := some 36, op := Op.fieldAddr 26 (Operand.tmp 1) 0, type := 0, pos := "ref.go:18", after := #[{ on := 3, ground := Ground.guard }], guard := some (3, false) }) (by kernel_rfl) (by kernel_rfl) (by kernel_rfl) (by kernel_rfl) (fun _ _ _ h => h) (by kernel_rfl) hH1 ?_
          refine held_skip (i := 10) (o := { dst := some 37, op := Op.indexAddr 23 (Operand.tmp 36) (Operand.tmp 35), type := 0, pos := "ref.go:18", after := #[{ on := 9, ground := Ground.data }, { on := 8, ground := Ground.data }, { on := 3, ground := Ground.guard }], guard := some (3, false) }) (by kernel_rfl) (by kernel_rfl) (by kernel_rfl) (by kernel_rfl) (fun _ _ _ h => h) (by kernel_rfl) hH1 ?_
          refine held_skip (i := 11) (o := { dst := some 38, op := Op.load 3 (Operand.tmp 37), type := 3, pos := "ref.go:18", after := #[{ on := 10, ground := Ground.data }, { on := 3, ground := Ground.guard }], guard := some (3, false) }) (by kernel_rfl) (by kernel_rfl) (by kernel_rfl) (by kernel_rfl) (fun _ _ _ h => h) (by kernel_rfl) hH1 ?_
          refine held_skip (i := 12) (o := { dst := some 39, op := Op.binOp BinOp.leq 3 (Operand.tmp 33) (Operand.tmp 38) 3, type := 4, pos := "ref.go:18", after := #[{ on := 6, ground := Ground.data }, { on := 11, ground := Ground.data }, { on := 3, ground := Ground.guard }], guard := some (3, false) }) (by kernel_rfl) (by kernel_rfl) (by kernel_rfl) (by kernel_rfl) (fun _ _ _ h => h) (by kernel_rfl) hH1 ?_
          refine held_take (i := 13) (o := { dst := some 40, op := Op.pick (Operand.tmp 30) (Operand.const (Value.bool true)) (Operand.tmp 39), type := 4, pos := "ref.go:18", after := #[{ on := 3, ground := Ground.data }, { on := 12, ground := Ground.data }], guard := none }) (v := .bool true) (by kernel_rfl) (by kernel_rfl) (by kernel_rfl) (by kernel_rfl) (fun _ _ _ h => h) (by kernel_rfl) (fun _ _ => by kernel_rfl) hH1 ?_
          refine wpAnyH_done (by kernel_rfl) ?_ _
          simp only [Act.put, List.setIfInBounds_toArray, List.set_cons_zero, List.set_cons_succ]
          go_wp2
          go_ret
          exact ⟨false, rfl, HEE.out, bchain HB.out (bchain hbw (bchain hB5 hH1.2))⟩
        | true =>
          have hdr := St.right_at hdr0
          obtain ⟨r, y⟩ := d
          simp only at *
          obtain ⟨q, rfl⟩ : ∃ q : Nat, r = (q : Int) := ⟨r.toNat, by omega⟩
          have hq16 : q < 16 := by omega
          have hq16' : (q : Int) < 16 := by omega
          have hy1 : 1 ≤ y ∧ y ≤ 1048576 := ⟨hdr.2.2.1, hdr.2.2.2⟩
          have hvk := Vc.right_iff.1 HVR.out q (by omega)
          have hcq := (hAr.alloc (.cells #[.int .i64 (q : Int), .int .i64 y] 28)).cell (k := q) (by omega)
          have hr' : Dt.right (q : Int) y = true := hdr0
          rw [hr'] at HR
          have hix := indexAt_vec w.heap.size q hq16
          have HAT : Hid (St.at' l ((q : Int), y) = l.getD q 0) := by
            have h : St.at' l ((q : Int), y) = l.getD q 0 := by simp only [St.at', Int.toNat_natCast]
            exact h
          have hd0 := hDS0.1
          have hd1 := hDS0.2
          simp only at hd0 hd1
          have hwy : IntKind.i64.wrap (y - 1) = y - 1 := by simp [IntKind.wrap, IntKind.bits, IntKind.signed]; omega
          have HOA' : Hid (okAt l ds k ↔ (l.getD q 0 + 1 < y ∧ PP)) := by
            have h : okAt l ds k ↔ (l.getD q 0 + 1 < y ∧ PP) := by
              rw [HOA.out, HAT.out]
              exact ⟨fun h => h.2, fun h => ⟨hdr0, h⟩⟩
            exact h
          clear hdr hr' HAT HOA hdr0 hDS0
          generalize l.getD q 0 = x at *
          by_cases hg : x + 1 < y
          · have hg3 : ¬ (y - 1 ≤ x) := by omega
            go_wp2
            rw [← hW5]
            rw [← hW5] at hd0 hd1 hcq hB5
            clear hW5
            go_region_held3 (fun W => W.cell? ⟨wr.heap.size, 0, none⟩ = some (.int .i64 (q : Int)) ∧ W.cell? ⟨wr.heap.size, 1, none⟩ = some (.int .i64 y) ∧ W.cell? ⟨w.heap.size, q, none⟩ = some (.int .i64 x) ∧ Below W5.heap.size W5 W)
              (first | exact ⟨hd0, hd1, hcq, (Below.refl _ _).drew⟩ | go_keep | (refine ⟨keep_cell hb ?_, keep_cell hb ?_, keep_cell hb ?_, bchain ?_ hb⟩ <;> go_keep))
              (first | (go_at_call 27; refine (HR _).mono ?_; rintro e w5 ⟨rfl, hb⟩))
            have hb5 : Below W5.heap.size W5 w5 := bchain (Below.refl _ _).drew hb
            have hbw5 : Below W0.heap.size W0 w5 := bchain hbw (bchain hB5 hb5)
            have e0 := keep_cell hb5 hd0
            have e1 := keep_cell hb5 hd1
            have m5 := (HA.out.on hbw5).more hl
            clear hb hb5 hd0 hd1 hcq hB5 HR m0 c0 c1 hAr
            by_cases hk0 : k = 0
            · subst hk0
              have HOK' : Hid (okTo l ds 1) := by have h := okTo_step HOK.out (HOA'.out.2 ⟨hg, HP0.out rfl⟩); exact h
              go_wp2
              go_region
              go_wp2
              go_roundw
              case rel => exact ⟨1, by omega, by go_num, HOK', hbw5.drew⟩
              case measure => simp [intOf]; omega
            · obtain ⟨j, rfl⟩ : ∃ j, k = j + 1 := ⟨k - 1, by omega⟩
              obtain ⟨pd, g0, g1, hcm⟩ := HPV.out (by omega) w5 hbw5
              rw [show j + 1 - 1 = j by omega] at g0 g1
              have HQ := fun W => refComp_any pd.1 pd.2 (q : Int) y W
              have hj0 : (0 : Int) ≤ (j : Int) := by omega
              have hj1 : (j : Int) < (n : Int) := by omega
              have hj2 : (0 : Int) < (j : Int) + 1 := by omega
              have hwj : IntKind.i64.wrap ((j : Int) + 1 - 1) = (j : Int) := by simp [IntKind.wrap, IntKind.bits, IntKind.signed]; omega
              have hwj' : IntKind.i64.wrap (((j + 1 : Nat) : Int) - 1) = (j : Int) := by simp [IntKind.wrap, IntKind.bits, IntKind.signed]; omega
              have hwj2 : IntKind.i64.wrap (j : Int) = (j : Int) := by simp [IntKind.wrap, IntKind.bits, IntKind.signed]; omega
              clear HPV
              by_cases hcz : Dt.comp pd.1 pd.2 (q : Int) y = -1
              · have HOK' : Hid (okTo l ds (j + 1 + 1)) := by have h := okTo_step HOK.out (HOA'.out.2 ⟨hg, hcm.1 hcz⟩); exact h
                rw [hcz] at HQ
                clear hcm hcz
                go_wp2
                go_region_held3 (fun W => W.cell? ⟨wr.heap.size, 0, none⟩ = some (.int .i64 (q : Int)) ∧ W.cell? ⟨wr.heap.size, 1, none⟩ = some (.int .i64 y) ∧ W.cell? ⟨w.heap.size, 16, none⟩ = some (.slice (some ad) n ca) ∧ W.cell? (ad.add (j * 2)) = some (.int .i64 pd.1) ∧ W.cell? ⟨(ad.add (j * 2)).block, (ad.add (j * 2)).off + 1, none⟩ = some (.int .i64 pd.2) ∧ Below w5.heap.size w5 W)
                  (first | exact ⟨e0, e1, m5, g0, g1, (Below.refl _ _).drew⟩ | go_keep | (refine ⟨keep_cell hb ?_, keep_cell hb ?_, keep_cell hb ?_, keep_cell hb ?_, keep_cell hb ?_, bchain ?_ hb⟩ <;> go_keep))
                  (first | (go_at_call 49; refine (HQ _).mono ?_; rintro e w6 ⟨rfl, hb⟩))
                have hb6 : Below w5.heap.size w5 w6 := bchain (Below.refl _ _).drew hb
                go_wp2
                go_roundw
                case rel => exact ⟨j + 1 + 1, by omega, by go_num, HOK', bchain hbw5 hb6⟩
                case measure => simp [intOf]; omega
              · have HE := HNO.out (j + 1) (fun h => hcz (hcm.2 (HOA'.out.1 h).2))
                have HEE : Hid _ := HE
                generalize Dt.comp pd.1 pd.2 (q : Int) y = z at *
                have hzb : (z != -1) = true := by simpa using hcz
                clear hcm HE
                go_wp2
                go_region_held3 (fun W => W.cell? ⟨wr.heap.size, 0, none⟩ = some (.int .i64 (q : Int)) ∧ W.cell? ⟨wr.heap.size, 1, none⟩ = some (.int .i64 y) ∧ W.cell? ⟨w.heap.size, 16, none⟩ = some (.slice (some ad) n ca) ∧ W.cell? (ad.add (j * 2)) = some (.int .i64 pd.1) ∧ W.cell? ⟨(ad.add (j * 2)).block, (ad.add (j * 2)).off + 1, none⟩ = some (.int .i64 pd.2) ∧ Below w5.heap.size w5 W)
                  (first | exact ⟨e0, e1, m5, g0, g1, (Below.refl _ _).drew⟩ | go_keep | (refine ⟨keep_cell hb ?_, keep_cell hb ?_, keep_cell hb ?_, keep_cell hb ?_, keep_cell hb ?_, bchain ?_ hb⟩ <;> go_keep))
                  (first | (go_at_call 49; refine (HQ _).mono ?_; rintro e w6 ⟨rfl, hb⟩))
                have hb6 : Below w5.heap.size w5 w6 := bchain (Below.refl _ _).drew hb
                go_wp2
                go_ret
                exact ⟨false, rfl, HEE.out, bchain HB.out (bchain hbw5 hb6)⟩
          · have hg3 : y - 1 ≤ x := by omega
            have HE := HNO.out k (fun h => hg (HOA'.out.1 h).1)
            have HEE : Hid _ := HE
            clear HE
            go_wp2
            rw [← hW5]
            rw [← hW5] at hd0 hd1 hcq hB5
            clear hW5
            go_region_held3 (fun W => W.cell? ⟨wr.heap.size, 0, none⟩ = some (.int .i64 (q : Int)) ∧ W.cell? ⟨wr.heap.size, 1, none⟩ = some (.int .i64 y) ∧ W.cell? ⟨w.heap.size, q, none⟩ = some (.int .i64 x) ∧ Below W5.heap.size W5 W)
              (first | exact ⟨hd0, hd1, hcq, (Below.refl _ _).drew⟩ | go_keep | (refine ⟨keep_cell hb ?_, keep_cell hb ?_, keep_cell hb ?_, bchain ?_ hb⟩ <;> go_keep))
              (first | (go_at_call 27; refine (HR _).mono ?_; rintro e w5 ⟨rfl, hb⟩))
            have hb5 : Below W5.heap.size W5 w5 := bchain (Below.refl _ _).drew hb
            go_wp2
            go_ret
            exact ⟨false, rfl, HEE.out, bchain HB.out (bchain hbw (bchain hB5 hb5))⟩
      · obtain rfl : k = n := by omega
        have hk' : ¬ (k : Int) < (k : Int) := by omega
        have HE := HYE.out HOK.out
        have HEE : Hid _ := HE
        clear HE
        go_wp2
        go_ret
        exact Or.inr ⟨rfl, (HEE.out.1 (by simp)).1, bchain HB.out hbw⟩
end Go.Proofs.Ytenfbjlmfdiniaa
