/- The walks of Code of a transaction that may be, both sides. -/
import Derived.Test.YtghkjbekjkejpaaTxnLens
namespace Go.Proofs.Ytghkjbekjkejpaa.O
open Go.RowKit


set_option maxRecDepth 20000 in
set_option maxHeartbeats 4000000 in
theorem tcode_true (t : Tx.Txn) (ov : Value) (w : World) (hc : Tx.check t = 0) (ho : opsIn w ov t.ops) (hth : t.thin = true) :
    Calls Try.prog 14 #[.agg #[.int .i64 t.d.1, .int .i64 t.d.2, .int .i64 t.u, .int .i64 t.t, .bool true, ov]] w fun e w' => e = .returned (.string ⟨(Tx.code t).toArray⟩) ∧ Below w.heap.size w w' := by
  obtain ⟨ao, cap, rfl⟩ := ho.slice
  obtain ⟨m, hm⟩ : ∃ m, m = t.ops.length := ⟨_, rfl⟩
  have HM : Hid (m = t.ops.length) := hm
  rw [← hm] at ho ⊢
  have HO : Hid (opsIn w (.slice ao m cap) t.ops) := ho
  have HC : Hid (Tx.check t = 0) := hc
  have hck := Tx.check_zero hc
  have hm16 : m ≤ 16 := by omega
  have HLen : Hid (∀ k, (oTo t k).length ≤ 400000) := by have h := oTo_len hc; exact h
  have hTN : thinN t = 1 := by unfold thinN; rw [hth]; rfl
  obtain ⟨W0, hW0⟩ : ∃ W0, W0 = w.alloc (.cells #[.int .i64 t.d.1, .int .i64 t.d.2, .int .i64 t.u, .int .i64 t.t, .bool true, .slice ao m cap] 26) := ⟨_, rfl⟩
  have B0 : Below w.heap.size w W0 := by rw [hW0]; exact below_new w _
  have O0 : TAt W0 w.heap.size t (.slice ao m cap) := by
    have h := TAt.new w t (.slice ao m cap)
    dsimp only [txO] at h
    rw [hth] at h
    rw [hW0]
    exact h
  have hs0 : w.heap.size + 1 = W0.heap.size := by rw [hW0]; simp
  have HS0 : Hid (w.heap.size + 1 = W0.heap.size) := hs0
  obtain ⟨W1, hW1⟩ : ∃ W1, W1 = W0.alloc (.cells #[.pointer none, .slice none 0 0] 59) := ⟨_, rfl⟩
  have hI : Lib.IsBuilderF 59 5 W0.heap.size W0.heap.size (Lib.byteCells []) W1 := by
    rw [hW1]
    have := Lib.IsBuilderF.of (Lib.fresh_isBuilder 59 5 W0)
    simpa [Lib.byteCells] using this
  have hB1 : Below W0.heap.size W0 W1 := by rw [hW1]; exact below_new _ _
  have C34 := fun W => tdcode_any t hc W
  have HL0 : Hid ((Lib.byteCells []).length + (⟨(dcodeT t).toArray⟩ : ByteArray).size ≤ 140737488355328) := by
    have h := str_room (s := []) (q := dcodeT t) (by have := dcodeT_len hc; simp; omega)
    exact h
  have HX0 : Hid (Lib.byteCells [] ++ Lib.strCells ⟨(dcodeT t).toArray⟩ = Lib.byteCells (hTo t 0)) := by
    have h : Lib.byteCells [] ++ Lib.strCells ⟨(dcodeT t).toArray⟩ = Lib.byteCells (hTo t 0) := by rw [str_append]; rfl
    exact h
  have HF4 : Hid (∀ i, 0 ≤ fourT t i ∧ fourT t i < 72057594037927936) := by have h := fourT_fits hc; exact h
  have HTL : Hid (∀ i, (hTo t i).length ≤ 54) := by have h := hTo_len hc; exact h
  have HTN : Hid (thinN t = 1) := hTN
  have hH : hTo t 4 = oTo t 0 := by rw [oTo_zero]; rfl
  have HH : Hid (hTo t 4 = oTo t 0) := hH
  have HE : Hid (oTo t m = Tx.code t) := by have h := oTo_all t (k := m) (by omega); exact h
  clear ho hc hck hm hTN hth hH hs0
  go_enter Try.func14, Try.ntmps14
  go_wp2_with fail
  refine (C34 _).mono ?_
  rintro e w1 ⟨rfl, hb1⟩
  rw [← hW0, ← hW1] at hb1
  have hsz := B0.size
  have hI1 := builder_below hI hb1
  have hB2 := bchain hB1 hb1
  have hz1 := hB2.size
  go_wp2_with fail
  rw [HS0.out]
  refine (U.writeString_any W0.heap.size W0.heap.size _ _ _ hI1 HL0.out (by omega)).mono ?_
  rintro e w2 ⟨rfl, hI2, hb2, _⟩
  rw [HX0.out] at hI2
  have hB3 := hB2.trans hb2
  obtain ⟨c0, c1, c2, c3, c4, c5⟩ := O0.on hB3
  have hz2 : W0.heap.size < w2.heap.size := builder_at_lt hI2
  have hI3 := builder_below hI2 (below_new w2 (.cells #[.int .i64 t.u, .int .i64 t.t, .int .i64 1, .int .i64 (m : Int)] 3))
  have hB4 := bchain hB3 (below_new w2 (.cells #[.int .i64 t.u, .int .i64 t.t, .int .i64 1, .int .i64 (m : Int)] 3))
  have hv4 := heap_alloc_new w2 (.cells #[.int .i64 t.u, .int .i64 t.t, .int .i64 1, .int .i64 (m : Int)] 3)
  clear hI hI1 hb1 hb2 hB1 hB2 hI2 hW0 hW1 HX0 HL0 C34 hz1
  go_wp2
  generalize hp4 : w2.alloc (.cells #[.int .i64 t.u, .int .i64 t.t, .int .i64 1, .int .i64 (m : Int)] 3) = w4 at *
  clear hp4 c0 c1 c2 c3 c4 c5
  go_loopw [6, 25] (fun _ i wr => ∃ k : Nat, k ≤ 4 ∧ i = .int .i64 k ∧ Lib.IsBuilderF 59 5 W0.heap.size W0.heap.size (Lib.byteCells (hTo t k)) wr ∧ Below W0.heap.size W0 wr ∧ wr.heap[w2.heap.size]? = some (.cells #[.int .i64 t.u, .int .i64 t.t, .int .i64 1, .int .i64 (m : Int)] 3)) (fun _ i _ => 4 - (intOf i).toNat)
  case atStart => exact ⟨0, by omega, rfl, hI3, hB4, hv4⟩
  case round =>
    clear hI3 hB4 hv4
    obtain ⟨k, hk, rfl, hI, hB, hv⟩ := hrel
    have hne : w2.heap.size ≠ W0.heap.size := by omega
    have hs1 := hB.size
    match k, hk with
    | 0, _ =>
      have ef : fourT t 0 = t.u := rfl
      have hf := HF4.out 0
      have hst := hTo_step t (i := 0) (by omega)
      rw [ef] at hf hst
      have hl0 := HTL.out 0
      have he := Pk.enc_len9 (n := (t.u).toNat) (by omega)
      have HCi : ∀ w1, Calls Try.prog 40 #[.int .i64 t.u] w1 fun e w2 => e = .returned (.string ⟨(Pk.enc (t.u).toNat).toArray⟩) ∧ Below w1.heap.size w1 w2 := fun w1 => int_any t.u w1 (by omega) (by omega)
      have HR : Hid ((Lib.byteCells (hTo t 0)).length + (⟨(Pk.enc (t.u).toNat).toArray⟩ : ByteArray).size ≤ 140737488355328) := by
        have h := str_room (s := hTo t 0) (q := Pk.enc (t.u).toNat) (by omega)
        exact h
      have HX : Hid (Lib.byteCells (hTo t 0) ++ Lib.strCells ⟨(Pk.enc (t.u).toNat).toArray⟩ = Lib.byteCells (hTo t (0 + 1))) := by
        have h : Lib.byteCells (hTo t 0) ++ Lib.strCells ⟨(Pk.enc (t.u).toNat).toArray⟩ = Lib.byteCells (hTo t (0 + 1)) := by rw [str_append, ← hst]
        exact h
      clear ef hf hst hl0 he
      generalize Pk.enc (t.u).toNat = q1 at *
      have d0 : wr.cell? ⟨w2.heap.size, 0, none⟩ = some (.int .i64 t.u) := by rw [Lib.cell_of_heap hv]; rfl
      go_wp2_with fail
      refine (HCi _).mono ?_
      rintro e u1 ⟨rfl, hb1⟩
      have hI1 := builder_below hI hb1
      have hB1 := bchain hB hb1
      have hs2 := hB1.size
      have hv1 := (hb1.block _ (U.heap_lt hv)).trans hv
      go_wp2_with fail
      refine (U.writeString_any W0.heap.size W0.heap.size _ _ _ hI1 HR.out (by omega)).mono ?_
      rintro e u2 ⟨rfl, hI2, hb2, ho2⟩
      rw [HX.out] at hI2
      have hB2 := hB1.trans hb2
      have hv2 := ho2 _ _ hv1 (by simpa using hne) (by intro c fz q; cases q)
      go_wp2
      go_roundw
      case rel => exact ⟨0 + 1, by omega, by go_num, hI2, hB2, hv2⟩
      case measure => simp [intOf]
    | 1, _ =>
      have ef : fourT t 1 = t.t := rfl
      have hf := HF4.out 1
      have hst := hTo_step t (i := 1) (by omega)
      rw [ef] at hf hst
      have hl0 := HTL.out 1
      have he := Pk.enc_len9 (n := (t.t).toNat) (by omega)
      have HCi : ∀ w1, Calls Try.prog 40 #[.int .i64 t.t] w1 fun e w2 => e = .returned (.string ⟨(Pk.enc (t.t).toNat).toArray⟩) ∧ Below w1.heap.size w1 w2 := fun w1 => int_any t.t w1 (by omega) (by omega)
      have HR : Hid ((Lib.byteCells (hTo t 1)).length + (⟨(Pk.enc (t.t).toNat).toArray⟩ : ByteArray).size ≤ 140737488355328) := by
        have h := str_room (s := hTo t 1) (q := Pk.enc (t.t).toNat) (by omega)
        exact h
      have HX : Hid (Lib.byteCells (hTo t 1) ++ Lib.strCells ⟨(Pk.enc (t.t).toNat).toArray⟩ = Lib.byteCells (hTo t (1 + 1))) := by
        have h : Lib.byteCells (hTo t 1) ++ Lib.strCells ⟨(Pk.enc (t.t).toNat).toArray⟩ = Lib.byteCells (hTo t (1 + 1)) := by rw [str_append, ← hst]
        exact h
      clear ef hf hst hl0 he
      generalize Pk.enc (t.t).toNat = q1 at *
      have d0 : wr.cell? ⟨w2.heap.size, 1, none⟩ = some (.int .i64 t.t) := by rw [Lib.cell_of_heap hv]; rfl
      go_wp2_with fail
      refine (HCi _).mono ?_
      rintro e u1 ⟨rfl, hb1⟩
      have hI1 := builder_below hI hb1
      have hB1 := bchain hB hb1
      have hs2 := hB1.size
      have hv1 := (hb1.block _ (U.heap_lt hv)).trans hv
      go_wp2_with fail
      refine (U.writeString_any W0.heap.size W0.heap.size _ _ _ hI1 HR.out (by omega)).mono ?_
      rintro e u2 ⟨rfl, hI2, hb2, ho2⟩
      rw [HX.out] at hI2
      have hB2 := hB1.trans hb2
      have hv2 := ho2 _ _ hv1 (by simpa using hne) (by intro c fz q; cases q)
      go_wp2
      go_roundw
      case rel => exact ⟨1 + 1, by omega, by go_num, hI2, hB2, hv2⟩
      case measure => simp [intOf]
    | 2, _ =>
      have ef : fourT t 2 = (1 : Int) := by show (thinN t : Int) = 1; rw [HTN.out]; rfl
      have hf := HF4.out 2
      have hst := hTo_step t (i := 2) (by omega)
      rw [ef] at hf hst
      have hl0 := HTL.out 2
      have he := Pk.enc_len9 (n := ((1 : Int)).toNat) (by omega)
      have HCi : ∀ w1, Calls Try.prog 40 #[.int .i64 (1 : Int)] w1 fun e w2 => e = .returned (.string ⟨(Pk.enc ((1 : Int)).toNat).toArray⟩) ∧ Below w1.heap.size w1 w2 := fun w1 => int_any (1 : Int) w1 (by omega) (by omega)
      have HR : Hid ((Lib.byteCells (hTo t 2)).length + (⟨(Pk.enc ((1 : Int)).toNat).toArray⟩ : ByteArray).size ≤ 140737488355328) := by
        have h := str_room (s := hTo t 2) (q := Pk.enc ((1 : Int)).toNat) (by omega)
        exact h
      have HX : Hid (Lib.byteCells (hTo t 2) ++ Lib.strCells ⟨(Pk.enc ((1 : Int)).toNat).toArray⟩ = Lib.byteCells (hTo t (2 + 1))) := by
        have h : Lib.byteCells (hTo t 2) ++ Lib.strCells ⟨(Pk.enc ((1 : Int)).toNat).toArray⟩ = Lib.byteCells (hTo t (2 + 1)) := by rw [str_append, ← hst]
        exact h
      clear ef hf hst hl0 he
      generalize Pk.enc ((1 : Int)).toNat = q1 at *
      have d0 : wr.cell? ⟨w2.heap.size, 2, none⟩ = some (.int .i64 (1 : Int)) := by rw [Lib.cell_of_heap hv]; rfl
      go_wp2_with fail
      refine (HCi _).mono ?_
      rintro e u1 ⟨rfl, hb1⟩
      have hI1 := builder_below hI hb1
      have hB1 := bchain hB hb1
      have hs2 := hB1.size
      have hv1 := (hb1.block _ (U.heap_lt hv)).trans hv
      go_wp2_with fail
      refine (U.writeString_any W0.heap.size W0.heap.size _ _ _ hI1 HR.out (by omega)).mono ?_
      rintro e u2 ⟨rfl, hI2, hb2, ho2⟩
      rw [HX.out] at hI2
      have hB2 := hB1.trans hb2
      have hv2 := ho2 _ _ hv1 (by simpa using hne) (by intro c fz q; cases q)
      go_wp2
      go_roundw
      case rel => exact ⟨2 + 1, by omega, by go_num, hI2, hB2, hv2⟩
      case measure => simp [intOf]
    | 3, _ =>
      have ef : fourT t 3 = (m : Int) := by show (t.ops.length : Int) = (m : Int); rw [HM.out]
      have hf := HF4.out 3
      have hst := hTo_step t (i := 3) (by omega)
      rw [ef] at hf hst
      have hl0 := HTL.out 3
      have he := Pk.enc_len9 (n := ((m : Int)).toNat) (by omega)
      have HCi : ∀ w1, Calls Try.prog 40 #[.int .i64 (m : Int)] w1 fun e w2 => e = .returned (.string ⟨(Pk.enc ((m : Int)).toNat).toArray⟩) ∧ Below w1.heap.size w1 w2 := fun w1 => int_any (m : Int) w1 (by omega) (by omega)
      have HR : Hid ((Lib.byteCells (hTo t 3)).length + (⟨(Pk.enc ((m : Int)).toNat).toArray⟩ : ByteArray).size ≤ 140737488355328) := by
        have h := str_room (s := hTo t 3) (q := Pk.enc ((m : Int)).toNat) (by omega)
        exact h
      have HX : Hid (Lib.byteCells (hTo t 3) ++ Lib.strCells ⟨(Pk.enc ((m : Int)).toNat).toArray⟩ = Lib.byteCells (hTo t (3 + 1))) := by
        have h : Lib.byteCells (hTo t 3) ++ Lib.strCells ⟨(Pk.enc ((m : Int)).toNat).toArray⟩ = Lib.byteCells (hTo t (3 + 1)) := by rw [str_append, ← hst]
        exact h
      clear ef hf hst hl0 he
      generalize Pk.enc ((m : Int)).toNat = q1 at *
      have d0 : wr.cell? ⟨w2.heap.size, 3, none⟩ = some (.int .i64 (m : Int)) := by rw [Lib.cell_of_heap hv]; rfl
      go_wp2_with fail
      refine (HCi _).mono ?_
      rintro e u1 ⟨rfl, hb1⟩
      have hI1 := builder_below hI hb1
      have hB1 := bchain hB hb1
      have hs2 := hB1.size
      have hv1 := (hb1.block _ (U.heap_lt hv)).trans hv
      go_wp2_with fail
      refine (U.writeString_any W0.heap.size W0.heap.size _ _ _ hI1 HR.out (by omega)).mono ?_
      rintro e u2 ⟨rfl, hI2, hb2, ho2⟩
      rw [HX.out] at hI2
      have hB2 := hB1.trans hb2
      have hv2 := ho2 _ _ hv1 (by simpa using hne) (by intro c fz q; cases q)
      go_wp2
      go_roundw
      case rel => exact ⟨3 + 1, by omega, by go_num, hI2, hB2, hv2⟩
      case measure => simp [intOf]
    | 4, _ =>
      rw [HH.out] at hI
      rw [show ((4 : Nat) : Int) = 4 from rfl]
      obtain ⟨c0, c1, c2, c3, c4, c5⟩ := O0.on hB
      clear hv
      go_wp2
      clear c0 c1 c2 c3 c4 c5
      go_loopw [8, 36] (fun _ i wr => ∃ k : Nat, k ≤ m ∧ i = .int .i64 k ∧ Lib.IsBuilderF 59 5 W0.heap.size W0.heap.size (Lib.byteCells (oTo t k)) wr ∧ Below W0.heap.size W0 wr) (fun _ i _ => m - (intOf i).toNat)
      case atStart => exact ⟨0, by omega, rfl, hI, hB⟩
      case round =>
        clear hI hB hs1
        rename_i w5 _
        obtain ⟨k, hk, rfl, hI, hB⟩ := hrel
        by_cases hlt : k < m
        · have hkx : k < t.ops.length := by have := HM.out; omega
          obtain ⟨ad, pv, sv, rfl, hA, hp, hs⟩ := (HO.out.on (B0.trans (hB.mono (by omega)))).get hkx
          obtain ⟨pa, pn, pc, rfl⟩ := strs_slice hp
          obtain ⟨sa, sn, sc, rfl⟩ := refs_slice hs
          obtain ⟨a0, a1, a2, a3, a4, a5, a6⟩ := hA
          have hi0 : (0 : Int) ≤ (k : Int) := by omega
          have hi1 : (k : Int) < (m : Int) := by omega
          have Co := fun W hb => ocode t.ops[k] (.slice pa pn pc) (.slice sa sn sc) W (may_of HC.out _ (List.getElem_mem hkx)) (U.strsAt_below hp hb (Nat.le_refl _)) (hs.on hb)
          have hst := oTo_step t hkx
          have hl0 := HLen.out k
          have hl1 := HLen.out (k + 1)
          rw [hst, List.length_append] at hl1
          have HR : Hid ((Lib.byteCells (oTo t k)).length + (⟨(Os.code t.ops[k]).toArray⟩ : ByteArray).size ≤ 140737488355328) := by
            have h := str_room (s := oTo t k) (q := Os.code t.ops[k]) (by omega)
            exact h
          have HX : Hid (Lib.byteCells (oTo t k) ++ Lib.strCells ⟨(Os.code t.ops[k]).toArray⟩ = Lib.byteCells (oTo t (k + 1))) := by
            have h : Lib.byteCells (oTo t k) ++ Lib.strCells ⟨(Os.code t.ops[k]).toArray⟩ = Lib.byteCells (oTo t (k + 1)) := by rw [str_append, ← hst]
            exact h
          clear hst hl0 hl1 hp hs
          generalize Os.code t.ops[k] = q1 at *
          generalize t.ops[k] = x at *
          have b0 := below_new wr (oO x (.slice pa pn pc) (.slice sa sn sc))
          have hI0 := builder_below hI b0
          have hB0 := bchain hB b0
          go_wp2_with fail
          refine (Co _ b0).mono ?_
          rintro e u1 ⟨rfl, hb1⟩
          have hI1 := builder_below hI0 hb1
          have hB1 := bchain hB0 hb1
          have hs2 := hB1.size
          go_wp2_with fail
          refine (U.writeString_any W0.heap.size W0.heap.size _ _ _ hI1 HR.out (by omega)).mono ?_
          rintro e u2 ⟨rfl, hI2, hb2, _⟩
          rw [HX.out] at hI2
          go_wp2
          go_roundw
          case rel => exact ⟨k + 1, by omega, by go_num, hI2, hB1.trans hb2⟩
          case measure => simp [intOf]; omega
        · obtain rfl : k = m := by omega
          have hs1 := hB.size
          rw [HE.out] at hI
          go_wp2_with (go_at_call 42; refine (bString W0.heap.size W0.heap.size _ _ hI (by omega)).mono ?_; rintro e u1 ⟨rfl, _, hb, _⟩)
          go_ret
          exact ⟨rfl, B0.trans ((hB.trans hb).mono (by omega))⟩

set_option maxRecDepth 20000 in
set_option maxHeartbeats 4000000 in
theorem tcode_false (t : Tx.Txn) (ov : Value) (w : World) (hc : Tx.check t = 0) (ho : opsIn w ov t.ops) (hth : t.thin = false) :
    Calls Try.prog 14 #[.agg #[.int .i64 t.d.1, .int .i64 t.d.2, .int .i64 t.u, .int .i64 t.t, .bool false, ov]] w fun e w' => e = .returned (.string ⟨(Tx.code t).toArray⟩) ∧ Below w.heap.size w w' := by
  obtain ⟨ao, cap, rfl⟩ := ho.slice
  obtain ⟨m, hm⟩ : ∃ m, m = t.ops.length := ⟨_, rfl⟩
  have HM : Hid (m = t.ops.length) := hm
  rw [← hm] at ho ⊢
  have HO : Hid (opsIn w (.slice ao m cap) t.ops) := ho
  have HC : Hid (Tx.check t = 0) := hc
  have hck := Tx.check_zero hc
  have hm16 : m ≤ 16 := by omega
  have HLen : Hid (∀ k, (oTo t k).length ≤ 400000) := by have h := oTo_len hc; exact h
  have hTN : thinN t = 0 := by unfold thinN; rw [hth]; rfl
  obtain ⟨W0, hW0⟩ : ∃ W0, W0 = w.alloc (.cells #[.int .i64 t.d.1, .int .i64 t.d.2, .int .i64 t.u, .int .i64 t.t, .bool false, .slice ao m cap] 26) := ⟨_, rfl⟩
  have B0 : Below w.heap.size w W0 := by rw [hW0]; exact below_new w _
  have O0 : TAt W0 w.heap.size t (.slice ao m cap) := by
    have h := TAt.new w t (.slice ao m cap)
    dsimp only [txO] at h
    rw [hth] at h
    rw [hW0]
    exact h
  have hs0 : w.heap.size + 1 = W0.heap.size := by rw [hW0]; simp
  have HS0 : Hid (w.heap.size + 1 = W0.heap.size) := hs0
  obtain ⟨W1, hW1⟩ : ∃ W1, W1 = W0.alloc (.cells #[.pointer none, .slice none 0 0] 59) := ⟨_, rfl⟩
  have hI : Lib.IsBuilderF 59 5 W0.heap.size W0.heap.size (Lib.byteCells []) W1 := by
    rw [hW1]
    have := Lib.IsBuilderF.of (Lib.fresh_isBuilder 59 5 W0)
    simpa [Lib.byteCells] using this
  have hB1 : Below W0.heap.size W0 W1 := by rw [hW1]; exact below_new _ _
  have C34 := fun W => tdcode_any t hc W
  have HL0 : Hid ((Lib.byteCells []).length + (⟨(dcodeT t).toArray⟩ : ByteArray).size ≤ 140737488355328) := by
    have h := str_room (s := []) (q := dcodeT t) (by have := dcodeT_len hc; simp; omega)
    exact h
  have HX0 : Hid (Lib.byteCells [] ++ Lib.strCells ⟨(dcodeT t).toArray⟩ = Lib.byteCells (hTo t 0)) := by
    have h : Lib.byteCells [] ++ Lib.strCells ⟨(dcodeT t).toArray⟩ = Lib.byteCells (hTo t 0) := by rw [str_append]; rfl
    exact h
  have HF4 : Hid (∀ i, 0 ≤ fourT t i ∧ fourT t i < 72057594037927936) := by have h := fourT_fits hc; exact h
  have HTL : Hid (∀ i, (hTo t i).length ≤ 54) := by have h := hTo_len hc; exact h
  have HTN : Hid (thinN t = 0) := hTN
  have hH : hTo t 4 = oTo t 0 := by rw [oTo_zero]; rfl
  have HH : Hid (hTo t 4 = oTo t 0) := hH
  have HE : Hid (oTo t m = Tx.code t) := by have h := oTo_all t (k := m) (by omega); exact h
  clear ho hc hck hm hTN hth hH hs0
  go_enter Try.func14, Try.ntmps14
  go_wp2_with fail
  refine (C34 _).mono ?_
  rintro e w1 ⟨rfl, hb1⟩
  rw [← hW0, ← hW1] at hb1
  have hsz := B0.size
  have hI1 := builder_below hI hb1
  have hB2 := bchain hB1 hb1
  have hz1 := hB2.size
  go_wp2_with fail
  rw [HS0.out]
  refine (U.writeString_any W0.heap.size W0.heap.size _ _ _ hI1 HL0.out (by omega)).mono ?_
  rintro e w2 ⟨rfl, hI2, hb2, _⟩
  rw [HX0.out] at hI2
  have hB3 := hB2.trans hb2
  obtain ⟨c0, c1, c2, c3, c4, c5⟩ := O0.on hB3
  have hz2 : W0.heap.size < w2.heap.size := builder_at_lt hI2
  have hI3 := builder_below hI2 (below_new w2 (.cells #[.int .i64 t.u, .int .i64 t.t, .int .i64 0, .int .i64 (m : Int)] 3))
  have hB4 := bchain hB3 (below_new w2 (.cells #[.int .i64 t.u, .int .i64 t.t, .int .i64 0, .int .i64 (m : Int)] 3))
  have hv4 := heap_alloc_new w2 (.cells #[.int .i64 t.u, .int .i64 t.t, .int .i64 0, .int .i64 (m : Int)] 3)
  clear hI hI1 hb1 hb2 hB1 hB2 hI2 hW0 hW1 HX0 HL0 C34 hz1
  go_wp2
  generalize hp4 : w2.alloc (.cells #[.int .i64 t.u, .int .i64 t.t, .int .i64 0, .int .i64 (m : Int)] 3) = w4 at *
  clear hp4 c0 c1 c2 c3 c4 c5
  go_loopw [6, 25] (fun _ i wr => ∃ k : Nat, k ≤ 4 ∧ i = .int .i64 k ∧ Lib.IsBuilderF 59 5 W0.heap.size W0.heap.size (Lib.byteCells (hTo t k)) wr ∧ Below W0.heap.size W0 wr ∧ wr.heap[w2.heap.size]? = some (.cells #[.int .i64 t.u, .int .i64 t.t, .int .i64 0, .int .i64 (m : Int)] 3)) (fun _ i _ => 4 - (intOf i).toNat)
  case atStart => exact ⟨0, by omega, rfl, hI3, hB4, hv4⟩
  case round =>
    clear hI3 hB4 hv4
    obtain ⟨k, hk, rfl, hI, hB, hv⟩ := hrel
    have hne : w2.heap.size ≠ W0.heap.size := by omega
    have hs1 := hB.size
    match k, hk with
    | 0, _ =>
      have ef : fourT t 0 = t.u := rfl
      have hf := HF4.out 0
      have hst := hTo_step t (i := 0) (by omega)
      rw [ef] at hf hst
      have hl0 := HTL.out 0
      have he := Pk.enc_len9 (n := (t.u).toNat) (by omega)
      have HCi : ∀ w1, Calls Try.prog 40 #[.int .i64 t.u] w1 fun e w2 => e = .returned (.string ⟨(Pk.enc (t.u).toNat).toArray⟩) ∧ Below w1.heap.size w1 w2 := fun w1 => int_any t.u w1 (by omega) (by omega)
      have HR : Hid ((Lib.byteCells (hTo t 0)).length + (⟨(Pk.enc (t.u).toNat).toArray⟩ : ByteArray).size ≤ 140737488355328) := by
        have h := str_room (s := hTo t 0) (q := Pk.enc (t.u).toNat) (by omega)
        exact h
      have HX : Hid (Lib.byteCells (hTo t 0) ++ Lib.strCells ⟨(Pk.enc (t.u).toNat).toArray⟩ = Lib.byteCells (hTo t (0 + 1))) := by
        have h : Lib.byteCells (hTo t 0) ++ Lib.strCells ⟨(Pk.enc (t.u).toNat).toArray⟩ = Lib.byteCells (hTo t (0 + 1)) := by rw [str_append, ← hst]
        exact h
      clear ef hf hst hl0 he
      generalize Pk.enc (t.u).toNat = q1 at *
      have d0 : wr.cell? ⟨w2.heap.size, 0, none⟩ = some (.int .i64 t.u) := by rw [Lib.cell_of_heap hv]; rfl
      go_wp2_with fail
      refine (HCi _).mono ?_
      rintro e u1 ⟨rfl, hb1⟩
      have hI1 := builder_below hI hb1
      have hB1 := bchain hB hb1
      have hs2 := hB1.size
      have hv1 := (hb1.block _ (U.heap_lt hv)).trans hv
      go_wp2_with fail
      refine (U.writeString_any W0.heap.size W0.heap.size _ _ _ hI1 HR.out (by omega)).mono ?_
      rintro e u2 ⟨rfl, hI2, hb2, ho2⟩
      rw [HX.out] at hI2
      have hB2 := hB1.trans hb2
      have hv2 := ho2 _ _ hv1 (by simpa using hne) (by intro c fz q; cases q)
      go_wp2
      go_roundw
      case rel => exact ⟨0 + 1, by omega, by go_num, hI2, hB2, hv2⟩
      case measure => simp [intOf]
    | 1, _ =>
      have ef : fourT t 1 = t.t := rfl
      have hf := HF4.out 1
      have hst := hTo_step t (i := 1) (by omega)
      rw [ef] at hf hst
      have hl0 := HTL.out 1
      have he := Pk.enc_len9 (n := (t.t).toNat) (by omega)
      have HCi : ∀ w1, Calls Try.prog 40 #[.int .i64 t.t] w1 fun e w2 => e = .returned (.string ⟨(Pk.enc (t.t).toNat).toArray⟩) ∧ Below w1.heap.size w1 w2 := fun w1 => int_any t.t w1 (by omega) (by omega)
      have HR : Hid ((Lib.byteCells (hTo t 1)).length + (⟨(Pk.enc (t.t).toNat).toArray⟩ : ByteArray).size ≤ 140737488355328) := by
        have h := str_room (s := hTo t 1) (q := Pk.enc (t.t).toNat) (by omega)
        exact h
      have HX : Hid (Lib.byteCells (hTo t 1) ++ Lib.strCells ⟨(Pk.enc (t.t).toNat).toArray⟩ = Lib.byteCells (hTo t (1 + 1))) := by
        have h : Lib.byteCells (hTo t 1) ++ Lib.strCells ⟨(Pk.enc (t.t).toNat).toArray⟩ = Lib.byteCells (hTo t (1 + 1)) := by rw [str_append, ← hst]
        exact h
      clear ef hf hst hl0 he
      generalize Pk.enc (t.t).toNat = q1 at *
      have d0 : wr.cell? ⟨w2.heap.size, 1, none⟩ = some (.int .i64 t.t) := by rw [Lib.cell_of_heap hv]; rfl
      go_wp2_with fail
      refine (HCi _).mono ?_
      rintro e u1 ⟨rfl, hb1⟩
      have hI1 := builder_below hI hb1
      have hB1 := bchain hB hb1
      have hs2 := hB1.size
      have hv1 := (hb1.block _ (U.heap_lt hv)).trans hv
      go_wp2_with fail
      refine (U.writeString_any W0.heap.size W0.heap.size _ _ _ hI1 HR.out (by omega)).mono ?_
      rintro e u2 ⟨rfl, hI2, hb2, ho2⟩
      rw [HX.out] at hI2
      have hB2 := hB1.trans hb2
      have hv2 := ho2 _ _ hv1 (by simpa using hne) (by intro c fz q; cases q)
      go_wp2
      go_roundw
      case rel => exact ⟨1 + 1, by omega, by go_num, hI2, hB2, hv2⟩
      case measure => simp [intOf]
    | 2, _ =>
      have ef : fourT t 2 = (0 : Int) := by show (thinN t : Int) = 0; rw [HTN.out]; rfl
      have hf := HF4.out 2
      have hst := hTo_step t (i := 2) (by omega)
      rw [ef] at hf hst
      have hl0 := HTL.out 2
      have he := Pk.enc_len9 (n := ((0 : Int)).toNat) (by omega)
      have HCi : ∀ w1, Calls Try.prog 40 #[.int .i64 (0 : Int)] w1 fun e w2 => e = .returned (.string ⟨(Pk.enc ((0 : Int)).toNat).toArray⟩) ∧ Below w1.heap.size w1 w2 := fun w1 => int_any (0 : Int) w1 (by omega) (by omega)
      have HR : Hid ((Lib.byteCells (hTo t 2)).length + (⟨(Pk.enc ((0 : Int)).toNat).toArray⟩ : ByteArray).size ≤ 140737488355328) := by
        have h := str_room (s := hTo t 2) (q := Pk.enc ((0 : Int)).toNat) (by omega)
        exact h
      have HX : Hid (Lib.byteCells (hTo t 2) ++ Lib.strCells ⟨(Pk.enc ((0 : Int)).toNat).toArray⟩ = Lib.byteCells (hTo t (2 + 1))) := by
        have h : Lib.byteCells (hTo t 2) ++ Lib.strCells ⟨(Pk.enc ((0 : Int)).toNat).toArray⟩ = Lib.byteCells (hTo t (2 + 1)) := by rw [str_append, ← hst]
        exact h
      clear ef hf hst hl0 he
      generalize Pk.enc ((0 : Int)).toNat = q1 at *
      have d0 : wr.cell? ⟨w2.heap.size, 2, none⟩ = some (.int .i64 (0 : Int)) := by rw [Lib.cell_of_heap hv]; rfl
      go_wp2_with fail
      refine (HCi _).mono ?_
      rintro e u1 ⟨rfl, hb1⟩
      have hI1 := builder_below hI hb1
      have hB1 := bchain hB hb1
      have hs2 := hB1.size
      have hv1 := (hb1.block _ (U.heap_lt hv)).trans hv
      go_wp2_with fail
      refine (U.writeString_any W0.heap.size W0.heap.size _ _ _ hI1 HR.out (by omega)).mono ?_
      rintro e u2 ⟨rfl, hI2, hb2, ho2⟩
      rw [HX.out] at hI2
      have hB2 := hB1.trans hb2
      have hv2 := ho2 _ _ hv1 (by simpa using hne) (by intro c fz q; cases q)
      go_wp2
      go_roundw
      case rel => exact ⟨2 + 1, by omega, by go_num, hI2, hB2, hv2⟩
      case measure => simp [intOf]
    | 3, _ =>
      have ef : fourT t 3 = (m : Int) := by show (t.ops.length : Int) = (m : Int); rw [HM.out]
      have hf := HF4.out 3
      have hst := hTo_step t (i := 3) (by omega)
      rw [ef] at hf hst
      have hl0 := HTL.out 3
      have he := Pk.enc_len9 (n := ((m : Int)).toNat) (by omega)
      have HCi : ∀ w1, Calls Try.prog 40 #[.int .i64 (m : Int)] w1 fun e w2 => e = .returned (.string ⟨(Pk.enc ((m : Int)).toNat).toArray⟩) ∧ Below w1.heap.size w1 w2 := fun w1 => int_any (m : Int) w1 (by omega) (by omega)
      have HR : Hid ((Lib.byteCells (hTo t 3)).length + (⟨(Pk.enc ((m : Int)).toNat).toArray⟩ : ByteArray).size ≤ 140737488355328) := by
        have h := str_room (s := hTo t 3) (q := Pk.enc ((m : Int)).toNat) (by omega)
        exact h
      have HX : Hid (Lib.byteCells (hTo t 3) ++ Lib.strCells ⟨(Pk.enc ((m : Int)).toNat).toArray⟩ = Lib.byteCells (hTo t (3 + 1))) := by
        have h : Lib.byteCells (hTo t 3) ++ Lib.strCells ⟨(Pk.enc ((m : Int)).toNat).toArray⟩ = Lib.byteCells (hTo t (3 + 1)) := by rw [str_append, ← hst]
        exact h
      clear ef hf hst hl0 he
      generalize Pk.enc ((m : Int)).toNat = q1 at *
      have d0 : wr.cell? ⟨w2.heap.size, 3, none⟩ = some (.int .i64 (m : Int)) := by rw [Lib.cell_of_heap hv]; rfl
      go_wp2_with fail
      refine (HCi _).mono ?_
      rintro e u1 ⟨rfl, hb1⟩
      have hI1 := builder_below hI hb1
      have hB1 := bchain hB hb1
      have hs2 := hB1.size
      have hv1 := (hb1.block _ (U.heap_lt hv)).trans hv
      go_wp2_with fail
      refine (U.writeString_any W0.heap.size W0.heap.size _ _ _ hI1 HR.out (by omega)).mono ?_
      rintro e u2 ⟨rfl, hI2, hb2, ho2⟩
      rw [HX.out] at hI2
      have hB2 := hB1.trans hb2
      have hv2 := ho2 _ _ hv1 (by simpa using hne) (by intro c fz q; cases q)
      go_wp2
      go_roundw
      case rel => exact ⟨3 + 1, by omega, by go_num, hI2, hB2, hv2⟩
      case measure => simp [intOf]
    | 4, _ =>
      rw [HH.out] at hI
      rw [show ((4 : Nat) : Int) = 4 from rfl]
      obtain ⟨c0, c1, c2, c3, c4, c5⟩ := O0.on hB
      clear hv
      go_wp2
      clear c0 c1 c2 c3 c4 c5
      go_loopw [8, 36] (fun _ i wr => ∃ k : Nat, k ≤ m ∧ i = .int .i64 k ∧ Lib.IsBuilderF 59 5 W0.heap.size W0.heap.size (Lib.byteCells (oTo t k)) wr ∧ Below W0.heap.size W0 wr) (fun _ i _ => m - (intOf i).toNat)
      case atStart => exact ⟨0, by omega, rfl, hI, hB⟩
      case round =>
        clear hI hB hs1
        rename_i w5 _
        obtain ⟨k, hk, rfl, hI, hB⟩ := hrel
        by_cases hlt : k < m
        · have hkx : k < t.ops.length := by have := HM.out; omega
          obtain ⟨ad, pv, sv, rfl, hA, hp, hs⟩ := (HO.out.on (B0.trans (hB.mono (by omega)))).get hkx
          obtain ⟨pa, pn, pc, rfl⟩ := strs_slice hp
          obtain ⟨sa, sn, sc, rfl⟩ := refs_slice hs
          obtain ⟨a0, a1, a2, a3, a4, a5, a6⟩ := hA
          have hi0 : (0 : Int) ≤ (k : Int) := by omega
          have hi1 : (k : Int) < (m : Int) := by omega
          have Co := fun W hb => ocode t.ops[k] (.slice pa pn pc) (.slice sa sn sc) W (may_of HC.out _ (List.getElem_mem hkx)) (U.strsAt_below hp hb (Nat.le_refl _)) (hs.on hb)
          have hst := oTo_step t hkx
          have hl0 := HLen.out k
          have hl1 := HLen.out (k + 1)
          rw [hst, List.length_append] at hl1
          have HR : Hid ((Lib.byteCells (oTo t k)).length + (⟨(Os.code t.ops[k]).toArray⟩ : ByteArray).size ≤ 140737488355328) := by
            have h := str_room (s := oTo t k) (q := Os.code t.ops[k]) (by omega)
            exact h
          have HX : Hid (Lib.byteCells (oTo t k) ++ Lib.strCells ⟨(Os.code t.ops[k]).toArray⟩ = Lib.byteCells (oTo t (k + 1))) := by
            have h : Lib.byteCells (oTo t k) ++ Lib.strCells ⟨(Os.code t.ops[k]).toArray⟩ = Lib.byteCells (oTo t (k + 1)) := by rw [str_append, ← hst]
            exact h
          clear hst hl0 hl1 hp hs
          generalize Os.code t.ops[k] = q1 at *
          generalize t.ops[k] = x at *
          have b0 := below_new wr (oO x (.slice pa pn pc) (.slice sa sn sc))
          have hI0 := builder_below hI b0
          have hB0 := bchain hB b0
          go_wp2_with fail
          refine (Co _ b0).mono ?_
          rintro e u1 ⟨rfl, hb1⟩
          have hI1 := builder_below hI0 hb1
          have hB1 := bchain hB0 hb1
          have hs2 := hB1.size
          go_wp2_with fail
          refine (U.writeString_any W0.heap.size W0.heap.size _ _ _ hI1 HR.out (by omega)).mono ?_
          rintro e u2 ⟨rfl, hI2, hb2, _⟩
          rw [HX.out] at hI2
          go_wp2
          go_roundw
          case rel => exact ⟨k + 1, by omega, by go_num, hI2, hB1.trans hb2⟩
          case measure => simp [intOf]; omega
        · obtain rfl : k = m := by omega
          have hs1 := hB.size
          rw [HE.out] at hI
          go_wp2_with (go_at_call 42; refine (bString W0.heap.size W0.heap.size _ _ hI (by omega)).mono ?_; rintro e u1 ⟨rfl, _, hb, _⟩)
          go_ret
          exact ⟨rfl, B0.trans ((hB.trans hb).mono (by omega))⟩

set_option maxRecDepth 20000 in
set_option maxHeartbeats 4000000 in
theorem refTcode_true (t : Tx.Txn) (ov : Value) (w : World) (hc : Tx.check t = 0) (ho : opsIn w ov t.ops) (hth : t.thin = true) :
    Calls Try.prog 15 #[.agg #[.int .i64 t.d.1, .int .i64 t.d.2, .int .i64 t.u, .int .i64 t.t, .bool true, ov]] w fun e w' => e = .returned (.string ⟨(Tx.code t).toArray⟩) ∧ Below w.heap.size w w' := by
  obtain ⟨ao, cap, rfl⟩ := ho.slice
  obtain ⟨m, hm⟩ : ∃ m, m = t.ops.length := ⟨_, rfl⟩
  have HM : Hid (m = t.ops.length) := hm
  rw [← hm] at ho ⊢
  have HO : Hid (opsIn w (.slice ao m cap) t.ops) := ho
  have HC : Hid (Tx.check t = 0) := hc
  have hck := Tx.check_zero hc
  have hm16 : m ≤ 16 := by omega
  have HLen : Hid (∀ k, (oTo t k).length ≤ 400000) := by have h := oTo_len hc; exact h
  have hTN : thinN t = 1 := by unfold thinN; rw [hth]; rfl
  obtain ⟨W0, hW0⟩ : ∃ W0, W0 = w.alloc (.cells #[.int .i64 t.d.1, .int .i64 t.d.2, .int .i64 t.u, .int .i64 t.t, .bool true, .slice ao m cap] 26) := ⟨_, rfl⟩
  have B0 : Below w.heap.size w W0 := by rw [hW0]; exact below_new w _
  have O0 : TAt W0 w.heap.size t (.slice ao m cap) := by
    have h := TAt.new w t (.slice ao m cap)
    dsimp only [txO] at h
    rw [hth] at h
    rw [hW0]
    exact h
  have hdl := dcodeT_len HC.out
  have hu : 0 ≤ t.u ∧ t.u ≤ 7 := hck.2.1
  have htt : 1 ≤ t.t ∧ t.t ≤ 1099511627776 := hck.2.2.1
  have C53 := fun W => refTdcode_any t HC.out W
  have Cu : ∀ w1, Calls Try.prog 44 #[.int .i64 t.u] w1 fun e w2 => e = .returned (.string ⟨(Pk.enc t.u.toNat).toArray⟩) ∧ Below w1.heap.size w1 w2 := fun w1 => refInt_any t.u w1 (by omega) (by omega)
  have Ct : ∀ w1, Calls Try.prog 44 #[.int .i64 t.t] w1 fun e w2 => e = .returned (.string ⟨(Pk.enc t.t.toNat).toArray⟩) ∧ Below w1.heap.size w1 w2 := fun w1 => refInt_any t.t w1 (by omega) (by omega)
  have Cq : ∀ w1, Calls Try.prog 44 #[.int .i64 1] w1 fun e w2 => e = .returned (.string ⟨(Pk.enc 1).toArray⟩) ∧ Below w1.heap.size w1 w2 := fun w1 => refInt_any 1 w1 (by omega) (by omega)
  have Cm : ∀ w1, Calls Try.prog 44 #[.int .i64 (m : Int)] w1 fun e w2 => e = .returned (.string ⟨(Pk.enc m).toArray⟩) ∧ Below w1.heap.size w1 w2 := fun w1 => by
    have h := refInt_any (m : Int) w1 (by omega) (by omega)
    rwa [Int.toNat_natCast] at h
  have lu := Pk.enc_len9 (n := t.u.toNat) (by omega)
  have lt := Pk.enc_len9 (n := t.t.toNat) (by omega)
  have lq := Pk.enc_len9 (n := 1) (by omega)
  have lm := Pk.enc_len9 (n := m) (by omega)
  have HZ : Hid (((dcodeT t ++ Pk.enc t.u.toNat ++ Pk.enc t.t.toNat) ++ Pk.enc 1) ++ Pk.enc m = oTo t 0) := by
    have h : ((dcodeT t ++ Pk.enc t.u.toNat ++ Pk.enc t.t.toNat) ++ Pk.enc 1) ++ Pk.enc m = oTo t 0 := by rw [oTo_zero, head_eq, hTN, hm]
    exact h
  have HE : Hid (oTo t m = Tx.code t) := by have h := oTo_all t (k := m) (by omega); exact h
  have HTh : Hid (t.thin = true) := hth
  clear ho hc hck hm hTN hu htt hth
  obtain ⟨c0, c1, c2, c3, c4, c5⟩ := id O0
  rw [hW0] at c0 c1 c2 c3
  generalize dcodeT t = x1 at *
  generalize Pk.enc t.u.toNat = x2 at *
  generalize Pk.enc t.t.toNat = x3 at *
  generalize hx4 : Pk.enc 1 = x4 at *
  generalize hx5 : Pk.enc m = x5 at *
  clear hx4 hx5
  have s1 : ¬ 9223372036854775807 < x1.length + x2.length := by omega
  have s2 : ¬ 9223372036854775807 < x1.length + x2.length + x3.length := by omega
  have s3 : ¬ 9223372036854775807 < x1.length + x2.length + x3.length + x4.length := by omega
  have s4 : ¬ 9223372036854775807 < x1.length + x2.length + x3.length + x4.length + x5.length := by omega
  have s3b : ¬ 9223372036854775807 < (x1 ++ x2 ++ x3).length + x4.length := by simp only [List.length_append]; omega
  have s4b : ¬ 9223372036854775807 < (x1 ++ x2 ++ x3 ++ x4).length + x5.length := by simp only [List.length_append]; omega
  have s2b : ¬ 9223372036854775807 < (x1 ++ x2).length + x3.length := by simp only [List.length_append]; omega
  clear hdl lu lt lq lm
  go_enter Try.func15, Try.ntmps15
  go_wp2_with fail
  go_region_held3 (fun W => W.cell? ⟨w.heap.size, 0, none⟩ = some (.int .i64 t.d.1) ∧ W.cell? ⟨w.heap.size, 1, none⟩ = some (.int .i64 t.d.2) ∧ W.cell? ⟨w.heap.size, 2, none⟩ = some (.int .i64 t.u) ∧ W.cell? ⟨w.heap.size, 3, none⟩ = some (.int .i64 t.t))
    (first | exact ⟨c0, c1, c2, c3⟩ | go_keep | (refine ⟨keep_cell hb ?_, keep_cell hb ?_, keep_cell hb ?_, keep_cell hb ?_⟩ <;> go_keep))
    (first | (go_at_call 43; refine (C53 _).mono ?_; rintro e v1 ⟨rfl, hb⟩; have hb1 := hb) | (go_at_call_of 44 t.u; refine (Cu _).mono ?_; rintro e v2 ⟨rfl, hb⟩; have hb2 := hb) | (go_at_call_of 44 t.t; refine (Ct _).mono ?_; rintro e v3 ⟨rfl, hb⟩; have hb3 := hb))
  rw [← hW0] at hb1
  clear c0 c1 c2 c3 c4 c5 hW0
  have B3 := bchain (bchain (bchain (Below.refl _ _).drew hb1) hb2) hb3
  have O3 := O0.on B3
  obtain ⟨c0, c1, c2, c3, c4, c5⟩ := id O3
  rw [HTh.out] at c4
  simp only [cat_lists]
  clear hb1 hb2 hb3 hb C53 Cu Ct s1 s2
  go_wp2_with (go_at_call 44; first
    | ((with_reducible refine (Cq _).mono ?_); rintro e v4 ⟨rfl, hb4⟩; have O4 := O3.on hb4; obtain ⟨d0, d1, d2, d3, d4, d5⟩ := id O4)
    | ((with_reducible refine (Cm _).mono ?_); rintro e v5 ⟨rfl, hb5⟩; have O5 := O4.on hb5; have B5 := bchain (bchain B3 hb4) hb5))
  clear Cq Cm
  clear c0 c1 c2 c3 c4 c5 d0 d1 d2 d3 d4 d5 O3 O4 B3 hb4 hb5
  go_loopw [3, 4] (fun s i wr => ∃ k : Nat, k ≤ m ∧ i = .int .i64 k ∧ s = .string ⟨(oTo t k).toArray⟩ ∧ Below v5.heap.size v5 wr) (fun _ i _ => m - (intOf i).toNat)
  case atStart => exact ⟨0, by omega, rfl, by rw [← HZ.out]; simp only [cat_lists, List.append_assoc], Below.refl _ _⟩
  case round =>
    obtain ⟨k, hk, rfl, rfl, hbw⟩ := hrel
    obtain ⟨c0, c1, c2, c3, c4, c5⟩ := O5.on hbw
    have B6 := bchain B0 (bchain B5 hbw)
    by_cases hlt : k < m
    · have hkx : k < t.ops.length := by have := HM.out; omega
      obtain ⟨ad, pv, sv, rfl, hA, hp, hs⟩ := (HO.out.on B6).get hkx
      obtain ⟨a0, a1, a2, a3, a4, a5, a6⟩ := hA
      have hi0 : (0 : Int) ≤ (k : Int) := by omega
      have hi1 : (k : Int) < (m : Int) := by omega
      have Co := orcode t.ops[k] pv sv wr (may_of HC.out _ (List.getElem_mem hkx)) hp hs
      have hst := oTo_step t hkx
      have hl1 := HLen.out (k + 1)
      rw [hst, List.length_append] at hl1
      have HX : Hid (oTo t (k + 1) = oTo t k ++ Os.code t.ops[k]) := hst
      have hadd : ¬ 9223372036854775807 < (oTo t k).length + (Os.code t.ops[k]).length := by omega
      clear hst hl1 hp hs
      generalize oTo t k = s at *
      generalize Os.code t.ops[k] = q1 at *
      generalize t.ops[k] = x at *
      go_wp2_with (go_at_call 45; refine Co.mono ?_; rintro e u1 ⟨rfl, hb1⟩)
      go_roundw
      case rel => exact ⟨k + 1, by omega, by go_num, by rw [HX.out]; simp only [cat_lists], bchain hbw hb1⟩
      case measure => simp [intOf]; omega
    · obtain rfl : k = m := by omega
      rw [HE.out]
      go_wp2
      go_ret
      exact ⟨rfl, B6⟩

set_option maxRecDepth 20000 in
set_option maxHeartbeats 4000000 in
theorem refTcode_false (t : Tx.Txn) (ov : Value) (w : World) (hc : Tx.check t = 0) (ho : opsIn w ov t.ops) (hth : t.thin = false) :
    Calls Try.prog 15 #[.agg #[.int .i64 t.d.1, .int .i64 t.d.2, .int .i64 t.u, .int .i64 t.t, .bool false, ov]] w fun e w' => e = .returned (.string ⟨(Tx.code t).toArray⟩) ∧ Below w.heap.size w w' := by
  obtain ⟨ao, cap, rfl⟩ := ho.slice
  obtain ⟨m, hm⟩ : ∃ m, m = t.ops.length := ⟨_, rfl⟩
  have HM : Hid (m = t.ops.length) := hm
  rw [← hm] at ho ⊢
  have HO : Hid (opsIn w (.slice ao m cap) t.ops) := ho
  have HC : Hid (Tx.check t = 0) := hc
  have hck := Tx.check_zero hc
  have hm16 : m ≤ 16 := by omega
  have HLen : Hid (∀ k, (oTo t k).length ≤ 400000) := by have h := oTo_len hc; exact h
  have hTN : thinN t = 0 := by unfold thinN; rw [hth]; rfl
  obtain ⟨W0, hW0⟩ : ∃ W0, W0 = w.alloc (.cells #[.int .i64 t.d.1, .int .i64 t.d.2, .int .i64 t.u, .int .i64 t.t, .bool false, .slice ao m cap] 26) := ⟨_, rfl⟩
  have B0 : Below w.heap.size w W0 := by rw [hW0]; exact below_new w _
  have O0 : TAt W0 w.heap.size t (.slice ao m cap) := by
    have h := TAt.new w t (.slice ao m cap)
    dsimp only [txO] at h
    rw [hth] at h
    rw [hW0]
    exact h
  have hdl := dcodeT_len HC.out
  have hu : 0 ≤ t.u ∧ t.u ≤ 7 := hck.2.1
  have htt : 1 ≤ t.t ∧ t.t ≤ 1099511627776 := hck.2.2.1
  have C53 := fun W => refTdcode_any t HC.out W
  have Cu : ∀ w1, Calls Try.prog 44 #[.int .i64 t.u] w1 fun e w2 => e = .returned (.string ⟨(Pk.enc t.u.toNat).toArray⟩) ∧ Below w1.heap.size w1 w2 := fun w1 => refInt_any t.u w1 (by omega) (by omega)
  have Ct : ∀ w1, Calls Try.prog 44 #[.int .i64 t.t] w1 fun e w2 => e = .returned (.string ⟨(Pk.enc t.t.toNat).toArray⟩) ∧ Below w1.heap.size w1 w2 := fun w1 => refInt_any t.t w1 (by omega) (by omega)
  have Cq : ∀ w1, Calls Try.prog 44 #[.int .i64 0] w1 fun e w2 => e = .returned (.string ⟨(Pk.enc 0).toArray⟩) ∧ Below w1.heap.size w1 w2 := fun w1 => refInt_any 0 w1 (by omega) (by omega)
  have Cm : ∀ w1, Calls Try.prog 44 #[.int .i64 (m : Int)] w1 fun e w2 => e = .returned (.string ⟨(Pk.enc m).toArray⟩) ∧ Below w1.heap.size w1 w2 := fun w1 => by
    have h := refInt_any (m : Int) w1 (by omega) (by omega)
    rwa [Int.toNat_natCast] at h
  have lu := Pk.enc_len9 (n := t.u.toNat) (by omega)
  have lt := Pk.enc_len9 (n := t.t.toNat) (by omega)
  have lq := Pk.enc_len9 (n := 0) (by omega)
  have lm := Pk.enc_len9 (n := m) (by omega)
  have HZ : Hid (((dcodeT t ++ Pk.enc t.u.toNat ++ Pk.enc t.t.toNat) ++ Pk.enc 0) ++ Pk.enc m = oTo t 0) := by
    have h : ((dcodeT t ++ Pk.enc t.u.toNat ++ Pk.enc t.t.toNat) ++ Pk.enc 0) ++ Pk.enc m = oTo t 0 := by rw [oTo_zero, head_eq, hTN, hm]
    exact h
  have HE : Hid (oTo t m = Tx.code t) := by have h := oTo_all t (k := m) (by omega); exact h
  have HTh : Hid (t.thin = false) := hth
  clear ho hc hck hm hTN hu htt hth
  obtain ⟨c0, c1, c2, c3, c4, c5⟩ := id O0
  rw [hW0] at c0 c1 c2 c3
  generalize dcodeT t = x1 at *
  generalize Pk.enc t.u.toNat = x2 at *
  generalize Pk.enc t.t.toNat = x3 at *
  generalize hx4 : Pk.enc 0 = x4 at *
  generalize hx5 : Pk.enc m = x5 at *
  clear hx4 hx5
  have s1 : ¬ 9223372036854775807 < x1.length + x2.length := by omega
  have s2 : ¬ 9223372036854775807 < x1.length + x2.length + x3.length := by omega
  have s3 : ¬ 9223372036854775807 < x1.length + x2.length + x3.length + x4.length := by omega
  have s4 : ¬ 9223372036854775807 < x1.length + x2.length + x3.length + x4.length + x5.length := by omega
  have s3b : ¬ 9223372036854775807 < (x1 ++ x2 ++ x3).length + x4.length := by simp only [List.length_append]; omega
  have s4b : ¬ 9223372036854775807 < (x1 ++ x2 ++ x3 ++ x4).length + x5.length := by simp only [List.length_append]; omega
  have s2b : ¬ 9223372036854775807 < (x1 ++ x2).length + x3.length := by simp only [List.length_append]; omega
  clear hdl lu lt lq lm
  go_enter Try.func15, Try.ntmps15
  go_wp2_with fail
  go_region_held3 (fun W => W.cell? ⟨w.heap.size, 0, none⟩ = some (.int .i64 t.d.1) ∧ W.cell? ⟨w.heap.size, 1, none⟩ = some (.int .i64 t.d.2) ∧ W.cell? ⟨w.heap.size, 2, none⟩ = some (.int .i64 t.u) ∧ W.cell? ⟨w.heap.size, 3, none⟩ = some (.int .i64 t.t))
    (first | exact ⟨c0, c1, c2, c3⟩ | go_keep | (refine ⟨keep_cell hb ?_, keep_cell hb ?_, keep_cell hb ?_, keep_cell hb ?_⟩ <;> go_keep))
    (first | (go_at_call 43; refine (C53 _).mono ?_; rintro e v1 ⟨rfl, hb⟩; have hb1 := hb) | (go_at_call_of 44 t.u; refine (Cu _).mono ?_; rintro e v2 ⟨rfl, hb⟩; have hb2 := hb) | (go_at_call_of 44 t.t; refine (Ct _).mono ?_; rintro e v3 ⟨rfl, hb⟩; have hb3 := hb))
  rw [← hW0] at hb1
  clear c0 c1 c2 c3 c4 c5 hW0
  have B3 := bchain (bchain (bchain (Below.refl _ _).drew hb1) hb2) hb3
  have O3 := O0.on B3
  obtain ⟨c0, c1, c2, c3, c4, c5⟩ := id O3
  rw [HTh.out] at c4
  simp only [cat_lists]
  clear hb1 hb2 hb3 hb C53 Cu Ct s1 s2
  go_wp2_with (go_at_call 44; first
    | ((with_reducible refine (Cq _).mono ?_); rintro e v4 ⟨rfl, hb4⟩; have O4 := O3.on hb4; obtain ⟨d0, d1, d2, d3, d4, d5⟩ := id O4)
    | ((with_reducible refine (Cm _).mono ?_); rintro e v5 ⟨rfl, hb5⟩; have O5 := O4.on hb5; have B5 := bchain (bchain B3 hb4) hb5))
  clear Cq Cm
  clear c0 c1 c2 c3 c4 c5 d0 d1 d2 d3 d4 d5 O3 O4 B3 hb4 hb5
  go_loopw [3, 4] (fun s i wr => ∃ k : Nat, k ≤ m ∧ i = .int .i64 k ∧ s = .string ⟨(oTo t k).toArray⟩ ∧ Below v5.heap.size v5 wr) (fun _ i _ => m - (intOf i).toNat)
  case atStart => exact ⟨0, by omega, rfl, by rw [← HZ.out]; simp only [cat_lists, List.append_assoc], Below.refl _ _⟩
  case round =>
    obtain ⟨k, hk, rfl, rfl, hbw⟩ := hrel
    obtain ⟨c0, c1, c2, c3, c4, c5⟩ := O5.on hbw
    have B6 := bchain B0 (bchain B5 hbw)
    by_cases hlt : k < m
    · have hkx : k < t.ops.length := by have := HM.out; omega
      obtain ⟨ad, pv, sv, rfl, hA, hp, hs⟩ := (HO.out.on B6).get hkx
      obtain ⟨a0, a1, a2, a3, a4, a5, a6⟩ := hA
      have hi0 : (0 : Int) ≤ (k : Int) := by omega
      have hi1 : (k : Int) < (m : Int) := by omega
      have Co := orcode t.ops[k] pv sv wr (may_of HC.out _ (List.getElem_mem hkx)) hp hs
      have hst := oTo_step t hkx
      have hl1 := HLen.out (k + 1)
      rw [hst, List.length_append] at hl1
      have HX : Hid (oTo t (k + 1) = oTo t k ++ Os.code t.ops[k]) := hst
      have hadd : ¬ 9223372036854775807 < (oTo t k).length + (Os.code t.ops[k]).length := by omega
      clear hst hl1 hp hs
      generalize oTo t k = s at *
      generalize Os.code t.ops[k] = q1 at *
      generalize t.ops[k] = x at *
      go_wp2_with (go_at_call 45; refine Co.mono ?_; rintro e u1 ⟨rfl, hb1⟩)
      go_roundw
      case rel => exact ⟨k + 1, by omega, by go_num, by rw [HX.out]; simp only [cat_lists], bchain hbw hb1⟩
      case measure => simp [intOf]; omega
    · obtain rfl : k = m := by omega
      rw [HE.out]
      go_wp2
      go_ret
      exact ⟨rfl, B6⟩

theorem tcode_any (t : Tx.Txn) (ov : Value) (w : World) (hc : Tx.check t = 0) (ho : opsIn w ov t.ops) :
    Calls Try.prog 14 #[txV t ov] w fun e w' => e = .returned (.string ⟨(Tx.code t).toArray⟩) ∧ Below w.heap.size w w' := by
  obtain h | h : t.thin = true ∨ t.thin = false := by cases t.thin <;> simp
  · have k := tcode_true t ov w hc ho h
    dsimp only [txV]
    rw [h]
    exact k
  · have k := tcode_false t ov w hc ho h
    dsimp only [txV]
    rw [h]
    exact k
theorem refTcode_any (t : Tx.Txn) (ov : Value) (w : World) (hc : Tx.check t = 0) (ho : opsIn w ov t.ops) :
    Calls Try.prog 15 #[txV t ov] w fun e w' => e = .returned (.string ⟨(Tx.code t).toArray⟩) ∧ Below w.heap.size w w' := by
  obtain h | h : t.thin = true ∨ t.thin = false := by cases t.thin <;> simp
  · have k := refTcode_true t ov w hc ho h
    dsimp only [txV]
    rw [h]
    exact k
  · have k := refTcode_false t ov w hc ho h
    dsimp only [txV]
    rw [h]
    exact k
end Go.Proofs.Ytghkjbekjkejpaa.O
