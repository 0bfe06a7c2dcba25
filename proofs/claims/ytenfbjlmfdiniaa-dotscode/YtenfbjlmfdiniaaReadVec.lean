/- The walk of vec.Read over a reader whose text begins with a right vector's bytes. -/
import Derived.Test.YtenfbjlmfdiniaaReadIn
namespace Go.Proofs.Ytenfbjlmfdiniaa
open Go.RowKit

theorem build_noughts (w : World) : (Instr.build 23 #[]).run Try.prog w = .ok (vecV noughts) w := by kernel_rfl
theorem take_noughts {ops : Array Oper} {rest : List Oper} {o : Oper} {a : Act} {w : World} {Q : Exit → Act → World → Prop} (hgd : o.guard = none) (ho : o.op = .build 23 #[])
    (hk : wpList Try.prog ops Q rest (a.put o.dst (vecV noughts)) w) : wpList Try.prog ops Q (o :: rest) a w :=
  wpList_plain hgd fun _ hK => by
    unfold Oper.wp execOp
    simp only [ho, List.map_toArray, List.map_nil, Sem.run_bind, build_noughts, Result.andThen_ok, Sem.run_pure]
    exact hK _ _ hk

set_option maxRecDepth 20000 in
set_option maxHeartbeats 1000000 in
/-- A right vector is read as it was told. -/
theorem vecRead_ok {w : World} {b : Nat} {l : List Int} {rest : List UInt8} (hl : l.length = 16) (hv : Vc.right l = true) (h : Rd w b (Vc.code l 16 ++ rest) 0) (hlen : (Vc.code l 16 ++ rest).length ≤ maxLen) :
    Calls Try.prog 70 #[.pointer (some ⟨b, 0, none⟩)] w fun e w' => e = .returned (vecV l) ∧ Rd w' b rest 0 ∧ But b w w' := by
  have hbw := h.lt
  obtain ⟨W0, hW0⟩ : ∃ W0, W0 = (w.alloc (.cells #[.pointer (some ⟨b, 0, none⟩)] 45)).alloc (.cells (ints noughts).toArray 23) := ⟨_, rfl⟩
  have hB0 : Below w.heap.size w W0 := by rw [hW0]; exact below_new2 _ _ _
  have hc0 : W0.cell? ⟨w.heap.size, 0, none⟩ = some (.pointer (some ⟨b, 0, none⟩)) := by
    rw [hW0]
    refine keep_cell (below_new _ _) ?_
    simp
  have hV0 : VecAt W0 (w.heap.size + 1) noughts := by
    rw [hW0]
    have := VecAt.new (w.alloc (.cells #[.pointer (some ⟨b, 0, none⟩)] 45)) noughts
    simpa using this
  have HC := each_read noughts_length hl hv hc0 (by omega) (h.on hB0) hlen
  have HR := fun W => right_vec l hl W
  rw [hv] at HR
  have HW : Hid (W0 = (w.alloc (.cells #[.pointer (some ⟨b, 0, none⟩)] 45)).alloc (.cells (ints noughts).toArray 23)) := hW0
  have HV : Hid (VecAt W0 (w.heap.size + 1) noughts) := hV0
  have H0 : Hid (W0.cell? ⟨w.heap.size, 0, none⟩ = some (.pointer (some ⟨b, 0, none⟩))) := hc0
  have HB : Hid (Below w.heap.size w W0) := hB0
  have hs0 : W0.heap.size = w.heap.size + 2 := by rw [hW0]; simp
  rw [hW0] at HC
  clear hW0 hV0 hc0 hB0 h hlen hv
  go_enter Try.func70, Try.ntmps70
  go_wp2_with (first | (refine take_noughts rfl rfl ?_))
  refine HC.mono ?_
  rw [← HW.out]
  rintro e w1 ⟨rfl, hr1, hb1⟩
  have hs1 := hb1.size
  have hZ1 := VecAt.new w1 noughts
  obtain ⟨W2, hW2⟩ : ∃ W2, W2 = (w1.alloc (.cells (ints noughts).toArray 23)).setRow w1.heap.size (ints l).toArray := ⟨_, rfl⟩
  have hV2 : VecAt W2 w1.heap.size l := by rw [hW2]; exact hZ1.row l
  have hB2 : Below w1.heap.size w1 W2 := by rw [hW2]; exact below_setRow (below_new _ _) (Nat.le_refl _) _
  have HR2 := HR W2
  have HW2 : Hid (W2 = (w1.alloc (.cells (ints noughts).toArray 23)).setRow w1.heap.size (ints l).toArray) := hW2
  have HV2 : Hid (VecAt W2 w1.heap.size l) := hV2
  have HB2 : Hid (Below w1.heap.size w1 W2) := hB2
  have HR1 : Hid (Rd w1 b rest 0) := hr1
  have hcc := keep_cell hB2 (hb1.cell H0.out (by simp; omega))
  have hVV := (HV.out.but hb1 (by omega)).on hB2
  rw [hW2] at hV2 HR2
  clear hW2 hB2 hr1 HC HR
  go_wp2_with (first | (refine store_vec rfl _ _ rfl w1.heap.size l noughts hl noughts_length rfl rfl hZ1 ?_) | (refine load_vec rfl _ rfl w1.heap.size l hl rfl hV2 ?_))
  refine HR2.mono ?_
  rw [← HW2.out]
  rintro e w3 ⟨rfl, hb3⟩
  have hr3 := (HR1.out.on HB2.out).on hb3
  have hc3 := keep_cell hb3 hcc
  have hV3 := HV2.out.on hb3
  have hZ3 := hVV.on hb3
  have HBT : Hid (But b w w3) := ((But.of HB.out).trans hb1).trans (But.of (bchain HB2.out hb3))
  have hf := fault_rd hr3
  clear hV2 hVV hcc HR2 hb3 hZ1
  go_wp2_with fail
  refine hf.mono ?_
  rintro e w4 ⟨rfl, rfl⟩
  go_wp2_with (first | (refine load_vec rfl _ rfl w1.heap.size l hl rfl hV3 ?_) | (refine store_vec rfl _ _ rfl (w.heap.size + 1) l noughts hl noughts_length rfl rfl hZ3 ?_))
  refine bodyPost_ret (ret_vec rfl _ hl rfl (hZ3.row l)) rfl ⟨rfl, hr3.setRow (by omega) _, HBT.out.setRow (by omega) _⟩
end Go.Proofs.Ytenfbjlmfdiniaa
