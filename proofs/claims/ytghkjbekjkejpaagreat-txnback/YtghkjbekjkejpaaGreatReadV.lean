/- What was told of a right value is read again. -/
import Derived.Test.YtghkjbekjkejpaaGreatRights
namespace Go.Proofs.YtghkjbekjkejpaaGreat.V
open Go.RowKit

set_option maxRecDepth 20000 in
set_option maxHeartbeats 2000000 in
/-- A right value that was told is read. -/
theorem read_ok {w : World} {b : Nat} {k n : Int} {l rest : List UInt8} (hR : Vl.Right k n l) (h : Rd w b (Vl.code k n l ++ rest) 0) (hl : (Vl.code k n l ++ rest).length ≤ 1000000000) :
    Calls Tryz.prog 89 #[.pointer (some ⟨b, 0, none⟩)] w fun e w' => e = .returned (valV k n l) ∧ Rd w' b rest 0 ∧ But b w w' := by
  have hlen := hR.len
  have ham := hR.amount
  have hki := hR.kind
  have C8 := right_any k n l
  rw [Vl.right_yes hR] at C8
  have hlt := h.lt
  have Z := VAt.new w 0 0 []
  have hmx : (1000000000 : Nat) ≤ maxLen := by decide
  have hB0 := But.of (b := b) (below_new w (valO 0 0 []))
  by_cases h2 : k = 2
  · subst h2
    have hn0 : n = 0 := by rcases hR with ⟨h, _⟩ | ⟨_, h, _⟩ | ⟨h, _⟩ <;> omega
    subst hn0
    rw [show Vl.code 2 0 l ++ rest = Pk.enc 2 ++ (Pk.enc l.length ++ (l ++ rest)) by
      rw [show Vl.code 2 0 l = Pk.enc 2 ++ (Pk.enc l.length ++ l) from rfl]; simp] at h hl
    have hl2 : (Pk.enc l.length ++ (l ++ rest)).length ≤ maxLen := by rw [List.length_append] at hl; omega
    have CI : Calls Tryz.prog 38 #[.pointer (some ⟨b, 0, none⟩)] (w.alloc (valO 0 0 [])) fun e w' => e = .returned (.int .i64 2) ∧ Rd w' b (Pk.enc l.length ++ (l ++ rest)) 0 ∧ But b (w.alloc (valO 0 0 [])) w' := int_ok (n := 2) (h.new (valO 0 0 [])) (Nat.le_trans hl hmx) (by decide)
    have CT : ∀ W, Rd W b (Pk.enc l.length ++ (l ++ rest)) 0 → Calls Tryz.prog 103 #[.pointer (some ⟨b, 0, none⟩)] W fun e w' => e = .returned (.string ⟨l.toArray⟩) ∧ Rd w' b rest 0 ∧ But b W w' := fun W hW => text_ok hW hl2 (by omega)
    clear hR h hl hl2
    generalize Pk.enc l.length ++ (l ++ rest) = m at *
    go_enter Tryz.func89, Tryz.ntmps89
    go_wp2_with fail
    refine CI.mono ?_
    rintro e w1 ⟨rfl, hr1, hb1⟩
    have hne : w1.heap.size ≠ b := by have := hr1.lt; omega
    have hne0 : w.heap.size ≠ b := by omega
    have hr1' := hr1.new (valO 2 0 [])
    have V1 := VAt.new w1 2 0 []
    have B1 := (hB0.trans hb1).new (valO 2 0 [])
    have Z1 := (Z.but hb1 hne0).on (below_new w1 (valO 2 0 []))
    go_wp2_with fail
    refine (CT _ hr1').mono ?_
    rintro e w2 ⟨rfl, hr2, hb2⟩
    have V2 := V1.but hb2 hne
    have Z2 := Z1.but hb2 hne0
    have c2 := V2.c2
    have f2 := V2.f2
    have hs1 := hb1.size
    have hlt0 : w.heap.size < w1.heap.size := by simp at hs1; omega
    have V3 := V2.setS l
    have Z3 := Z2.setOther (p := ⟨w1.heap.size, 2, none⟩) (by show w1.heap.size ≠ w.heap.size; omega) (.string ⟨l.toArray⟩)
    have R3 := hr2.setOther (p := ⟨w1.heap.size, 2, none⟩) hne (.string ⟨l.toArray⟩)
    have B3 := (B1.trans hb2).setNew (p := ⟨w1.heap.size, 2, none⟩) (by show w.heap.size ≤ w1.heap.size; omega) (.string ⟨l.toArray⟩)
    have d0 := V3.c0
    have d1 := V3.c1
    have d2 := V3.c2
    go_wp2_with fail
    refine (C8 _).mono ?_
    rintro e w3 ⟨rfl, hb3⟩
    have V4 := V3.on hb3
    have Z4 := Z3.on hb3
    have R4 := R3.on hb3
    have B4 := B3.trans (But.of hb3)
    have v0 := V4.c0
    have v1 := V4.c1
    have v2 := V4.c2
    have z0 := Z4.c0
    have z1 := Z4.c1
    have z2 := Z4.c2
    have y0 := Z4.f0
    have y1 := Z4.f1
    have y2 := Z4.f2
    go_wp2_with fail
    refine (fault_rd R4).mono ?_
    rintro e w4 ⟨rfl, hw⟩
    have hw := hw.symm
    subst hw
    go_wp2
    have R := Z4.set 2 0 l
    refine bodyPost_ret (v := valV 2 0 l) (by simp [results, Tryz.results89, go_sem, R.c0, R.c1, R.c2]) rfl ⟨rfl, ((R4.setOther hne0 _).setOther hne0 _).setOther hne0 _, ?_⟩
    exact ((B4.setNew (p := ⟨w.heap.size, 0, none⟩) (Nat.le_refl _) _).setNew (p := ⟨w.heap.size, 1, none⟩) (Nat.le_refl _) _).setNew (p := ⟨w.heap.size, 2, none⟩) (Nat.le_refl _) _
  · obtain ⟨K, rfl⟩ := Int.eq_ofNat_of_zero_le (show 0 ≤ k by omega)
    have hl0 : l = [] := by rcases hR with ⟨_, h, _⟩ | ⟨h, _⟩ | ⟨_, h, _⟩ <;> first | exact h | exact absurd h h2
    subst hl0
    have hf0 := Vl.fold_pos n
    have hf1 := Vl.fold_le ham.1 ham.2
    have hu := Vl.unfold_fold n
    obtain ⟨f, hf⟩ : ∃ f : Nat, Vl.fold n = (f : Int) := ⟨(Vl.fold n).toNat, by omega⟩
    rw [show Vl.code (K : Int) n [] ++ rest = Pk.enc K ++ (Pk.enc f ++ rest) by unfold Vl.code; rw [if_neg h2, hf]; simp] at h hl
    have hl2 : (Pk.enc f ++ rest).length ≤ maxLen := by rw [List.length_append] at hl; omega
    have CI := int_ok (h.new (valO 0 0 [])) (by omega) (by omega)
    have CF : ∀ W, Rd W b (Pk.enc f ++ rest) 0 → Calls Tryz.prog 38 #[.pointer (some ⟨b, 0, none⟩)] W fun e w' => e = .returned (.int .i64 (f : Int)) ∧ Rd w' b rest 0 ∧ But b W w' := fun W hW => int_ok hW hl2 (by omega)
    have CU := fun w => unfold_any (f : Int) w (by omega) (by omega)
    rw [← hf, hu, hf] at CU
    have e2 : ((K : Int) == 2) = false := beq_eq_false_iff_ne.2 h2
    clear hR h hl hl2 h2 hf hu hf0 hf1
    generalize Pk.enc f ++ rest = m at *
    go_enter Tryz.func89, Tryz.ntmps89
    go_wp2_with fail
    refine CI.mono ?_
    rintro e w1 ⟨rfl, hr1, hb1⟩
    have hne : w1.heap.size ≠ b := by have := hr1.lt; omega
    have hne0 : w.heap.size ≠ b := by omega
    have hr1' := hr1.new (valO K 0 [])
    have V1 := VAt.new w1 K 0 []
    have B1 := (hB0.trans hb1).new (valO K 0 [])
    have Z1 := (Z.but hb1 hne0).on (below_new w1 (valO K 0 []))
    go_wp2_with fail
    refine (CF _ hr1').mono ?_
    rintro e w2 ⟨rfl, hr2, hb2⟩
    have V2 := V1.but hb2 hne
    have Z2 := Z1.but hb2 hne0
    have c2 := V2.c1
    have f2 := V2.f1
    have hs1 := hb1.size
    have hlt0 : w.heap.size < w1.heap.size := by simp at hs1; omega
    have V3 := V2.setN n
    have Z3 := Z2.setOther (p := ⟨w1.heap.size, 1, none⟩) (by show w1.heap.size ≠ w.heap.size; omega) (.int .i64 n)
    have R3 := hr2.setOther (p := ⟨w1.heap.size, 1, none⟩) hne (.int .i64 n)
    have B3 := (B1.trans hb2).setNew (p := ⟨w1.heap.size, 1, none⟩) (by show w.heap.size ≤ w1.heap.size; omega) (.int .i64 n)
    have d0 := V3.c0
    have d1 := V3.c1
    have d2 := V3.c2
    go_wp2_with fail
    refine (CU _).mono ?_
    rintro e w5 ⟨rfl, hw⟩
    have hw := hw.symm
    subst hw
    go_wp2_with fail
    refine (C8 _).mono ?_
    rintro e w3 ⟨rfl, hb3⟩
    have V4 := V3.on hb3
    have Z4 := Z3.on hb3
    have R4 := R3.on hb3
    have B4 := B3.trans (But.of hb3)
    have v0 := V4.c0
    have v1 := V4.c1
    have v2 := V4.c2
    have z0 := Z4.c0
    have z1 := Z4.c1
    have z2 := Z4.c2
    have y0 := Z4.f0
    have y1 := Z4.f1
    have y2 := Z4.f2
    go_wp2_with fail
    refine (fault_rd R4).mono ?_
    rintro e w4 ⟨rfl, hw⟩
    have hw := hw.symm
    subst hw
    go_wp2
    have R := Z4.set K n []
    refine bodyPost_ret (v := valV K n []) (by simp [results, Tryz.results89, go_sem, R.c0, R.c1, R.c2]) rfl ⟨rfl, ((R4.setOther hne0 _).setOther hne0 _).setOther hne0 _, ?_⟩
    exact ((B4.setNew (p := ⟨w.heap.size, 0, none⟩) (Nat.le_refl _) _).setNew (p := ⟨w.heap.size, 1, none⟩) (Nat.le_refl _) _).setNew (p := ⟨w.heap.size, 2, none⟩) (Nat.le_refl _) _
end Go.Proofs.YtghkjbekjkejpaaGreat.V
