/- The walk of the document's Right at a set that may be. -/
import Derived.Test.YtenfbjlmfdiniaaMember
namespace Go.Proofs.Ytenfbjlmfdiniaa
open Go.RowKit Go.Shelf

set_option maxRecDepth 20000 in
set_option maxHeartbeats 1000000 in
theorem refRight_ok (l : List Int) (v : Value) (ds : List D) (w : World) (hS : St.Std l ds) (hd : dotsIn w v ds) (hn : ds.length ≤ 4096) :
    Calls Try.prog 11 #[setV l v] w fun e w' => e = .returned (.bool true) ∧ Below w.heap.size w w' := by
  have hl := hS.len
  obtain ⟨W0, hW0⟩ : ∃ W0, W0 = w.alloc (.cells (setC l v).toArray 26) := ⟨_, rfl⟩
  have hB0 : Below w.heap.size w W0 := by rw [hW0]; exact below_new _ _
  have hA0 : SetAt W0 w.heap.size l v := by rw [hW0]; exact SetAt.new w l v
  have HV := fun W => refRight_vec l hl W
  rw [hS.vec] at HV
  obtain ⟨ao, ca, rfl, _, hc⟩ := hd.on hB0
  have HC : Hid (∀ k (h : k < ds.length), ∃ ad, ao = some ad ∧ W0.cell? (ad.add (k * 2)) = some (.int .i64 (ds[k]).1) ∧ W0.cell? ⟨(ad.add (k * 2)).block, (ad.add (k * 2)).off + 1, none⟩ = some (.int .i64 (ds[k]).2)) := hc
  have HA : Hid (SetAt W0 w.heap.size l (.slice ao ds.length ca)) := hA0
  have HB : Hid (Below w.heap.size w W0) := hB0
  have HS : Hid (St.Std l ds) := hS
  have HW : Hid (W0 = w.alloc (.cells (setC l (.slice ao ds.length ca)).toArray 26)) := hW0
  rw [hW0] at hA0
  clear hW0 hd hB0 hc hS
  obtain ⟨n, hn0⟩ : ∃ n, n = ds.length := ⟨_, rfl⟩
  have HN : Hid (n = ds.length) := hn0
  rw [← hn0] at hn hA0 HA HW ⊢
  clear hn0
  have hn9 : ¬ (4096 : Int) < (n : Int) := by omega
  go_enter Try.func11, Try.ntmps11
  go_wp2_with (first
    | (refine load_setVec rfl _ rfl w.heap.size l _ hl rfl hA0 ?_)
    | (go_at_call 48; refine (HV _).mono ?_; rintro e w1 ⟨rfl, hb1⟩
       rw [← HW.out] at hb1
       have m1 := (HA.out.on hb1).more hl))
  go_loopw [3, 4] (fun i _ wr => ∃ k : Nat, k ≤ n ∧ i = .int .i64 k ∧ Below W0.heap.size W0 wr) (fun i _ _ => n - (intOf i).toNat)
  case atStart => exact ⟨0, by omega, rfl, hb1⟩
  case round =>
    clear hb1 m1 hA0
    obtain ⟨k, hk, rfl, hbw⟩ := hrel
    have hAr := HA.out.on hbw
    have m0 := hAr.more hl
    by_cases hlt : k < n
    · have hkd : k < ds.length := by have := HN.out; omega
      obtain ⟨ad, rfl, c0, c1⟩ := HC.out k hkd
      have c0 := keep_cell hbw c0
      have c1 := keep_cell hbw c1
      have hg := HS.out.gap ds[k] (List.getElem_mem hkd)
      have hpr : 0 < k → ∃ h' : k - 1 < ds.length, Dt.comp (ds[k - 1]).1 (ds[k - 1]).2 (ds[k]).1 (ds[k]).2 = -1 := fun h0 => by
        have h' : k - 1 < ds.length := by omega
        refine ⟨h', ?_⟩
        have h2 : St.lt ds[k - 1] ds[k] := List.pairwise_iff_getElem.1 HS.out.row (k - 1) k h' hkd (by omega)
        have h3 := cf_lt ds[k - 1] ds[k]
        rw [decide_eq_true h2] at h3
        have h4 := of_decide_eq_true h3
        rcases Dt.comp_cases (ds[k - 1]).1 (ds[k - 1]).2 (ds[k]).1 (ds[k]).2 with ⟨_, e⟩ | ⟨_, _, e⟩ | ⟨_, e⟩
        · exact e
        · omega
        · omega
      have hdr := St.right_at hg.1
      obtain ⟨q, hq⟩ : ∃ q : Nat, (ds[k]).1 = (q : Int) := ⟨(ds[k]).1.toNat, by omega⟩
      have hq16 : q < 16 := by omega
      have hy1 : 1 ≤ (ds[k]).2 ∧ (ds[k]).2 ≤ 1048576 := ⟨hdr.2.2.1, hdr.2.2.2⟩
      have hq16' : (q : Int) < 16 := by omega
      have hgap : l.getD q 0 + 1 < (ds[k]).2 := by
        have := hg.2
        simp only [St.at'] at this
        rw [hq, Int.toNat_natCast] at this
        exact this
      have hvk := Vc.right_iff.1 HS.out.vec q (by omega)
      have hcq := (hAr.alloc (.cells #[.int .i64 (ds[k]).1, .int .i64 (ds[k]).2] 28)).cell (k := q) (by omega)
      have HR := fun W => refRight_any (ds[k]).1 (ds[k]).2 W
      have hr' : Dt.right (ds[k]).1 (ds[k]).2 = true := hg.1
      rw [hr'] at HR
      have hix := indexAt_vec w.heap.size q hq16
      have HPV : 0 < k → ∀ W, Below W0.heap.size W0 W → ∃ pd : D, W.cell? (ad.add ((k - 1) * 2)) = some (.int .i64 pd.1) ∧ W.cell? ⟨(ad.add ((k - 1) * 2)).block, (ad.add ((k - 1) * 2)).off + 1, none⟩ = some (.int .i64 pd.2) ∧ Dt.comp pd.1 pd.2 (ds[k]).1 (ds[k]).2 = -1 := fun h0 W hW => by
        obtain ⟨h', e⟩ := hpr h0
        obtain ⟨ad3, hao3, c3, c4⟩ := HC.out (k - 1) h'
        cases hao3
        exact ⟨ds[k - 1], keep_cell hW c3, keep_cell hW c4, e⟩
      have HPV' : Hid (0 < k → ∀ W, Below W0.heap.size W0 W → ∃ pd : D, W.cell? (ad.add ((k - 1) * 2)) = some (.int .i64 pd.1) ∧ W.cell? ⟨(ad.add ((k - 1) * 2)).block, (ad.add ((k - 1) * 2)).off + 1, none⟩ = some (.int .i64 pd.2) ∧ Dt.comp pd.1 pd.2 (ds[k]).1 (ds[k]).2 = -1) := HPV
      clear hg hpr hdr HPV hr'
      generalize l.getD q 0 = x at *
      generalize ds[k] = d at *
      obtain ⟨r, y⟩ := d
      simp only at *
      subst hq
      have hd0 : (wr.alloc (.cells #[.int .i64 (q : Int), .int .i64 y] 28)).cell? ⟨wr.heap.size, 0, none⟩ = some (.int .i64 (q : Int)) := by simp
      have hd1 : (wr.alloc (.cells #[.int .i64 (q : Int), .int .i64 y] 28)).cell? ⟨wr.heap.size, 1, none⟩ = some (.int .i64 y) := by simp
      have hB5 : Below wr.heap.size wr (wr.alloc (.cells #[.int .i64 (q : Int), .int .i64 y] 28)) := below_new _ _
      obtain ⟨W5, hW5⟩ : ∃ W5, W5 = wr.alloc (.cells #[.int .i64 (q : Int), .int .i64 y] 28) := ⟨_, rfl⟩
      have hg3 : ¬ (y - 1 ≤ x) := by omega
      have hwy : IntKind.i64.wrap (y - 1) = y - 1 := by simp [IntKind.wrap, IntKind.bits, IntKind.signed]; omega
      go_wp2
      rw [← hW5]
      rw [← hW5] at hd0 hd1 hcq hB5
      clear hW5
      go_region_held3 (fun W => W.cell? ⟨wr.heap.size, 0, none⟩ = some (.int .i64 (q : Int)) ∧ W.cell? ⟨wr.heap.size, 1, none⟩ = some (.int .i64 y) ∧ W.cell? ⟨w.heap.size, q, none⟩ = some (.int .i64 x) ∧ Below W5.heap.size W5 W)
        (first | exact ⟨hd0, hd1, hcq, (Below.refl _ _).drew⟩ | go_keep | (refine ⟨keep_cell hb ?_, keep_cell hb ?_, keep_cell hb ?_, bchain ?_ hb⟩ <;> go_keep))
        (first | (go_at_call 27; refine (HR _).mono ?_; rintro e w5 ⟨rfl, hb⟩))
      have hb5 : Below W5.heap.size W5 w5 := bchain (Below.refl _ _).drew hb
      have hbw5 : Below W0.heap.size W0 w5 := bchain hbw (bchain hB5 hb5)
      have e0 := keep_cell hb5 hd0
      have e1 := keep_cell hb5 hd1
      have m5 := (HA.out.on hbw5).more hl
      clear hb hb5 hd0 hd1 hcq hB5 HR m0 c0 c1 hAr
      by_cases hk0 : k = 0
      · subst hk0
        go_wp2
        go_region
        go_wp2
        go_roundw
        case rel => exact ⟨1, by omega, by go_num, hbw5.drew⟩
        case measure => simp [intOf]; omega
      · obtain ⟨j, rfl⟩ : ∃ j, k = j + 1 := ⟨k - 1, by omega⟩
        obtain ⟨pd, g0, g1, hcm⟩ := HPV'.out (by omega) w5 hbw5
        rw [show j + 1 - 1 = j by omega] at g0 g1
        have HQ := fun W => refComp_any pd.1 pd.2 (q : Int) y W
        rw [hcm] at HQ
        have hj0 : (0 : Int) ≤ (j : Int) := by omega
        have hj1 : (j : Int) < (n : Int) := by omega
        have hj2 : (0 : Int) < (j : Int) + 1 := by omega
        have hwj : IntKind.i64.wrap ((j : Int) + 1 - 1) = (j : Int) := by simp [IntKind.wrap, IntKind.bits, IntKind.signed]; omega
        have hwj' : IntKind.i64.wrap (((j + 1 : Nat) : Int) - 1) = (j : Int) := by simp [IntKind.wrap, IntKind.bits, IntKind.signed]; omega
        have hwj2 : IntKind.i64.wrap (j : Int) = (j : Int) := by simp [IntKind.wrap, IntKind.bits, IntKind.signed]; omega
        clear hcm HPV'
        go_wp2
        go_region_held3 (fun W => W.cell? ⟨wr.heap.size, 0, none⟩ = some (.int .i64 (q : Int)) ∧ W.cell? ⟨wr.heap.size, 1, none⟩ = some (.int .i64 y) ∧ W.cell? ⟨w.heap.size, 16, none⟩ = some (.slice (some ad) n ca) ∧ W.cell? (ad.add (j * 2)) = some (.int .i64 pd.1) ∧ W.cell? ⟨(ad.add (j * 2)).block, (ad.add (j * 2)).off + 1, none⟩ = some (.int .i64 pd.2) ∧ Below w5.heap.size w5 W)
          (first | exact ⟨e0, e1, m5, g0, g1, (Below.refl _ _).drew⟩ | go_keep | (refine ⟨keep_cell hb ?_, keep_cell hb ?_, keep_cell hb ?_, keep_cell hb ?_, keep_cell hb ?_, bchain ?_ hb⟩ <;> go_keep))
          (first | (go_at_call 49; refine (HQ _).mono ?_; rintro e w6 ⟨rfl, hb⟩))
        have hb6 : Below w5.heap.size w5 w6 := bchain (Below.refl _ _).drew hb
        go_wp2
        go_roundw
        case rel => exact ⟨j + 1 + 1, by omega, by go_num, bchain hbw5 hb6⟩
        case measure => simp [intOf]; omega
    · obtain rfl : k = n := by omega
      have hk' : ¬ (k : Int) < (k : Int) := by omega
      go_wp2
      go_ret
      exact ⟨rfl, bchain HB.out hbw⟩
end Go.Proofs.Ytenfbjlmfdiniaa
