/- The walks of Rises, both sides. -/
import Derived.Test.YtghkjbekjkejpaaTxnComp
namespace Go.Proofs.Ytghkjbekjkejpaa.O
open Go.RowKit

theorem rises_one (l : List Tx.Txn) : Tx.Rises (l.take 1) := by
  cases l with
  | nil => exact List.Pairwise.nil
  | cons a r => exact List.pairwise_singleton _ _
theorem rises_all {l : List Tx.Txn} {h : Nat} (hp : Tx.Rises (l.take h)) (hh : ¬ h < l.length) : Tx.rises l = true := by
  rw [List.take_of_length_le (by omega)] at hp
  exact Tx.rises_iff.2 hp

set_option maxRecDepth 20000 in
set_option maxHeartbeats 2000000 in
theorem trises_any (v : Value) (l : List Tx.Txn) (w : World) (hv : txsIn w v l) (hn : l.length ≤ 1000000) :
    Calls Try.prog 17 #[v] w fun e w' => e = .returned (.bool (Tx.rises l)) ∧ Below w.heap.size w w' := by
  obtain ⟨ao, c, rfl, _, _, hc⟩ := hv
  have HC : Hid (∀ k (h : k < l.length), ∃ ad ov, ao = some ad ∧ TcAt w (ad.add (k * 6)) l[k] ov ∧ opsIn w ov l[k].ops) := hc
  clear hc
  obtain ⟨m, hm⟩ : ∃ m, m = l.length := ⟨_, rfl⟩
  have HM : Hid (m = l.length) := hm
  have HS : Hid (Tx.Rises (l.take 1)) := by have h := rises_one l; exact h
  rw [← hm] at hn ⊢
  clear hm
  go_enter Try.func17, Try.ntmps17
  go_wp2
  go_loopw [3] (fun i wr => ∃ h : Nat, 1 ≤ h ∧ (h = 1 ∨ h ≤ m) ∧ i = .int .i64 h ∧ Hid (Tx.Rises (l.take h)) ∧ Below w.heap.size w wr) (fun i _ => m - (intOf i).toNat)
  case atStart => exact ⟨1, by omega, .inl rfl, rfl, HS, Below.refl _ _⟩
  case round =>
    clear HS
    obtain ⟨h, hge, hle, rfl, HS, hbw⟩ := hrel
    by_cases hlt : h < m
    · obtain ⟨j, hj⟩ : ∃ j, h = j + 1 := ⟨h - 1, by omega⟩
      have HJ : Hid (h = j + 1) := hj
      have hsub : (h : Int) - 1 = (j : Int) := by omega
      have hkx : h < l.length := by have := HM.out; omega
      have hjx : j < l.length := by omega
      obtain ⟨ad, ov, rfl, hA, -⟩ := HC.out j hjx
      obtain ⟨ad', ov', e, hB, -⟩ := HC.out h hkx
      obtain rfl : ad = ad' := Option.some.inj e
      obtain ⟨c0, c1, -, -, -, -⟩ := hA.on hbw
      obtain ⟨d0, d1, -, -, -, -⟩ := hB.on hbw
      have hi0 : (0 : Int) ≤ (j : Int) := by omega
      have hi1 : (j : Int) < (m : Int) := by omega
      have hi2 : (0 : Int) ≤ (h : Int) := by omega
      have hi3 : (h : Int) < (m : Int) := by omega
      have hwr : IntKind.i64.wrap ((h : Int) - 1) = (j : Int) := by rw [hsub]; simp [IntKind.wrap, IntKind.bits, IntKind.signed]; omega
      have hwj : IntKind.i64.wrap (j : Int) = (j : Int) := by simp [IntKind.wrap, IntKind.bits, IntKind.signed]; omega
      have HQ := fun W => D.comp_any l[j].d.1 l[j].d.2 l[h].d.1 l[h].d.2 W
      clear hA hB e
      by_cases hl : Tx.dlt l[j].d l[h].d
      · have HS' : Hid (Tx.Rises (l.take (h + 1))) := by
          have k := Tx.rises_step HS.out hkx (.inr ⟨by omega, by
            have e : h - 1 = j := by omega
            simp only [e]
            exact hl⟩)
          exact k
        have hz : Dt.comp l[j].d.1 l[j].d.2 l[h].d.1 l[h].d.2 = -1 := (Tx.dcomp_neg _ _).2 hl
        rw [hz] at HQ
        clear hz hl HS hj hge hle
        generalize l[j] = x at *
        generalize l[h] = y at *
        go_wp2
        go_region_held3 (fun W => W.cell? (ad.add (j * 6)) = some (.int .i64 x.d.1) ∧ W.cell? ⟨(ad.add (j * 6)).block, (ad.add (j * 6)).off + 1, none⟩ = some (.int .i64 x.d.2) ∧ W.cell? (ad.add (h * 6)) = some (.int .i64 y.d.1) ∧ W.cell? ⟨(ad.add (h * 6)).block, (ad.add (h * 6)).off + 1, none⟩ = some (.int .i64 y.d.2) ∧ Below wr.heap.size wr W)
          (first | exact ⟨c0, c1, d0, d1, (Below.refl _ _).drew⟩ | go_keep | (refine ⟨keep_cell hb ?_, keep_cell hb ?_, keep_cell hb ?_, keep_cell hb ?_, bchain ?_ hb⟩ <;> go_keep))
          (first | (go_at_call 33; refine (HQ _).mono ?_; rintro e w1 ⟨rfl, hb⟩))
        have hbx : Below wr.heap.size wr w1 := bchain (Below.refl _ _).drew hb
        go_wp2
        go_roundw
        case rel => exact ⟨h + 1, by omega, .inr (by omega), by go_num, HS', bchain hbw hbx⟩
        case measure => simp [intOf]; omega
      · have HL : Hid (Tx.rises l = false) := by
          have k : Tx.rises l = false := Tx.not_rises (k := j) (by omega) (by
            have e : j + 1 = h := by omega
            simp only [e]
            exact hl)
          exact k
        have hz : ¬ Dt.comp l[j].d.1 l[j].d.2 l[h].d.1 l[h].d.2 = -1 := fun q => hl ((Tx.dcomp_neg _ _).1 q)
        have hz0 : (0 : Int) ≤ Dt.comp l[j].d.1 l[j].d.2 l[h].d.1 l[h].d.2 := by
          have := Dt.comp_cases l[j].d.1 l[j].d.2 l[h].d.1 l[h].d.2
          omega
        clear hl HS hj hge hle
        generalize Dt.comp l[j].d.1 l[j].d.2 l[h].d.1 l[h].d.2 = z at *
        generalize l[j] = x at *
        generalize l[h] = y at *
        have hzb : (z != -1) = true := by simpa using hz
        clear hz
        go_wp2
        go_region_held3 (fun W => W.cell? (ad.add (j * 6)) = some (.int .i64 x.d.1) ∧ W.cell? ⟨(ad.add (j * 6)).block, (ad.add (j * 6)).off + 1, none⟩ = some (.int .i64 x.d.2) ∧ W.cell? (ad.add (h * 6)) = some (.int .i64 y.d.1) ∧ W.cell? ⟨(ad.add (h * 6)).block, (ad.add (h * 6)).off + 1, none⟩ = some (.int .i64 y.d.2) ∧ Below wr.heap.size wr W)
          (first | exact ⟨c0, c1, d0, d1, (Below.refl _ _).drew⟩ | go_keep | (refine ⟨keep_cell hb ?_, keep_cell hb ?_, keep_cell hb ?_, keep_cell hb ?_, bchain ?_ hb⟩ <;> go_keep))
          (first | (go_at_call 33; refine (HQ _).mono ?_; rintro e w1 ⟨rfl, hb⟩))
        have hbx : Below wr.heap.size wr w1 := bchain (Below.refl _ _).drew hb
        go_wp2
        go_ret
        exact ⟨ret_bool HL.out.symm, bchain hbw hbx⟩
    · have HL : Hid (Tx.rises l = true) := by
        have k := rises_all HS.out (by have := HM.out; omega)
        exact k
      clear hle
      go_wp2
      go_ret
      exact ⟨ret_bool HL.out.symm, hbw⟩

set_option maxRecDepth 20000 in
set_option maxHeartbeats 2000000 in
theorem refTrises_any (v : Value) (l : List Tx.Txn) (w : World) (hv : txsIn w v l) (hn : l.length ≤ 1000000) :
    Calls Try.prog 18 #[v] w fun e w' => e = .returned (.bool (Tx.rises l)) ∧ Below w.heap.size w w' := by
  obtain ⟨ao, c, rfl, _, _, hc⟩ := hv
  have HC : Hid (∀ k (h : k < l.length), ∃ ad ov, ao = some ad ∧ TcAt w (ad.add (k * 6)) l[k] ov ∧ opsIn w ov l[k].ops) := hc
  clear hc
  obtain ⟨m, hm⟩ : ∃ m, m = l.length := ⟨_, rfl⟩
  have HM : Hid (m = l.length) := hm
  have HS : Hid (Tx.Rises (l.take 1)) := by have h := rises_one l; exact h
  rw [← hm] at hn ⊢
  clear hm
  go_enter Try.func18, Try.ntmps18
  go_wp2
  go_loopw [3] (fun i wr => ∃ h : Nat, 1 ≤ h ∧ (h = 1 ∨ h ≤ m) ∧ i = .int .i64 h ∧ Hid (Tx.Rises (l.take h)) ∧ Below w.heap.size w wr) (fun i _ => m - (intOf i).toNat)
  case atStart => exact ⟨1, by omega, .inl rfl, rfl, HS, Below.refl _ _⟩
  case round =>
    clear HS
    obtain ⟨h, hge, hle, rfl, HS, hbw⟩ := hrel
    by_cases hlt : h < m
    · obtain ⟨j, hj⟩ : ∃ j, h = j + 1 := ⟨h - 1, by omega⟩
      have HJ : Hid (h = j + 1) := hj
      have hsub : (h : Int) - 1 = (j : Int) := by omega
      have hkx : h < l.length := by have := HM.out; omega
      have hjx : j < l.length := by omega
      obtain ⟨ad, ov, rfl, hA, -⟩ := HC.out j hjx
      obtain ⟨ad', ov', e, hB, -⟩ := HC.out h hkx
      obtain rfl : ad = ad' := Option.some.inj e
      obtain ⟨c0, c1, -, -, -, -⟩ := hA.on hbw
      obtain ⟨d0, d1, -, -, -, -⟩ := hB.on hbw
      have hi0 : (0 : Int) ≤ (j : Int) := by omega
      have hi1 : (j : Int) < (m : Int) := by omega
      have hi2 : (0 : Int) ≤ (h : Int) := by omega
      have hi3 : (h : Int) < (m : Int) := by omega
      have hwr : IntKind.i64.wrap ((h : Int) - 1) = (j : Int) := by rw [hsub]; simp [IntKind.wrap, IntKind.bits, IntKind.signed]; omega
      have hwj : IntKind.i64.wrap (j : Int) = (j : Int) := by simp [IntKind.wrap, IntKind.bits, IntKind.signed]; omega
      have HQ := fun W => D.refComp_any l[j].d.1 l[j].d.2 l[h].d.1 l[h].d.2 W
      clear hA hB e
      by_cases hl : Tx.dlt l[j].d l[h].d
      · have HS' : Hid (Tx.Rises (l.take (h + 1))) := by
          have k := Tx.rises_step HS.out hkx (.inr ⟨by omega, by
            have e : h - 1 = j := by omega
            simp only [e]
            exact hl⟩)
          exact k
        have hz : Dt.comp l[j].d.1 l[j].d.2 l[h].d.1 l[h].d.2 = -1 := (Tx.dcomp_neg _ _).2 hl
        rw [hz] at HQ
        clear hz hl HS hj hge hle
        generalize l[j] = x at *
        generalize l[h] = y at *
        go_wp2
        go_region_held3 (fun W => W.cell? (ad.add (j * 6)) = some (.int .i64 x.d.1) ∧ W.cell? ⟨(ad.add (j * 6)).block, (ad.add (j * 6)).off + 1, none⟩ = some (.int .i64 x.d.2) ∧ W.cell? (ad.add (h * 6)) = some (.int .i64 y.d.1) ∧ W.cell? ⟨(ad.add (h * 6)).block, (ad.add (h * 6)).off + 1, none⟩ = some (.int .i64 y.d.2) ∧ Below wr.heap.size wr W)
          (first | exact ⟨c0, c1, d0, d1, (Below.refl _ _).drew⟩ | go_keep | (refine ⟨keep_cell hb ?_, keep_cell hb ?_, keep_cell hb ?_, keep_cell hb ?_, bchain ?_ hb⟩ <;> go_keep))
          (first | (go_at_call 34; refine (HQ _).mono ?_; rintro e w1 ⟨rfl, hb⟩))
        have hbx : Below wr.heap.size wr w1 := bchain (Below.refl _ _).drew hb
        go_wp2
        go_roundw
        case rel => exact ⟨h + 1, by omega, .inr (by omega), by go_num, HS', bchain hbw hbx⟩
        case measure => simp [intOf]; omega
      · have HL : Hid (Tx.rises l = false) := by
          have k : Tx.rises l = false := Tx.not_rises (k := j) (by omega) (by
            have e : j + 1 = h := by omega
            simp only [e]
            exact hl)
          exact k
        have hz : ¬ Dt.comp l[j].d.1 l[j].d.2 l[h].d.1 l[h].d.2 = -1 := fun q => hl ((Tx.dcomp_neg _ _).1 q)
        have hz0 : (0 : Int) ≤ Dt.comp l[j].d.1 l[j].d.2 l[h].d.1 l[h].d.2 := by
          have := Dt.comp_cases l[j].d.1 l[j].d.2 l[h].d.1 l[h].d.2
          omega
        clear hl HS hj hge hle
        generalize Dt.comp l[j].d.1 l[j].d.2 l[h].d.1 l[h].d.2 = z at *
        generalize l[j] = x at *
        generalize l[h] = y at *
        have hzb : (z != -1) = true := by simpa using hz
        clear hz
        go_wp2
        go_region_held3 (fun W => W.cell? (ad.add (j * 6)) = some (.int .i64 x.d.1) ∧ W.cell? ⟨(ad.add (j * 6)).block, (ad.add (j * 6)).off + 1, none⟩ = some (.int .i64 x.d.2) ∧ W.cell? (ad.add (h * 6)) = some (.int .i64 y.d.1) ∧ W.cell? ⟨(ad.add (h * 6)).block, (ad.add (h * 6)).off + 1, none⟩ = some (.int .i64 y.d.2) ∧ Below wr.heap.size wr W)
          (first | exact ⟨c0, c1, d0, d1, (Below.refl _ _).drew⟩ | go_keep | (refine ⟨keep_cell hb ?_, keep_cell hb ?_, keep_cell hb ?_, keep_cell hb ?_, bchain ?_ hb⟩ <;> go_keep))
          (first | (go_at_call 34; refine (HQ _).mono ?_; rintro e w1 ⟨rfl, hb⟩))
        have hbx : Below wr.heap.size wr w1 := bchain (Below.refl _ _).drew hb
        go_wp2
        go_ret
        exact ⟨ret_bool HL.out.symm, bchain hbw hbx⟩
    · have HL : Hid (Tx.rises l = true) := by
        have k := rises_all HS.out (by have := HM.out; omega)
        exact k
      clear hle
      go_wp2
      go_ret
      exact ⟨ret_bool HL.out.symm, hbw⟩
end Go.Proofs.Ytghkjbekjkejpaa.O
