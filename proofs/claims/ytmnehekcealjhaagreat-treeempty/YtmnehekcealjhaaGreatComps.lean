/- The walks of cmp.Compare of texts, of slices.Compare, Compare and the document's Compare. -/
import Derived.Test.YtmnehekcealjhaaGreatSameRAll
import Derived.Test.YtmnehekcealjhaaGreatCompP
import Derived.WalkLawsBesides
namespace Go.Proofs.YtmnehekcealjhaaGreat.U
open Go.RowKit

/-- How far two paths are alike. -/
def stand (xs ys : List (List UInt8)) (k : Nat) : Prop := k ≤ xs.length ∧ k ≤ ys.length ∧ Pt.comp xs ys = Pt.comp (xs.drop k) (ys.drop k)
theorem stand_zero (xs ys : List (List UInt8)) : stand xs ys 0 := ⟨by omega, by omega, by simp⟩
theorem stand_succ {xs ys : List (List UInt8)} {k : Nat} (h : stand xs ys k) (h1 : k < xs.length) (h2 : k < ys.length) (e : Lib.compareBytes xs[k] ys[k] = 0) : stand xs ys (k + 1) := by
  refine ⟨by omega, by omega, ?_⟩
  rw [h.2.2, List.drop_eq_getElem_cons h1, List.drop_eq_getElem_cons h2]
  simp only [Pt.comp]
  rw [if_pos e]
theorem stand_diff {xs ys : List (List UInt8)} {k : Nat} (h : stand xs ys k) (h1 : k < xs.length) (h2 : k < ys.length) (e : Lib.compareBytes xs[k] ys[k] ≠ 0) : Pt.comp xs ys = Lib.compareBytes xs[k] ys[k] := by
  rw [h.2.2, List.drop_eq_getElem_cons h1, List.drop_eq_getElem_cons h2]
  simp only [Pt.comp]
  rw [if_neg e]
theorem drop_all {xs : List (List UInt8)} {k : Nat} (h : ¬ k < xs.length) : xs.drop k = [] := List.drop_eq_nil_of_le (by omega)
theorem stand_more {xs ys : List (List UInt8)} {k : Nat} (h : stand xs ys k) (h1 : k < xs.length) (h2 : ¬ k < ys.length) : Pt.comp xs ys = 1 := by
  rw [h.2.2, List.drop_eq_getElem_cons h1, drop_all h2]; rfl
theorem stand_less {xs ys : List (List UInt8)} {k : Nat} (h : stand xs ys k) (h1 : ¬ k < xs.length) (h2 : k < ys.length) : Pt.comp xs ys = -1 := by
  rw [h.2.2, List.drop_eq_getElem_cons h2, drop_all h1]; rfl
theorem stand_same {xs ys : List (List UInt8)} {k : Nat} (h : stand xs ys k) (h1 : ¬ k < xs.length) (h2 : ¬ k < ys.length) : Pt.comp xs ys = 0 := by
  rw [h.2.2, drop_all h1, drop_all h2]; rfl

theorem ret_int {a b : Int} (h : a = b) : Ending.returned (.int .i64 a) = .returned (.int .i64 b) := by rw [h]

/-- Two texts lie in memory. -/
structure Two (w : World) (p q : Addr) (x y : List UInt8) (W : World) : Prop where
  a : W.cell? p = some (.string ⟨x.toArray⟩)
  b : W.cell? q = some (.string ⟨y.toArray⟩)
  below : Below w.heap.size w W
theorem Two.on {w W W' : World} {p q : Addr} {x y : List UInt8} (h : Two w p q x y W) (hb : Below W.heap.size W W') : Two w p q x y W' :=
  ⟨(hb.cell (World.block_lt_of_cell? _ _ h.a)).trans h.a, (hb.cell (World.block_lt_of_cell? _ _ h.b)).trans h.b, h.below.trans (hb.mono h.below.size)⟩
theorem Two.drew {w W : World} {p q : Addr} {x y : List UInt8} (h : Two w p q x y W) : Two w p q x y W.drew := ⟨h.a, h.b, h.below.drew⟩
theorem Two.parts {w W : World} {p q : Addr} {x y : List UInt8} (h : Two w p q x y W) : W.cell? p = some (.string ⟨x.toArray⟩) ∧ W.cell? q = some (.string ⟨y.toArray⟩) ∧ Below w.heap.size w W := ⟨h.a, h.b, h.below⟩

set_option maxRecDepth 20000 in
set_option maxHeartbeats 2000000 in
theorem refCompare_any (va vb : Value) (xs ys : List (List UInt8)) (w : World) (hx : xs.length ≤ 2000000) (_hy : ys.length ≤ 2000000) (hz : ∀ x ∈ xs, x.length ≤ 2000000) (ha : strsAt w va xs) (hb : strsAt w vb ys) :
    Calls Tryz.prog 60 #[va, vb] w fun e w' => e = .returned (.int .i64 (Pt.comp xs ys)) ∧ Below w.heap.size w w' := by
  obtain ⟨ao, ca, rfl, _, hca⟩ := ha
  obtain ⟨bo, cb, rfl, _, hcb⟩ := hb
  go_enter Tryz.func60, Tryz.ntmps60
  go_wp2
  go_loopw [5] (fun i wr => ∃ k : Nat, i = .int .i64 k ∧ stand xs ys k ∧ Below w.heap.size w wr) (fun i _ => xs.length - (intOf i).toNat)
  case atStart => exact ⟨0, rfl, stand_zero _ _, Below.refl _ w⟩
  case round =>
    obtain ⟨k, rfl, hS, hbw⟩ := hrel
    have hk1 := hS.1
    have hk2 := hS.2.1
    by_cases h1 : k < xs.length
    · by_cases h2 : k < ys.length
      · obtain ⟨ad, rfl, hA⟩ := hca k h1
        obtain ⟨bd, rfl, hB⟩ := hcb k h2
        have hA2 : ∀ W, Below w.heap.size w W → W.cell? (ad.add k) = some (.string ⟨(xs[k]).toArray⟩) := fun W hW => (hW.cell (World.block_lt_of_cell? _ _ hA)).trans hA
        have hB2 : ∀ W, Below w.heap.size w W → W.cell? (bd.add k) = some (.string ⟨(ys[k]).toArray⟩) := fun W hW => (hW.cell (World.block_lt_of_cell? _ _ hB)).trans hB
        have a1 := hA2 wr hbw
        have b1 := hB2 wr hbw
        clear hca hA hcb hB hA2 hB2
        have HC := fun W => refTexts_list xs[k] ys[k] W (hz _ (List.getElem_mem h1))
        clear hz
        by_cases he : Lib.compareBytes xs[k] ys[k] = 0
        · have HS : Hid (stand xs ys (k + 1)) := stand_succ hS h1 h2 he
          rw [he] at HC
          clear hS he
          generalize xs[k] = x at *
          generalize ys[k] = y at *
          go_wp2_with fail
          go_region_held3 (fun W => W.cell? (ad.add k) = some (.string ⟨x.toArray⟩) ∧ W.cell? (bd.add k) = some (.string ⟨y.toArray⟩) ∧ Below w.heap.size w W) (first | exact ⟨a1, b1, hbw⟩ | exact (Two.drew ⟨a1, b1, hbw⟩).parts | exact ((Two.drew ⟨a1, b1, hbw⟩).on hb1).parts) (first | (go_at_call 43; (refine (HC _).mono ?_); rintro e w1 ⟨rfl, hb1⟩))
          all_goals
            go_wp2
            go_roundw
            case rel => exact ⟨k + 1, by go_num, HS.out, (by first | exact hbw.drew.trans (hb1.mono hbw.drew.size) | exact (hbw.drew.trans (hb1.mono hbw.drew.size)).drew)⟩
            case measure => simp [intOf]; omega
        · have HL : Hid (Lib.compareBytes xs[k] ys[k] = Pt.comp xs ys) := (stand_diff hS h1 h2 he).symm
          have hc := Pt.cb_cases xs[k] ys[k]
          have hn : (Lib.compareBytes xs[k] ys[k] != 0) = true := by simpa using he
          clear hS
          generalize xs[k] = x at *
          generalize ys[k] = y at *
          generalize Lib.compareBytes x y = c at *
          go_wp2_with fail
          go_region_held3 (fun W => W.cell? (ad.add k) = some (.string ⟨x.toArray⟩) ∧ W.cell? (bd.add k) = some (.string ⟨y.toArray⟩) ∧ Below w.heap.size w W) (first | exact ⟨a1, b1, hbw⟩ | exact (Two.drew ⟨a1, b1, hbw⟩).parts | exact ((Two.drew ⟨a1, b1, hbw⟩).on hb1).parts) (first | (go_at_call 43; (refine (HC _).mono ?_); rintro e w1 ⟨rfl, hb1⟩))
          all_goals
            go_wp2
            go_ret
            exact ⟨ret_int HL.out, (by first | exact hbw.drew.trans (hb1.mono hbw.drew.size) | exact (hbw.drew.trans (hb1.mono hbw.drew.size)).drew)⟩
      · have HL : Hid (Pt.comp xs ys = 1) := stand_more hS h1 h2
        clear hS hcb hca hz
        go_wp2
        go_ret
        exact ⟨ret_int HL.out.symm, hbw⟩
    · by_cases h2 : k < ys.length
      · have HL : Hid (Pt.comp xs ys = -1) := stand_less hS h1 h2
        clear hS hcb hca hz
        go_wp2
        go_ret
        exact ⟨ret_int HL.out.symm, hbw⟩
      · have HL : Hid (Pt.comp xs ys = 0) := stand_same hS h1 h2
        clear hS hcb hca hz
        go_wp2
        go_ret
        exact ⟨ret_int HL.out.symm, hbw⟩

end Go.Proofs.YtmnehekcealjhaaGreat.U
