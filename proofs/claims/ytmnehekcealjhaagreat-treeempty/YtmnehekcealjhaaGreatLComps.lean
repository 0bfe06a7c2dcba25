/- The walks of cmp.Compare of texts, of slices.Compare, path's Compare, tree's compare and same: nothing is turned. -/
import Derived.Test.YtmnehekcealjhaaGreatComps
import Derived.Test.YtmnehekcealjhaaGreatRwsAll
import Derived.Test.YtmnehekcealjhaaGreatLinesAll
namespace Go.Proofs.YtmnehekcealjhaaGreat.U
open Go.RowKit

theorem isNaN_any (s : ByteArray) (w : World) : Calls Tryz.prog 123 #[.string s] w fun e w' => e = .returned (.bool false) ∧ w' = w := by
  go_enter Tryz.func123, Tryz.ntmps123
  go_wp2
  go_ret
  exact ⟨by simp, rfl⟩

set_option maxRecDepth 20000 in
theorem cmpText_any (a b : List UInt8) (w : World) : Calls Tryz.prog 119 #[.string ⟨a.toArray⟩, .string ⟨b.toArray⟩] w fun e w' => e = .returned (.int .i64 (Lib.compareBytes a b)) ∧ w' = w := by
  have e1 : Op.bytesLess a b = decide (Lib.compareBytes a b = -1) := Pt.less_iff a b
  have e2 : (a == b) = decide (Lib.compareBytes a b = 0) := by
    by_cases h : a = b
    · subst h; simp [Pt.cb_self]
    · rw [beq_eq_false_iff_ne.2 h, decide_eq_false (fun x => h (Pt.cb_zero x))]
  have HN1 := isNaN_any ⟨a.toArray⟩
  have HN2 := isNaN_any ⟨b.toArray⟩
  rcases Pt.cb_cases a b with h | h | h
  · rw [h] at e1 e2 ⊢
    rw [show decide ((-1 : Int) = -1) = true from rfl] at e1
    rw [show decide ((-1 : Int) = 0) = false from rfl] at e2
    clear h
    go_enter Tryz.func119, Tryz.ntmps119
    go_wp2_with (go_at_call 123; first | ((with_reducible refine (HN1 _).mono ?_); rintro e w1 ⟨rfl, rfl⟩) | ((with_reducible refine (HN2 _).mono ?_); rintro e w1 ⟨rfl, rfl⟩))
    go_ret
    exact ⟨rfl, rfl⟩
  · rw [h] at e1 e2 ⊢
    rw [show decide ((0 : Int) = -1) = false from rfl] at e1
    rw [show decide ((0 : Int) = 0) = true from rfl] at e2
    clear h
    go_enter Tryz.func119, Tryz.ntmps119
    go_wp2_with (go_at_call 123; first | ((with_reducible refine (HN1 _).mono ?_); rintro e w1 ⟨rfl, rfl⟩) | ((with_reducible refine (HN2 _).mono ?_); rintro e w1 ⟨rfl, rfl⟩))
    go_ret
    exact ⟨rfl, rfl⟩
  · rw [h] at e1 e2 ⊢
    rw [show decide ((1 : Int) = -1) = false from rfl] at e1
    rw [show decide ((1 : Int) = 0) = false from rfl] at e2
    clear h
    go_enter Tryz.func119, Tryz.ntmps119
    go_wp2_with (go_at_call 123; first | ((with_reducible refine (HN1 _).mono ?_); rintro e w1 ⟨rfl, rfl⟩) | ((with_reducible refine (HN2 _).mono ?_); rintro e w1 ⟨rfl, rfl⟩))
    go_ret
    exact ⟨rfl, rfl⟩

set_option maxRecDepth 20000 in
set_option maxHeartbeats 2000000 in
theorem slCompare_any (va vb : Value) (xs ys : List (List UInt8)) (w : World) (hx : xs.length ≤ 2000000) (_hy : ys.length ≤ 2000000) (ha : strsAt w va xs) (hb : strsAt w vb ys) :
    Calls Tryz.prog 93 #[va, vb] w fun e w' => e = .returned (.int .i64 (Pt.comp xs ys)) ∧ w' = w := by
  obtain ⟨ao, ca, rfl, _, hca⟩ := ha
  obtain ⟨bo, cb, rfl, _, hcb⟩ := hb
  go_enter Tryz.func93, Tryz.ntmps93
  go_wp2
  go_loopw [11] (fun i wr => ∃ k : Nat, i = .int .i64 k ∧ stand xs ys k ∧ wr = w) (fun i _ => xs.length - (intOf i).toNat)
  case atStart => exact ⟨0, rfl, stand_zero _ _, rfl⟩
  case round =>
    obtain ⟨k, rfl, hS, rfl⟩ := hrel
    have hk1 := hS.1
    have hk2 := hS.2.1
    by_cases h1 : k < xs.length
    · obtain ⟨ad, rfl, hA⟩ := hca k h1
      have hA2 : wr.cell? (ad.add k) = some (.string ⟨(xs[k]).toArray⟩) := hA
      clear hca hA
      by_cases h2 : k < ys.length
      · obtain ⟨bd, rfl, hB⟩ := hcb k h2
        have hB2 : wr.cell? (bd.add k) = some (.string ⟨(ys[k]).toArray⟩) := hB
        clear hcb hB
        have HC := cmpText_any xs[k] ys[k]
        by_cases he : Lib.compareBytes xs[k] ys[k] = 0
        · have HS : Hid (stand xs ys (k + 1)) := stand_succ hS h1 h2 he
          rw [he] at HC
          clear hS he
          generalize xs[k] = x at *
          generalize ys[k] = y at *
          go_wp2_with (go_at_call 119; (refine (HC _).mono ?_); rintro e w1 ⟨rfl, hw⟩; have hw := hw.symm; subst hw)
          go_roundw
          case rel => exact ⟨k + 1, by go_num, HS.out, trivial⟩
          case measure => simp [intOf]; omega
        · have HL : Hid (Lib.compareBytes xs[k] ys[k] = Pt.comp xs ys) := (stand_diff hS h1 h2 he).symm
          have hc := Pt.cb_cases xs[k] ys[k]
          have hn : (Lib.compareBytes xs[k] ys[k] != 0) = true := by simpa using he
          clear hS
          generalize xs[k] = x at *
          generalize ys[k] = y at *
          generalize Lib.compareBytes x y = c at *
          go_wp2_with (go_at_call 119; (refine (HC _).mono ?_); rintro e w1 ⟨rfl, hw⟩; have hw := hw.symm; subst hw)
          go_ret
          exact ⟨ret_int HL.out, rfl⟩
      · have HL : Hid (Pt.comp xs ys = 1) := stand_more hS h1 h2
        clear hS hcb
        generalize xs[k] = x at *
        go_wp2
        go_ret
        exact ⟨ret_int HL.out.symm, rfl⟩
    · by_cases h2 : k < ys.length
      · have HL : Hid (Pt.comp xs ys = -1) := stand_less hS h1 h2
        clear hS hcb hca
        go_wp2
        go_ret
        exact ⟨ret_int HL.out.symm, rfl⟩
      · have HL : Hid (Pt.comp xs ys = 0) := stand_same hS h1 h2
        clear hS hcb hca
        go_wp2
        go_ret
        exact ⟨ret_int HL.out.symm, rfl⟩

theorem compare_any (va vb : Value) (xs ys : List (List UInt8)) (w : World) (hx : xs.length ≤ 2000000) (hy : ys.length ≤ 2000000) (ha : strsAt w va xs) (hb : strsAt w vb ys) :
    Calls Tryz.prog 62 #[va, vb] w fun e w' => e = .returned (.int .i64 (Pt.comp xs ys)) ∧ w' = w := by
  have HC := slCompare_any va vb xs ys w hx hy ha hb
  go_enter Tryz.func62, Tryz.ntmps62
  go_wp2_with (go_at_call 93; (with_reducible refine HC.mono ?_); rintro e w1 ⟨rfl, rfl⟩)
  go_ret
  exact ⟨rfl, rfl⟩
end Go.Proofs.YtmnehekcealjhaaGreat.U
namespace Go.Proofs.YtmnehekcealjhaaGreat.O
open Go.RowKit

theorem lcomp_alike {xs ys : List (List UInt8)} {k l : Int} (h : Pt.comp xs ys = 0) : Tr.lcomp (xs, k) (ys, l) = k - l := if_pos h
theorem lcomp_unlike {xs ys : List (List UInt8)} {k l : Int} (h : Pt.comp xs ys ≠ 0) : Tr.lcomp (xs, k) (ys, l) = Pt.comp xs ys := if_neg h
set_option maxRecDepth 20000 in
set_option maxHeartbeats 1000000 in
theorem lcompare_any (p q : Value) (k l : Int) (xs ys : List (List UInt8)) (w : World) (hk : -100 ≤ k ∧ k ≤ 100) (hl : -100 ≤ l ∧ l ≤ 100) (hx : xs.length ≤ 2000000) (hy : ys.length ≤ 2000000) (ha : U.strsAt w p xs) (hb : U.strsAt w q ys) :
    Calls Tryz.prog 34 #[.agg #[p, .int .i64 k], .agg #[q, .int .i64 l]] w fun e w' => e = .returned (.int .i64 (Tr.lcomp (xs, k) (ys, l))) ∧ w' = (w.alloc (.cells #[p, .int .i64 k] 77)).alloc (.cells #[q, .int .i64 l] 77) := by
  have B0 := below_new2 w (.cells #[p, .int .i64 k] 77) (.cells #[q, .int .i64 l] 77)
  have HC := U.compare_any p q xs ys _ hx hy (U.strsAt_below ha B0 (Nat.le_refl _)) (U.strsAt_below hb B0 (Nat.le_refl _))
  have hw1 : IntKind.i64.wrap (k - l) = k - l := U.wrap_i64 (by omega) (by omega)
  obtain ⟨pa, pn, pc, rfl⟩ := strs_slice ha
  obtain ⟨qa, qn, qc, rfl⟩ := strs_slice hb
  clear ha hb B0
  by_cases h : Pt.comp xs ys = 0
  · rw [lcomp_alike h]
    rw [h] at HC
    clear h hx hy hk hl
    go_enter Tryz.func34, Tryz.ntmps34
    go_wp2_with (go_at_call 62; refine HC.mono ?_; rintro e w1 ⟨rfl, rfl⟩)
    go_ret
    exact ⟨rfl, rfl⟩
  · rw [lcomp_unlike h]
    have hn : (Pt.comp xs ys != 0) = true := by simpa using h
    clear hx hy hk hl h
    generalize Pt.comp xs ys = c at *
    go_enter Tryz.func34, Tryz.ntmps34
    go_wp2_with (go_at_call 62; refine HC.mono ?_; rintro e w1 ⟨rfl, rfl⟩)
    go_ret
    exact ⟨rfl, rfl⟩
theorem lsame_any (p q : Value) (k l : Int) (xs ys : List (List UInt8)) (w : World) (hk : -100 ≤ k ∧ k ≤ 100) (hl : -100 ≤ l ∧ l ≤ 100) (hx : xs.length ≤ 2000000) (hy : ys.length ≤ 2000000) (ha : U.strsAt w p xs) (hb : U.strsAt w q ys) :
    Calls Tryz.prog 36 #[.agg #[p, .int .i64 k], .agg #[q, .int .i64 l]] w fun e w' => e = .returned (.bool (decide (((xs, k) : Tr.Leaf) = (ys, l)))) ∧ Below w.heap.size w w' := by
  have B0 := below_new2 w (.cells #[p, .int .i64 k] 77) (.cells #[q, .int .i64 l] 77)
  have HC := lcompare_any p q k l xs ys _ hk hl hx hy (U.strsAt_below ha B0 (Nat.le_refl _)) (U.strsAt_below hb B0 (Nat.le_refl _))
  have hz := Tr.lord.zero (xs, k) (ys, l)
  have B1 := bchain B0 (below_new2 _ (.cells #[p, .int .i64 k] 77) (.cells #[q, .int .i64 l] 77))
  obtain ⟨pa, pn, pc, rfl⟩ := strs_slice ha
  obtain ⟨qa, qn, qc, rfl⟩ := strs_slice hb
  clear ha hb B0 hx hy hk hl
  have hd : decide (((xs, k) : Tr.Leaf) = (ys, l)) = (Tr.lcomp (xs, k) (ys, l) == 0) := by
    rw [Bool.eq_iff_iff, decide_eq_true_iff, beq_iff_eq, hz]
  rw [hd]
  clear hz hd
  generalize Tr.lcomp (xs, k) (ys, l) = c at *
  go_enter Tryz.func36, Tryz.ntmps36
  go_wp2_with (go_at_call 34; refine HC.mono ?_; rintro e w1 ⟨rfl, rfl⟩)
  go_ret
  exact ⟨rfl, B1⟩
set_option maxRecDepth 20000 in
set_option maxHeartbeats 1000000 in
theorem refLcompare_any (p q : Value) (k l : Int) (xs ys : List (List UInt8)) (w : World) (hk : -100 ≤ k ∧ k ≤ 100) (hl : -100 ≤ l ∧ l ≤ 100) (hx : xs.length ≤ 2000000) (hy : ys.length ≤ 2000000) (hz : ∀ x ∈ xs, x.length ≤ 2000000) (ha : U.strsAt w p xs) (hb : U.strsAt w q ys) :
    Calls Tryz.prog 38 #[.agg #[p, .int .i64 k], .agg #[q, .int .i64 l]] w fun e w' => e = .returned (.int .i64 (Tr.lcomp (xs, k) (ys, l))) ∧ Below w.heap.size w w' := by
  have B0 := below_new2 w (.cells #[p, .int .i64 k] 78) (.cells #[q, .int .i64 l] 78)
  have HC := U.refCompare_any p q xs ys _ hx hy hz (U.strsAt_below ha B0 (Nat.le_refl _)) (U.strsAt_below hb B0 (Nat.le_refl _))
  have hw1 : IntKind.i64.wrap (k - l) = k - l := U.wrap_i64 (by omega) (by omega)
  obtain ⟨pa, pn, pc, rfl⟩ := strs_slice ha
  obtain ⟨qa, qn, qc, rfl⟩ := strs_slice hb
  clear ha hb
  obtain ⟨W0, hW0⟩ : ∃ W0, W0 = (w.alloc (.cells #[.slice pa pn pc, .int .i64 k] 78)).alloc (.cells #[.slice qa qn qc, .int .i64 l] 78) := ⟨_, rfl⟩
  have c1 : W0.cell? ⟨w.heap.size, 1, none⟩ = some (.int .i64 k) := by rw [hW0]; simp
  have c2 : W0.cell? ⟨w.heap.size + 1, 1, none⟩ = some (.int .i64 l) := by
    have e : (w.alloc (.cells #[.slice pa pn pc, .int .i64 k] 78)).heap.size = w.heap.size + 1 := by simp
    rw [hW0, ← e]; simp
  rw [← hW0] at HC B0
  by_cases h : Pt.comp xs ys = 0
  · rw [lcomp_alike h]
    rw [h] at HC
    clear h hx hy hk hl hz
    go_enter Tryz.func38, Tryz.ntmps38
    go_wp2_with (go_at_call 60; rw [← hW0]; refine HC.mono ?_; rintro e w1 ⟨rfl, hb1⟩; have d1 := keep_cell hb1 c1; have d2 := keep_cell hb1 c2; clear c1 c2)
    go_ret
    exact ⟨rfl, bchain B0 hb1⟩
  · rw [lcomp_unlike h]
    have hn : (Pt.comp xs ys != 0) = true := by simpa using h
    clear hx hy hk hl h hz c1 c2
    generalize Pt.comp xs ys = c at *
    go_enter Tryz.func38, Tryz.ntmps38
    go_wp2_with (go_at_call 60; rw [← hW0]; refine HC.mono ?_; rintro e w1 ⟨rfl, hb1⟩)
    go_ret
    exact ⟨rfl, bchain B0 hb1⟩
end Go.Proofs.YtmnehekcealjhaaGreat.O
