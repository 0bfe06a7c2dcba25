/- The walk of PathTells. -/
import Derived.Test.YtcmidcpogcejfaaAwake
import Derived.Test.YtcmidcpogcejfaaComps
namespace Go.Proofs.Ytcmidcpogcejfaa.U
open Go.RowKit

set_option maxRecDepth 20000 in
set_option maxHeartbeats 4000000 in
theorem pathTells_walk (va vb : Value) (xs ys : List (List UInt8)) (w : World) (hn : xs.length ≤ maxLen) (hm : ys.length ≤ maxLen) (hz : ∀ x ∈ xs, x.length ≤ maxLen) (hq : ∀ x ∈ ys, x.length ≤ maxLen) (ha : strsAt w va xs) (hb : strsAt w vb ys) :
    Calls Try.prog 3 #[va, vb] w fun e w' => e = .returned (.bool true) ∧ Below w.heap.size w w' := by
  have eM : maxLen = 9223372036854775807 := rfl
  rw [eM] at hn hm hz hq
  have S1 := short_any va xs w hn hz ha
  cases hs1 : Pt.short xs with
  | false =>
    rw [hs1] at S1
    clear hz hq hs1
    go_enter Try.func3, Try.ntmps3
    go_wp2_with fail
    refine S1.mono ?_
    rintro e w1 ⟨rfl, b1⟩
    go_wp2_with fail
    refine (awake_any _).mono ?_
    rintro e w2 ⟨rfl, b2⟩
    go_wp2
    go_ret
    exact ⟨rfl, bchain b1 b2⟩
  | true =>
    rw [hs1] at S1
    have S2 := fun w1 (b1 : Below w.heap.size w w1) => short_any vb ys w1 hm hq (strsAt_below hb b1 (Nat.le_refl _))
    cases hs2 : Pt.short ys with
    | false =>
      rw [hs2] at S2
      clear hz hq hs1 hs2
      go_enter Try.func3, Try.ntmps3
      go_wp2_with fail
      refine S1.mono ?_
      rintro e w1 ⟨rfl, b1⟩
      go_wp2_with fail
      refine (S2 w1 b1).mono ?_
      rintro e w2 ⟨rfl, b2⟩
      go_wp2_with fail
      refine (awake_any _).mono ?_
      rintro e w3 ⟨rfl, b3⟩
      go_wp2
      go_ret
      exact ⟨rfl, bchain (bchain b1 b2) b3⟩
    | true =>
      rw [hs2] at S2
      have f1 := Pt.short_iff hs1
      have f2 := Pt.short_iff hs2
      have hf : Few xs := f1
      have l1 : xs.length ≤ 2000000 := by have := f1.1; omega
      have l2 : ys.length ≤ 2000000 := by have := f2.1; omega
      have l3 : ∀ x ∈ xs, x.length ≤ 2000000 := fun x hx => by have := f1.2 x hx; omega
      clear hz hq hs1 hs2 f1 f2
      go_enter Try.func3, Try.ntmps3
      go_wp2_with fail
      refine S1.mono ?_
      rintro e w1 ⟨rfl, b1⟩
      go_wp2_with fail
      refine (S2 w1 b1).mono ?_
      rintro e w2 ⟨rfl, b2⟩
      have B2 := bchain b1 b2
      go_wp2_with fail
      refine (check_any va xs w2 (by omega) (strsAt_below ha B2 (Nat.le_refl _))).mono ?_
      rintro e w3 ⟨rfl, b3⟩
      have B3 := bchain B2 b3
      go_wp2_with fail
      refine (refCheck_any va xs w3 (by omega) l3 (strsAt_below ha B3 (Nat.le_refl _))).mono ?_
      rintro e w4 ⟨rfl, b4⟩
      have B4 := bchain B3 b4
      go_wp2_with fail
      refine (compare_any va vb xs ys w4 l1 l2 (strsAt_below ha B4 (Nat.le_refl _)) (strsAt_below hb B4 (Nat.le_refl _))).mono ?_
      rintro e w5 ⟨rfl, b5⟩
      have B5 := bchain B4 b5
      go_wp2_with fail
      refine (refCompare_any va vb xs ys w5 l1 l2 l3 (strsAt_below ha B5 (Nat.le_refl _)) (strsAt_below hb B5 (Nat.le_refl _))).mono ?_
      rintro e w6 ⟨rfl, b6⟩
      have B6 := bchain B5 b6
      go_wp2_with fail
      refine (psame_any va vb xs ys w6 l1 (strsAt_below ha B6 (Nat.le_refl _)) (strsAt_below hb B6 (Nat.le_refl _))).mono ?_
      rintro e w7 ⟨rfl, b7⟩
      have B7 := bchain B6 b7
      go_wp2_with fail
      refine (same_any va vb xs ys w7 l1 (strsAt_below ha B7 (Nat.le_refl _)) (strsAt_below hb B7 (Nat.le_refl _))).mono ?_
      rintro e w8 ⟨rfl, b8⟩
      have B8 := bchain B7 b8
      go_wp2_with fail
      refine (under_any va vb xs ys w8 l1 l2 (strsAt_below ha B8 (Nat.le_refl _)) (strsAt_below hb B8 (Nat.le_refl _))).mono ?_
      rintro e w9 ⟨rfl, b9⟩
      have B9 := bchain B8 b9
      go_wp2_with fail
      refine (refUnder_any va vb xs ys w9 l1 (strsAt_below ha B9 (Nat.le_refl _)) (strsAt_below hb B9 (Nat.le_refl _))).mono ?_
      rintro e w10 ⟨rfl, b10⟩
      have B10 := bchain B9 b10
      go_wp2_with fail
      refine (text_any va xs w10 hf (strsAt_below ha B10 (Nat.le_refl _))).mono ?_
      rintro e w11 ⟨rfl, b11⟩
      have B11 := bchain B10 b11
      go_wp2_with fail
      refine (refPText_any va xs w11 hf (strsAt_below ha B11 (Nat.le_refl _))).mono ?_
      rintro e w12 ⟨rfl, b12⟩
      have B12 := bchain B11 b12
      go_wp2_with fail
      refine (code_any va xs w12 hf (strsAt_below ha B12 (Nat.le_refl _))).mono ?_
      rintro e w13 ⟨rfl, b13⟩
      have B13 := bchain B12 b13
      go_wp2_with fail
      refine (refCode_any va xs w13 hf (strsAt_below ha B13 (Nat.le_refl _))).mono ?_
      rintro e w14 ⟨rfl, b14⟩
      have B14 := bchain B13 b14
      go_wp2_with fail
      refine (awake_any _).mono ?_
      rintro e w15 ⟨rfl, b15⟩
      go_wp2
      go_ret
      exact ⟨rfl, bchain B14 b15⟩

end Go.Proofs.Ytcmidcpogcejfaa.U
