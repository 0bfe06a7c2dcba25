/- The walk of the statement TallyJoins. -/
import Derived.Test.YtpheljlnlbiieaaAwake
import Derived.Test.YtpheljlnlbiieaaOver
import Derived.Test.YtpheljlnlbiieaaRefJoin
namespace Go.Proofs.Ytpheljlnlbiieaa
open Go.RowKit Go.Shelf
set_option linter.unusedVariables false

theorem goodU_iff {l : List U} : goodU l = true ↔ l.length ≤ 100 ∧ Ct.Std l := by simp [goodU, Ct.right_iff]

set_option maxRecDepth 20000 in
set_option maxHeartbeats 4000000 in
theorem tallyJoins_walk (va : Value) (a : List U) (vb : Value) (b : List U) (w : World) (ha : cntsIn w va a) (hb : cntsIn w vb b) :
    Calls Try.prog 4 #[va, vb] w fun e w' => e = .returned (.bool true) ∧ Below w.heap.size w w' := by
  have HGa := good_any va a w ha
  have HGb := fun W (h : Below w.heap.size w W) => good_any vb b W (hb.on h)
  cases qa : goodU a with
  | false =>
    rw [qa] at HGa
    clear ha hb HGb
    go_enter Try.func4, Try.ntmps4
    go_wp2_with (first | (go_at_call 21; refine HGa.mono ?_; rintro e w1 ⟨rfl, hb1⟩) | (go_at_call 9; refine (awake_any _).mono ?_; rintro e w2 ⟨rfl, hb2⟩))
    go_ret
    exact ⟨rfl, bchain hb1 hb2⟩
  | true =>
    cases qb : goodU b with
    | false =>
      rw [qa] at HGa
      simp only [qb] at HGb
      clear ha hb
      go_enter Try.func4, Try.ntmps4
      go_wp2_with (first | (go_at_call 21; first | (with_reducible refine HGa.mono ?_; rintro e w1 ⟨rfl, hb1⟩) | (refine (HGb w1 hb1).mono ?_; rintro e w2 ⟨rfl, hb2⟩)) | (go_at_call 9; refine (awake_any _).mono ?_; rintro e w3 ⟨rfl, hb3⟩))
      go_ret
      exact ⟨rfl, bchain (bchain hb1 hb2) hb3⟩
    | true =>
      rw [qa] at HGa
      simp only [qb] at HGb
      obtain ⟨la, sa⟩ := goodU_iff.1 qa
      obtain ⟨lb, sb⟩ := goodU_iff.1 qb
      have sj := Ct.join_std sa sb
      have so := Ct.over_std sa b
      have lj := Ct.join_length a b
      have lo : (Ct.over a b).length ≤ 100 := Nat.le_trans (List.length_filter_le _ _) la
      have HA : ∀ {W}, Below w.heap.size w W → cntsIn W va a := fun h => ha.on h
      have HB : ∀ {W}, Below w.heap.size w W → cntsIn W vb b := fun h => hb.on h
      have C22 := fun W (h : Below w.heap.size w W) => join_any va vb a b W (HA h) (HB h) (by omega)
      have C23 := fun W (h : Below w.heap.size w W) => over_any va vb a b W (HA h) (HB h) (by omega) (by omega) sb
      have C24 := fun W (h : Below w.heap.size w W) => refJoin_any va vb a b W (HA h) (HB h) (by omega) sa
      rw [Ct.joins_join sa sb] at C24
      have C25 := fun W (h : Below w.heap.size w W) => refOver_any va vb a b W (HA h) (HB h) (by omega) (by omega)
      have C18a := fun W (r s : Value) (h : cntsIn W r (Ct.join a b)) (k : cntsIn W s (Ct.join a b)) => refSame_any r s _ _ W (by omega) h k
      have C18b := fun W (r s : Value) (h : cntsIn W r (Ct.over a b)) (k : cntsIn W s (Ct.over a b)) => refSame_any r s _ _ W (by omega) h k
      simp only [decide_true] at C18a C18b
      have C18c := fun W (h : Below w.heap.size w W) => refSame_any va vb a b W (by omega) (HA h) (HB h)
      have C26 := fun W (h : Below w.heap.size w W) => same_any va vb a b W (by omega) (HA h) (HB h)
      have C11a := fun W (r : Value) (h : cntsIn W r (Ct.join a b)) => refRight_cnts r _ W h (by omega)
      have C11b := fun W (r : Value) (h : cntsIn W r (Ct.over a b)) => refRight_cnts r _ W h (by omega)
      rw [Ct.right_iff.2 sj] at C11a
      rw [Ct.right_iff.2 so] at C11b
      clear ha hb HA HB sj so lj lo sa sb la lb qa qb
      generalize decide (a = b) = q at *
      go_enter Try.func4, Try.ntmps4
      go_wp2_with (first
        | (go_at_call 21; first | (with_reducible refine HGa.mono ?_; rintro e w1 ⟨rfl, hb1⟩) | (refine (HGb w1 hb1).mono ?_; rintro e w2 ⟨rfl, hb2⟩; have B2 := bchain hb1 hb2))
        | (go_at_call 22; refine (C22 w2 B2).mono ?_; rintro e w3 ⟨r3, rfl, own3, hb3⟩; have hr3 := cntsIn_own own3; have B3 := bchain B2 hb3)
        | (go_at_call 23; refine (C23 w3 B3).mono ?_; rintro e w4 ⟨r4, rfl, hr4, hb4⟩; have B4 := bchain B3 hb4; have hr3 := hr3.on hb4)
        | (go_at_call 24; refine (C24 w4 B4).mono ?_; rintro e w5 ⟨r5, rfl, hr5, hb5⟩; have B5 := bchain B4 hb5; have hr3 := hr3.on hb5; have hr4 := hr4.on hb5)
        | (go_at_call 18; first | (with_reducible refine (C18a w5 _ _ hr3 hr5).mono ?_; rintro e w6 ⟨rfl, hb6⟩; have B6 := bchain B5 hb6; have hr3 := hr3.on hb6; have hr4 := hr4.on hb6) | (with_reducible refine (C18b w7 _ _ hr4 hr7).mono ?_; rintro e w8 ⟨rfl, hb8⟩; have B8 := bchain B7 hb8; have hr3 := hr3.on hb8; have hr4 := hr4.on hb8) | (with_reducible refine (C18c w11 B11).mono ?_; rintro e w12 ⟨rfl, hb12⟩; have B12 := bchain B11 hb12))
        | (go_at_call 25; refine (C25 w6 B6).mono ?_; rintro e w7 ⟨r7, rfl, hr7, hb7⟩; have B7 := bchain B6 hb7; have hr3 := hr3.on hb7; have hr4 := hr4.on hb7)
        | (go_at_call 11; first | (with_reducible refine (C11a w8 _ hr3).mono ?_; rintro e w9 ⟨rfl, hb9⟩; have B9 := bchain B8 hb9; have hr4 := hr4.on hb9) | (with_reducible refine (C11b w9 _ hr4).mono ?_; rintro e w10 ⟨rfl, hb10⟩; have B10 := bchain B9 hb10))
        | (go_at_call 26; refine (C26 w10 B10).mono ?_; rintro e w11 ⟨rfl, hb11⟩; have B11 := bchain B10 hb11)
        | (go_at_call 9; refine (awake_any _).mono ?_; rintro e w13 ⟨rfl, hb13⟩; have B13 := bchain B12 hb13))
      go_ret
      exact ⟨rfl, B13⟩
end Go.Proofs.Ytpheljlnlbiieaa
