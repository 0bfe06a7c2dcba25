/- The walk of the statement TallyLattice. -/
import Derived.Test.YtpheljlnlbiieaaLJoins
namespace Go.Proofs.Ytpheljlnlbiieaa
open Go.RowKit Go.Shelf
set_option linter.unusedVariables false

set_option maxRecDepth 20000 in
set_option maxHeartbeats 4000000 in
theorem tallyLattice_walk (va : Value) (a : List U) (vb : Value) (b : List U) (vc : Value) (c : List U) (w : World) (ha : cntsIn w va a) (hb : cntsIn w vb b) (hc : cntsIn w vc c) :
    Calls Try.prog 5 #[va, vb, vc] w fun e w' => e = .returned (.bool true) ∧ Below w.heap.size w w' := by
  have HGa := good_any va a w ha
  have HGb := fun W (h : Below w.heap.size w W) => good_any vb b W (hb.on h)
  have HGc := fun W (h : Below w.heap.size w W) => good_any vc c W (hc.on h)
  cases qa : goodU a with
  | false =>
    rw [qa] at HGa
    clear ha hb hc HGb HGc
    go_enter Try.func5, Try.ntmps5
    go_wp2_with (first | (go_at_call 21; with_reducible refine HGa.mono ?_; rintro e w1 ⟨rfl, hb1⟩) | (go_at_call 9; refine (awake_any _).mono ?_; rintro e w2 ⟨rfl, hb2⟩))
    go_ret
    exact ⟨rfl, bchain hb1 hb2⟩
  | true =>
    rw [qa] at HGa
    cases qb : goodU b with
    | false =>
      simp only [qb] at HGb
      clear ha hb hc HGc
      go_enter Try.func5, Try.ntmps5
      go_wp2_with (first | (go_at_call 21; first | (with_reducible refine HGa.mono ?_; rintro e w1 ⟨rfl, hb1⟩) | (with_reducible refine (HGb w1 hb1).mono ?_; rintro e w2 ⟨rfl, hb2⟩)) | (go_at_call 9; refine (awake_any _).mono ?_; rintro e w3 ⟨rfl, hb3⟩))
      go_ret
      exact ⟨rfl, bchain (bchain hb1 hb2) hb3⟩
    | true =>
      simp only [qb] at HGb
      cases qc : goodU c with
      | false =>
        simp only [qc] at HGc
        clear ha hb hc
        go_enter Try.func5, Try.ntmps5
        go_wp2_with (first | (go_at_call 21; first | (with_reducible refine HGa.mono ?_; rintro e w1 ⟨rfl, hb1⟩) | (with_reducible refine (HGb w1 hb1).mono ?_; rintro e w2 ⟨rfl, hb2⟩) | (with_reducible refine (HGc w2 (bchain hb1 hb2)).mono ?_; rintro e w3 ⟨rfl, hb3⟩)) | (go_at_call 9; refine (awake_any _).mono ?_; rintro e w4 ⟨rfl, hb4⟩))
        go_ret
        exact ⟨rfl, bchain (bchain (bchain hb1 hb2) hb3) hb4⟩
      | true =>
        simp only [qc] at HGc
        obtain ⟨la, sa⟩ := goodU_iff.1 qa
        obtain ⟨lb, sb⟩ := goodU_iff.1 qb
        obtain ⟨lc, sc⟩ := goodU_iff.1 qc
        have ljab := Ct.join_length a b
        have ljbc := Ct.join_length b c
        have ljaa := Ct.join_length a a
        have ljabc := Ct.join_length (Ct.join a b) c
        have HA : ∀ {W}, Below w.heap.size w W → cntsIn W va a := fun h => ha.on h
        have HB : ∀ {W}, Below w.heap.size w W → cntsIn W vb b := fun h => hb.on h
        have HC : ∀ {W}, Below w.heap.size w W → cntsIn W vc c := fun h => hc.on h
        have Cab := fun W (h : Below w.heap.size w W) => join_any va vb a b W (HA h) (HB h) (by omega)
        have Cba := fun W (h : Below w.heap.size w W) => join_any vb va b a W (HB h) (HA h) (by omega)
        rw [Ct.join_turn b a] at Cba
        have Cabc := fun W (h : Below w.heap.size w W) r (hr : cntsIn W r (Ct.join a b)) => join_any r vc (Ct.join a b) c W hr (HC h) (by omega)
        have Cbc := fun W (h : Below w.heap.size w W) => join_any vb vc b c W (HB h) (HC h) (by omega)
        have Cabc2 := fun W (h : Below w.heap.size w W) r (hr : cntsIn W r (Ct.join b c)) => join_any va r a (Ct.join b c) W (HA h) hr (by omega)
        rw [← Ct.join_assoc sa sb sc] at Cabc2
        have Caa := fun W (h : Below w.heap.size w W) => join_any va va a a W (HA h) (HA h) (by omega)
        rw [Ct.join_self sa] at Caa
        have S1 := fun W (r s : Value) (h : cntsIn W r (Ct.join a b)) (k : cntsIn W s (Ct.join a b)) => same_any r s _ _ W (by omega) h k
        have S2 := fun W (r s : Value) (h : cntsIn W r (Ct.join (Ct.join a b) c)) (k : cntsIn W s (Ct.join (Ct.join a b) c)) => same_any r s _ _ W (by omega) h k
        have S3 := fun W (h : Below w.heap.size w W) (r : Value) (k : cntsIn W r a) => same_any r va _ _ W (by omega) k (HA h)
        simp only [decide_true] at S1 S2 S3
        clear ha hb hc HA HB HC ljab ljbc ljaa ljabc sa sb sc la lb lc qa qb qc
        generalize Ct.join (Ct.join a b) c = abc at *
        generalize Ct.join b c = bc at *
        generalize Ct.join a b = ab at *
        go_enter Try.func5, Try.ntmps5
        go_wp2_with (first
          | (go_at_call 21; first | (with_reducible refine HGa.mono ?_; rintro e w1 ⟨rfl, hb1⟩) | (with_reducible refine (HGb w1 hb1).mono ?_; rintro e w2 ⟨rfl, hb2⟩; have B2 := bchain hb1 hb2) | (with_reducible refine (HGc w2 B2).mono ?_; rintro e w3 ⟨rfl, hb3⟩; have B3 := bchain B2 hb3))
          | (go_at_call 22; first
              | (with_reducible refine (Cab w3 B3).mono ?_; rintro e w4 ⟨r4, rfl, own4, hb4⟩; have hr4 := cntsIn_own own4; have B4 := bchain B3 hb4)
              | (with_reducible refine (Cba w4 B4).mono ?_; rintro e w5 ⟨r5, rfl, own5, hb5⟩; have hr5 := cntsIn_own own5; have B5 := bchain B4 hb5; have hr4 := hr4.on hb5)
              | (with_reducible refine (Cabc w6 B6 _ hr4).mono ?_; rintro e w7 ⟨r7, rfl, own7, hb7⟩; have hr7 := cntsIn_own own7; have B7 := bchain B6 hb7)
              | (with_reducible refine (Cbc w7 B7).mono ?_; rintro e w8 ⟨r8, rfl, own8, hb8⟩; have hr8 := cntsIn_own own8; have B8 := bchain B7 hb8; have hr7 := hr7.on hb8)
              | (with_reducible refine (Cabc2 w8 B8 _ hr8).mono ?_; rintro e w9 ⟨r9, rfl, own9, hb9⟩; have hr9 := cntsIn_own own9; have B9 := bchain B8 hb9; have hr7 := hr7.on hb9)
              | (with_reducible refine (Caa w10 B10).mono ?_; rintro e w11 ⟨r11, rfl, own11, hb11⟩; have hr11 := cntsIn_own own11; have B11 := bchain B10 hb11))
          | (go_at_call 26; first
              | (with_reducible refine (S1 w5 _ _ hr4 hr5).mono ?_; rintro e w6 ⟨rfl, hb6⟩; have B6 := bchain B5 hb6; have hr4 := hr4.on hb6)
              | (with_reducible refine (S2 w9 _ _ hr7 hr9).mono ?_; rintro e w10 ⟨rfl, hb10⟩; have B10 := bchain B9 hb10)
              | (with_reducible refine (S3 w11 B11 _ hr11).mono ?_; rintro e w12 ⟨rfl, hb12⟩; have B12 := bchain B11 hb12))
          | (go_at_call 9; refine (awake_any _).mono ?_; rintro e w13 ⟨rfl, hb13⟩; have B13 := bchain B12 hb13))
        go_ret
        exact ⟨rfl, B13⟩
end Go.Proofs.Ytpheljlnlbiieaa
