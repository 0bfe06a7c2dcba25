/- The walks of the program's fits and Right, and of the document's Right · The walks of Check, both sides. -/
import Derived.Test.YthlhopdlkkeohaaGreatDoorValAll
import Derived.Test.YthlhopdlkkeohaaGreatDoorThinsAll
import Derived.Test.YthlhopdlkkeohaaGreatDoorRefsAll
import Derived.Test.YthlhopdlkkeohaaGreatDoorChecksAll
/- The walks of the program's fits and Right, and of the document's Right. -/
namespace Go.Proofs.YthlhopdlkkeohaaGreatDoor.V
open Go.RowKit

theorem refRunes_list (l : List UInt8) (w : World) (hs : l.length ≤ 2000000) : Calls Tryz.prog 172 #[.string ⟨l.toArray⟩] w fun e w' => ∃ v, e = .returned (.tuple #[v, .bool (Vl.utf l)]) ∧ Below w.heap.size w w' := by
  refine (U.refRunes_any ⟨l.toArray⟩ w (by rw [mk_size]; exact hs)).mono ?_
  rintro e w' ⟨v, rfl, _, hb⟩
  exact ⟨v, rfl, hb⟩

/-- Within their bounds. -/
def fitB (n : Int) (l : List UInt8) : Bool := decide (-2147483647 ≤ n ∧ n ≤ 2147483647 ∧ l.length ≤ 64) && Vl.utf l
set_option maxRecDepth 20000 in
set_option maxHeartbeats 2000000 in
theorem refRight_any (k n : Int) (l : List UInt8) (w : World) (hl : l.length ≤ 2000000) : Calls Tryz.prog 136 #[valV k n l] w fun e w' => e = .returned (.bool (Vl.right k n l)) ∧ Below w.heap.size w w' := by
  have C := fun w => refRunes_list l w hl
  by_cases h1 : k = 1
  · subst h1
    by_cases h2 : l = []
    · subst h2
      by_cases h3 : -2147483647 ≤ n
      · by_cases h4 : n ≤ 2147483647
        · rw [show Vl.right 1 n [] = true from Vl.right_yes (.inl ⟨rfl, rfl, h3, h4⟩)]
          go_enter Tryz.func136, Tryz.ntmps136
          go_wp2
          go_ret
          exact ⟨rfl, below_new _ _⟩
        · rw [show Vl.right 1 n [] = false from Vl.right_no (by unfold Vl.Right; simp; omega)]
          go_enter Tryz.func136, Tryz.ntmps136
          go_wp2
          go_ret
          exact ⟨rfl, below_new _ _⟩
      · rw [show Vl.right 1 n [] = false from Vl.right_no (by unfold Vl.Right; simp; omega)]
        go_enter Tryz.func136, Tryz.ntmps136
        go_wp2
        go_ret
        exact ⟨rfl, below_new _ _⟩
    · rw [show Vl.right 1 n l = false from Vl.right_no (by unfold Vl.Right; simp [h2])]
      have h2' : (l == []) = false := beq_eq_false_iff_ne.2 h2
      go_enter Tryz.func136, Tryz.ntmps136
      go_wp2
      go_ret
      exact ⟨rfl, below_new _ _⟩
  · have e1 : (k == 1) = false := beq_eq_false_iff_ne.2 h1
    by_cases h2 : k = 2
    · subst h2
      by_cases h3 : n = 0
      · subst h3
        cases hu : Vl.utf l with
        | true =>
          rw [hu] at C
          by_cases h4 : l.length ≤ 64
          · rw [show Vl.right 2 0 l = true from Vl.right_yes (.inr (.inl ⟨rfl, rfl, hu, h4⟩))]
            have h4' : (l.length : Int) ≤ 64 := by omega
            go_enter Tryz.func136, Tryz.ntmps136
            go_wp2_with (go_at_call 172; refine (C _).mono ?_; rintro e w1 ⟨v, rfl, hb⟩; have V1 := (VAt.new w 2 0 l).on hb; have c1 := V1.c1; have c2 := V1.c2)
            go_ret
            exact ⟨rfl, bchain (below_new _ _) hb⟩
          · rw [show Vl.right 2 0 l = false from Vl.right_no (by unfold Vl.Right; simp [h4])]
            have h4' : ¬ (l.length : Int) ≤ 64 := by omega
            go_enter Tryz.func136, Tryz.ntmps136
            go_wp2_with (go_at_call 172; refine (C _).mono ?_; rintro e w1 ⟨v, rfl, hb⟩; have V1 := (VAt.new w 2 0 l).on hb; have c1 := V1.c1; have c2 := V1.c2)
            go_ret
            exact ⟨by show Ending.returned (.bool (decide ((l.length : Int) ≤ 64))) = _; rw [decide_eq_false (by omega)], bchain (below_new _ _) hb⟩
        | false =>
          rw [hu] at C
          rw [show Vl.right 2 0 l = false from Vl.right_no (by unfold Vl.Right; simp [hu])]
          go_enter Tryz.func136, Tryz.ntmps136
          go_wp2_with (go_at_call 172; refine (C _).mono ?_; rintro e w1 ⟨v, rfl, hb⟩; have V1 := (VAt.new w 2 0 l).on hb; have c1 := V1.c1; have c2 := V1.c2)
          go_ret
          exact ⟨rfl, bchain (below_new _ _) hb⟩
      · rw [show Vl.right 2 n l = false from Vl.right_no (by unfold Vl.Right; simp [h3])]
        have h3' : (n == 0) = false := beq_eq_false_iff_ne.2 h3
        go_enter Tryz.func136, Tryz.ntmps136
        go_wp2_with (go_at_call 172; refine (C _).mono ?_; rintro e w1 ⟨v, rfl, hb⟩; have V1 := (VAt.new w 2 n l).on hb; have c1 := V1.c1; have c2 := V1.c2)
        go_ret
        exact ⟨rfl, bchain (below_new _ _) hb⟩
    · have e2 : (k == 2) = false := beq_eq_false_iff_ne.2 h2
      by_cases h3 : k = 3
      · subst h3
        by_cases h4 : l = []
        · subst h4
          by_cases h5 : 0 ≤ n
          · by_cases h6 : n ≤ 1
            · rw [show Vl.right 3 n [] = true from Vl.right_yes (.inr (.inr ⟨rfl, rfl, h5, h6⟩))]
              go_enter Tryz.func136, Tryz.ntmps136
              go_wp2
              go_ret
              exact ⟨rfl, below_new _ _⟩
            · rw [show Vl.right 3 n [] = false from Vl.right_no (by unfold Vl.Right; simp; omega)]
              go_enter Tryz.func136, Tryz.ntmps136
              go_wp2
              go_ret
              exact ⟨rfl, below_new _ _⟩
          · rw [show Vl.right 3 n [] = false from Vl.right_no (by unfold Vl.Right; simp; omega)]
            go_enter Tryz.func136, Tryz.ntmps136
            go_wp2
            go_ret
            exact ⟨rfl, below_new _ _⟩
        · rw [show Vl.right 3 n l = false from Vl.right_no (by unfold Vl.Right; simp [h4])]
          have h4' : (l == []) = false := beq_eq_false_iff_ne.2 h4
          go_enter Tryz.func136, Tryz.ntmps136
          go_wp2
          go_ret
          exact ⟨rfl, below_new _ _⟩
      · rw [show Vl.right k n l = false from Vl.right_no (by unfold Vl.Right; omega)]
        have e3 : (k == 3) = false := beq_eq_false_iff_ne.2 h3
        go_enter Tryz.func136, Tryz.ntmps136
        go_wp2
        go_ret
        exact ⟨rfl, below_new _ _⟩
end Go.Proofs.YthlhopdlkkeohaaGreatDoor.V
/- The walks of Check, both sides. -/
namespace Go.Proofs.YthlhopdlkkeohaaGreatDoor.O
open Go.RowKit

/-! ### What Check answers -/
theorem ck_kind {o : Os.Op} (h : o.k < 1 ∨ 5 < o.k) : Os.check o = 18 := by unfold Os.check; rw [if_pos h]
theorem ck_path {o : Os.Op} (h : ¬ (o.k < 1 ∨ 5 < o.k)) (hp : Pt.check o.p ≠ 0) : Os.check o = Pt.check o.p := by unfold Os.check; rw [if_neg h, if_pos hp]
theorem ck_arg {o : Os.Op} (h : ¬ (o.k < 1 ∨ 5 < o.k)) (hp : Pt.check o.p = 0) (h2 : Os.rv o = false ∨ Os.ra o = false ∨ (Os.hs o.k = false ∧ 0 < o.l.length)) : Os.check o = 2 := by
  unfold Os.check; rw [if_neg h, if_neg (by omega), if_pos h2]
theorem ck_full {o : Os.Op} (h : ¬ (o.k < 1 ∨ 5 < o.k)) (hp : Pt.check o.p = 0) (h2 : ¬ (Os.rv o = false ∨ Os.ra o = false ∨ (Os.hs o.k = false ∧ 0 < o.l.length))) (h3 : 256 < o.l.length) : Os.check o = 7 := by
  unfold Os.check; rw [if_neg h, if_neg (by omega), if_neg h2, if_pos h3]
theorem ck_refs {o : Os.Op} (h : ¬ (o.k < 1 ∨ 5 < o.k)) (hp : Pt.check o.p = 0) (h2 : ¬ (Os.rv o = false ∨ Os.ra o = false ∨ (Os.hs o.k = false ∧ 0 < o.l.length))) (h3 : ¬ 256 < o.l.length) (h4 : Os.ups o.l = false) : Os.check o = 2 := by
  unfold Os.check; rw [if_neg h, if_neg (by omega), if_neg h2, if_neg h3, if_pos h4]
theorem ck_ok {o : Os.Op} (h : ¬ (o.k < 1 ∨ 5 < o.k)) (hp : Pt.check o.p = 0) (h2 : ¬ (Os.rv o = false ∨ Os.ra o = false ∨ (Os.hs o.k = false ∧ 0 < o.l.length))) (h3 : ¬ 256 < o.l.length) (h4 : Os.ups o.l = true) : Os.check o = 0 := by
  unfold Os.check; rw [if_neg h, if_neg (by omega), if_neg h2, if_neg h3, if_neg (by simp [h4])]

end Go.Proofs.YthlhopdlkkeohaaGreatDoor.O
