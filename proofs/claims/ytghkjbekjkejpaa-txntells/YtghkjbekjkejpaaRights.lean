/- The walks of the program's fits and Right, and of the document's Right. -/
import Derived.Test.YtghkjbekjkejpaaValAll
namespace Go.Proofs.Ytghkjbekjkejpaa.V
open Go.RowKit

theorem runes_list (l : List UInt8) (w : World) (hs : l.length ≤ 2000000) : Calls Try.prog 102 #[.string ⟨l.toArray⟩] w fun e w' => ∃ v, e = .returned (.tuple #[v, .bool (Vl.utf l)]) ∧ Below w.heap.size w w' := by
  refine (U.runes_any ⟨l.toArray⟩ w (by rw [mk_size]; exact hs)).mono ?_
  rintro e w' ⟨v, rfl, _, hb⟩
  exact ⟨v, rfl, hb⟩
theorem refRunes_list (l : List UInt8) (w : World) (hs : l.length ≤ 2000000) : Calls Try.prog 75 #[.string ⟨l.toArray⟩] w fun e w' => ∃ v, e = .returned (.tuple #[v, .bool (Vl.utf l)]) ∧ Below w.heap.size w w' := by
  refine (U.refRunes_any ⟨l.toArray⟩ w (by rw [mk_size]; exact hs)).mono ?_
  rintro e w' ⟨v, rfl, _, hb⟩
  exact ⟨v, rfl, hb⟩

/-- Within their bounds. -/
def fitB (n : Int) (l : List UInt8) : Bool := decide (-2147483647 ≤ n ∧ n ≤ 2147483647 ∧ l.length ≤ 64) && Vl.utf l
set_option maxRecDepth 20000 in
theorem fits_any (k n : Int) (l : List UInt8) (w : World) : Calls Try.prog 99 #[valV k n l] w fun e w' => e = .returned (.bool (fitB n l)) ∧ Below w.heap.size w w' := by
  have C := runes_list l
  by_cases h1 : n < -2147483647
  · rw [show fitB n l = false by unfold fitB; rw [decide_eq_false (by omega)]; rfl]
    go_enter Try.func99, Try.ntmps99
    go_wp2
    go_ret
    exact ⟨rfl, below_new _ _⟩
  · by_cases h2 : 2147483647 < n
    · rw [show fitB n l = false by unfold fitB; rw [decide_eq_false (by omega)]; rfl]
      go_enter Try.func99, Try.ntmps99
      go_wp2
      go_ret
      exact ⟨rfl, below_new _ _⟩
    · by_cases h3 : 64 < l.length
      · rw [show fitB n l = false by unfold fitB; rw [decide_eq_false (by omega)]; rfl]
        have h3' : (64 : Int) < (l.length : Int) := by omega
        go_enter Try.func99, Try.ntmps99
        go_wp2
        go_ret
        exact ⟨rfl, below_new _ _⟩
      · rw [show fitB n l = Vl.utf l by unfold fitB; rw [decide_eq_true (by omega)]; rfl]
        have h3' : ¬ (64 : Int) < (l.length : Int) := by omega
        go_enter Try.func99, Try.ntmps99
        go_wp2_with (go_at_call 102; refine (C _ (by omega)).mono ?_; rintro e w1 ⟨v, rfl, hb⟩)
        go_ret
        exact ⟨rfl, bchain (below_new _ _) hb⟩

set_option maxRecDepth 20000 in
theorem right_any (k n : Int) (l : List UInt8) (w : World) : Calls Try.prog 94 #[valV k n l] w fun e w' => e = .returned (.bool (Vl.right k n l)) ∧ Below w.heap.size w w' := by
  have C23 := fits_any k n l
  cases hf : fitB n l with
  | false =>
    rw [hf] at C23
    rw [show Vl.right k n l = false from Vl.right_no (fun h => by
      have h1 := h.len; have h2 := h.amount; have h3 := h.utf
      unfold fitB at hf; rw [h3, decide_eq_true (by omega)] at hf; cases hf)]
    go_enter Try.func94, Try.ntmps94
    go_wp2_with fail
    refine wp_region_held_drew (S := fun W => VAt W w.heap.size k n l ∧ Below w.heap.size w W) (by kernel_rfl) (⟨(VAt.new w k n l).drew, (below_new w _).drew⟩) (fun hH0 => ?_)
    refine held_take (i := 0) (o := { dst := some 3, op := Op.load 44 (Operand.tmp 1), type := 44, pos := "value.go:58", after := #[], guard := none }) (v := valV k n l) (by kernel_rfl) (by kernel_rfl) (by kernel_rfl) (by kernel_rfl) (fun _ _ _ h => h) (by kernel_rfl) (fun _ h => exec_ldV rfl (by kernel_rfl) h.1) hH0 ?_
    refine held_callX (i := 1) (o := { dst := some 4, op := Op.call { callee := Callee.value (Operand.func 99), args := #[Operand.tmp 3], argTypes := #[44] }, type := 4, pos := "value.go:58", after := #[{ on := 0, ground := Ground.data }], guard := none }) (F := 99) (vs := #[valV k n l]) (by kernel_rfl) (by kernel_rfl) (by kernel_rfl) (fun _ => by kernel_rfl) (C23 _) ?_
    rintro e w1 ⟨rfl, hb1⟩
    have hH1 := And.intro (hH0.1.on hb1) (bchain hH0.2 hb1)
    refine ⟨.bool false, rfl, hH1, ?_⟩
    refine held_take (i := 2) (o := { dst := some 5, op := Op.move (Operand.tmp 4), type := 4, pos := "value.go:58", after := #[{ on := 1, ground := Ground.data }, { on := 1, ground := Ground.chain }], guard := none }) (v := .bool false) (by kernel_rfl) (by kernel_rfl) (by kernel_rfl) (by kernel_rfl) (fun _ _ _ h => h) (by kernel_rfl) (fun _ _ => by kernel_rfl) hH1 ?_
    refine held_skip (i := 3) (o := { dst := some 6, op := Op.load 44 (Operand.tmp 1), type := 44, pos := "value.go:58", after := #[{ on := 2, ground := Ground.guard }], guard := some (2, true) }) (by kernel_rfl) (by kernel_rfl) (by kernel_rfl) (by kernel_rfl) (fun _ _ _ h => h) (by kernel_rfl) hH1 ?_
    refine held_skip (i := 6) (o := { dst := some 9, op := Op.load 44 (Operand.tmp 1), type := 44, pos := "value.go:58", after := #[{ on := 2, ground := Ground.guard }], guard := some (2, true) }) (by kernel_rfl) (by kernel_rfl) (by kernel_rfl) (by kernel_rfl) (fun _ _ _ h => h) (by kernel_rfl) hH1 ?_
    refine held_skip (i := 4) (o := { dst := some 7, op := Op.call { callee := Callee.value (Operand.func 87), args := #[Operand.tmp 6], argTypes := #[44] }, type := 20, pos := "value.go:58", after := #[{ on := 3, ground := Ground.data }, { on := 2, ground := Ground.chain }, { on := 2, ground := Ground.guard }], guard := some (2, true) }) (by kernel_rfl) (by kernel_rfl) (by kernel_rfl) (by kernel_rfl) (fun _ _ _ h => h) (by kernel_rfl) hH1 ?_
    refine held_skip (i := 5) (o := { dst := some 8, op := Op.call { callee := Callee.value (Operand.func 100), args := #[Operand.tmp 7], argTypes := #[20] }, type := 44, pos := "value.go:58", after := #[{ on := 4, ground := Ground.data }, { on := 4, ground := Ground.chain }, { on := 2, ground := Ground.guard }], guard := some (2, true) }) (by kernel_rfl) (by kernel_rfl) (by kernel_rfl) (by kernel_rfl) (fun _ _ _ h => h) (by kernel_rfl) hH1 ?_
    refine held_skip (i := 7) (o := { dst := some 10, op := Op.binOp BinOp.eql 44 (Operand.tmp 8) (Operand.tmp 9) 44, type := 4, pos := "value.go:58", after := #[{ on := 5, ground := Ground.data }, { on := 6, ground := Ground.data }, { on := 2, ground := Ground.guard }], guard := some (2, true) }) (by kernel_rfl) (by kernel_rfl) (by kernel_rfl) (by kernel_rfl) (fun _ _ _ h => h) (by kernel_rfl) hH1 ?_
    refine held_take (i := 8) (o := { dst := some 11, op := Op.pick (Operand.tmp 5) (Operand.tmp 10) (Operand.const (Value.bool false)), type := 4, pos := "value.go:58", after := #[{ on := 2, ground := Ground.data }, { on := 7, ground := Ground.data }], guard := none }) (v := .bool false) (by kernel_rfl) (by kernel_rfl) (by kernel_rfl) (by kernel_rfl) (fun _ _ _ h => h) (by kernel_rfl) (fun _ _ => by kernel_rfl) hH1 ?_
    refine held_do (i := 9) (o := { dst := some 2, op := Op.assign (Operand.tmp 11), type := 4, pos := "value.go:58", after := #[{ on := 8, ground := Ground.data }, { on := 5, ground := Ground.chain }, { on := 0, ground := Ground.phase }, { on := 1, ground := Ground.phase }, { on := 2, ground := Ground.phase }, { on := 3, ground := Ground.phase }, { on := 4, ground := Ground.phase }, { on := 5, ground := Ground.phase }, { on := 6, ground := Ground.phase }, { on := 7, ground := Ground.phase }, { on := 8, ground := Ground.phase }], guard := none }) (v := .bool false) (by kernel_rfl) (by kernel_rfl) (by kernel_rfl) (by kernel_rfl) hH1 ?_
    refine wpAnyH_done (by kernel_rfl) ?_ _
    simp only [Act.put, List.setIfInBounds_toArray, List.set_cons_zero, List.set_cons_succ]
    go_wp2
    go_ret
    exact ⟨rfl, hH1.2⟩
  | true =>
    rw [hf] at C23
    have hr : decide ((Vl.inside k n l).k = k ∧ (Vl.inside k n l).n = n ∧ (Vl.inside k n l).s = l) = Vl.right k n l := by
      unfold fitB at hf
      simp only [Bool.and_eq_true, decide_eq_true_eq] at hf
      rw [Bool.eq_iff_iff, decide_eq_true_eq, Vl.right_iff]
      exact ⟨fun h => Vl.right_of_is h hf.1.1 hf.1.2.1 hf.1.2.2 hf.2, fun h => Vl.inside_is h⟩
    rw [← hr]
    clear hr
    go_enter Try.func94, Try.ntmps94
    go_wp2_with fail
    refine wp_region_held_drew (S := fun W => VAt W w.heap.size k n l ∧ Below w.heap.size w W) (by kernel_rfl) (⟨(VAt.new w k n l).drew, (below_new w _).drew⟩) (fun hH0 => ?_)
    refine held_take (i := 0) (o := { dst := some 3, op := Op.load 44 (Operand.tmp 1), type := 44, pos := "value.go:58", after := #[], guard := none }) (v := valV k n l) (by kernel_rfl) (by kernel_rfl) (by kernel_rfl) (by kernel_rfl) (fun _ _ _ h => h) (by kernel_rfl) (fun _ h => exec_ldV rfl (by kernel_rfl) h.1) hH0 ?_
    refine held_callX (i := 1) (o := { dst := some 4, op := Op.call { callee := Callee.value (Operand.func 99), args := #[Operand.tmp 3], argTypes := #[44] }, type := 4, pos := "value.go:58", after := #[{ on := 0, ground := Ground.data }], guard := none }) (F := 99) (vs := #[valV k n l]) (by kernel_rfl) (by kernel_rfl) (by kernel_rfl) (fun _ => by kernel_rfl) (C23 _) ?_
    rintro e w1 ⟨rfl, hb1⟩
    have hH1 := And.intro (hH0.1.on hb1) (bchain hH0.2 hb1)
    refine ⟨.bool true, rfl, hH1, ?_⟩
    refine held_take (i := 2) (o := { dst := some 5, op := Op.move (Operand.tmp 4), type := 4, pos := "value.go:58", after := #[{ on := 1, ground := Ground.data }, { on := 1, ground := Ground.chain }], guard := none }) (v := .bool true) (by kernel_rfl) (by kernel_rfl) (by kernel_rfl) (by kernel_rfl) (fun _ _ _ h => h) (by kernel_rfl) (fun _ _ => by kernel_rfl) hH1 ?_
    refine held_take (i := 3) (o := { dst := some 6, op := Op.load 44 (Operand.tmp 1), type := 44, pos := "value.go:58", after := #[{ on := 2, ground := Ground.guard }], guard := some (2, true) }) (v := valV k n l) (by kernel_rfl) (by kernel_rfl) (by kernel_rfl) (by kernel_rfl) (fun _ _ _ h => h) (by kernel_rfl) (fun _ h => exec_ldV rfl (by kernel_rfl) h.1) hH1 ?_
    refine held_take (i := 6) (o := { dst := some 9, op := Op.load 44 (Operand.tmp 1), type := 44, pos := "value.go:58", after := #[{ on := 2, ground := Ground.guard }], guard := some (2, true) }) (v := valV k n l) (by kernel_rfl) (by kernel_rfl) (by kernel_rfl) (by kernel_rfl) (fun _ _ _ h => h) (by kernel_rfl) (fun _ h => exec_ldV rfl (by kernel_rfl) h.1) hH1 ?_
    refine held_callX (i := 4) (o := { dst := some 7, op := Op.call { callee := Callee.value (Operand.func 87), args := #[Operand.tmp 6], argTypes := #[44] }, type := 20, pos := "value.go:58", after := #[{ on := 3, ground := Ground.data }, { on := 2, ground := Ground.chain }, { on := 2, ground := Ground.guard }], guard := some (2, true) }) (F := 87) (vs := #[valV k n l]) (by kernel_rfl) (by kernel_rfl) (by kernel_rfl) (fun _ => by kernel_rfl) (inside_any k n l _) ?_
    rintro e w2 ⟨rfl, hb2⟩
    have hH2 := And.intro (hH1.1.on hb2) (bchain hH1.2 hb2)
    refine ⟨inV (Vl.inside k n l), rfl, hH2, ?_⟩
    refine held_callX (i := 5) (o := { dst := some 8, op := Op.call { callee := Callee.value (Operand.func 100), args := #[Operand.tmp 7], argTypes := #[20] }, type := 44, pos := "value.go:58", after := #[{ on := 4, ground := Ground.data }, { on := 4, ground := Ground.chain }, { on := 2, ground := Ground.guard }], guard := some (2, true) }) (F := 100) (vs := #[inV (Vl.inside k n l)]) (by kernel_rfl) (by kernel_rfl) (by kernel_rfl) (fun _ => by kernel_rfl) (holding_any _ _) ?_
    rintro e w3 ⟨rfl, hb3⟩
    have hH3 := And.intro (hH2.1.on hb3) (bchain hH2.2 hb3)
    refine ⟨valV (Vl.inside k n l).k (Vl.inside k n l).n (Vl.inside k n l).s, rfl, hH3, ?_⟩
    refine held_take (i := 7) (o := { dst := some 10, op := Op.binOp BinOp.eql 44 (Operand.tmp 8) (Operand.tmp 9) 44, type := 4, pos := "value.go:58", after := #[{ on := 5, ground := Ground.data }, { on := 6, ground := Ground.data }, { on := 2, ground := Ground.guard }], guard := some (2, true) }) (v := .bool (decide ((Vl.inside k n l).k = k ∧ (Vl.inside k n l).n = n ∧ (Vl.inside k n l).s = l))) (by kernel_rfl) (by kernel_rfl) (by kernel_rfl) (by kernel_rfl) (fun _ _ _ h => h) (by kernel_rfl) (fun W _ => exec_bin rfl (by kernel_rfl) (by kernel_rfl) (fun _ => by kernel_rfl) (eql_val _ _ _ _ _ _) W) hH3 ?_
    refine held_take (i := 8) (o := { dst := some 11, op := Op.pick (Operand.tmp 5) (Operand.tmp 10) (Operand.const (Value.bool false)), type := 4, pos := "value.go:58", after := #[{ on := 2, ground := Ground.data }, { on := 7, ground := Ground.data }], guard := none }) (v := .bool (decide ((Vl.inside k n l).k = k ∧ (Vl.inside k n l).n = n ∧ (Vl.inside k n l).s = l))) (by kernel_rfl) (by kernel_rfl) (by kernel_rfl) (by kernel_rfl) (fun _ _ _ h => h) (by kernel_rfl) (fun _ _ => by kernel_rfl) hH3 ?_
    refine held_do (i := 9) (o := { dst := some 2, op := Op.assign (Operand.tmp 11), type := 4, pos := "value.go:58", after := #[{ on := 8, ground := Ground.data }, { on := 5, ground := Ground.chain }, { on := 0, ground := Ground.phase }, { on := 1, ground := Ground.phase }, { on := 2, ground := Ground.phase }, { on := 3, ground := Ground.phase }, { on := 4, ground := Ground.phase }, { on := 5, ground := Ground.phase }, { on := 6, ground := Ground.phase }, { on := 7, ground := Ground.phase }, { on := 8, ground := Ground.phase }], guard := none }) (v := .bool (decide ((Vl.inside k n l).k = k ∧ (Vl.inside k n l).n = n ∧ (Vl.inside k n l).s = l))) (by kernel_rfl) (by kernel_rfl) (by kernel_rfl) (by kernel_rfl) hH3 ?_
    refine wpAnyH_done (by kernel_rfl) ?_ _
    simp only [Act.put, List.setIfInBounds_toArray, List.set_cons_zero, List.set_cons_succ]
    go_wp2
    go_ret
    exact ⟨rfl, hH3.2⟩

set_option maxRecDepth 20000 in
set_option maxHeartbeats 2000000 in
theorem refRight_any (k n : Int) (l : List UInt8) (w : World) (hl : l.length ≤ 2000000) : Calls Try.prog 51 #[valV k n l] w fun e w' => e = .returned (.bool (Vl.right k n l)) ∧ Below w.heap.size w w' := by
  have C := fun w => refRunes_list l w hl
  by_cases h1 : k = 1
  · subst h1
    by_cases h2 : l = []
    · subst h2
      by_cases h3 : -2147483647 ≤ n
      · by_cases h4 : n ≤ 2147483647
        · rw [show Vl.right 1 n [] = true from Vl.right_yes (.inl ⟨rfl, rfl, h3, h4⟩)]
          go_enter Try.func51, Try.ntmps51
          go_wp2
          go_ret
          exact ⟨rfl, below_new _ _⟩
        · rw [show Vl.right 1 n [] = false from Vl.right_no (by unfold Vl.Right; simp; omega)]
          go_enter Try.func51, Try.ntmps51
          go_wp2
          go_ret
          exact ⟨rfl, below_new _ _⟩
      · rw [show Vl.right 1 n [] = false from Vl.right_no (by unfold Vl.Right; simp; omega)]
        go_enter Try.func51, Try.ntmps51
        go_wp2
        go_ret
        exact ⟨rfl, below_new _ _⟩
    · rw [show Vl.right 1 n l = false from Vl.right_no (by unfold Vl.Right; simp [h2])]
      have h2' : (l == []) = false := beq_eq_false_iff_ne.2 h2
      go_enter Try.func51, Try.ntmps51
      go_wp2
      go_ret
      exact ⟨rfl, below_new _ _⟩
  · have e1 : (k == 1) = false := beq_eq_false_iff_ne.2 h1
    by_cases h2 : k = 2
    · subst h2
      by_cases h3 : n = 0
      · subst h3
        cases hu : Vl.utf l with
        | true =>
          rw [hu] at C
          by_cases h4 : l.length ≤ 64
          · rw [show Vl.right 2 0 l = true from Vl.right_yes (.inr (.inl ⟨rfl, rfl, hu, h4⟩))]
            have h4' : (l.length : Int) ≤ 64 := by omega
            go_enter Try.func51, Try.ntmps51
            go_wp2_with (go_at_call 75; refine (C _).mono ?_; rintro e w1 ⟨v, rfl, hb⟩; have V1 := (VAt.new w 2 0 l).on hb; have c1 := V1.c1; have c2 := V1.c2)
            go_ret
            exact ⟨rfl, bchain (below_new _ _) hb⟩
          · rw [show Vl.right 2 0 l = false from Vl.right_no (by unfold Vl.Right; simp [h4])]
            have h4' : ¬ (l.length : Int) ≤ 64 := by omega
            go_enter Try.func51, Try.ntmps51
            go_wp2_with (go_at_call 75; refine (C _).mono ?_; rintro e w1 ⟨v, rfl, hb⟩; have V1 := (VAt.new w 2 0 l).on hb; have c1 := V1.c1; have c2 := V1.c2)
            go_ret
            exact ⟨by show Ending.returned (.bool (decide ((l.length : Int) ≤ 64))) = _; rw [decide_eq_false (by omega)], bchain (below_new _ _) hb⟩
        | false =>
          rw [hu] at C
          rw [show Vl.right 2 0 l = false from Vl.right_no (by unfold Vl.Right; simp [hu])]
          go_enter Try.func51, Try.ntmps51
          go_wp2_with (go_at_call 75; refine (C _).mono ?_; rintro e w1 ⟨v, rfl, hb⟩; have V1 := (VAt.new w 2 0 l).on hb; have c1 := V1.c1; have c2 := V1.c2)
          go_ret
          exact ⟨rfl, bchain (below_new _ _) hb⟩
      · rw [show Vl.right 2 n l = false from Vl.right_no (by unfold Vl.Right; simp [h3])]
        have h3' : (n == 0) = false := beq_eq_false_iff_ne.2 h3
        go_enter Try.func51, Try.ntmps51
        go_wp2_with (go_at_call 75; refine (C _).mono ?_; rintro e w1 ⟨v, rfl, hb⟩; have V1 := (VAt.new w 2 n l).on hb; have c1 := V1.c1; have c2 := V1.c2)
        go_ret
        exact ⟨rfl, bchain (below_new _ _) hb⟩
    · have e2 : (k == 2) = false := beq_eq_false_iff_ne.2 h2
      by_cases h3 : k = 3
      · subst h3
        by_cases h4 : l = []
        · subst h4
          by_cases h5 : 0 ≤ n
          · by_cases h6 : n ≤ 1
            · rw [show Vl.right 3 n [] = true from Vl.right_yes (.inr (.inr ⟨rfl, rfl, h5, h6⟩))]
              go_enter Try.func51, Try.ntmps51
              go_wp2
              go_ret
              exact ⟨rfl, below_new _ _⟩
            · rw [show Vl.right 3 n [] = false from Vl.right_no (by unfold Vl.Right; simp; omega)]
              go_enter Try.func51, Try.ntmps51
              go_wp2
              go_ret
              exact ⟨rfl, below_new _ _⟩
          · rw [show Vl.right 3 n [] = false from Vl.right_no (by unfold Vl.Right; simp; omega)]
            go_enter Try.func51, Try.ntmps51
            go_wp2
            go_ret
            exact ⟨rfl, below_new _ _⟩
        · rw [show Vl.right 3 n l = false from Vl.right_no (by unfold Vl.Right; simp [h4])]
          have h4' : (l == []) = false := beq_eq_false_iff_ne.2 h4
          go_enter Try.func51, Try.ntmps51
          go_wp2
          go_ret
          exact ⟨rfl, below_new _ _⟩
      · rw [show Vl.right k n l = false from Vl.right_no (by unfold Vl.Right; omega)]
        have e3 : (k == 3) = false := beq_eq_false_iff_ne.2 h3
        go_enter Try.func51, Try.ntmps51
        go_wp2
        go_ret
        exact ⟨rfl, below_new _ _⟩
end Go.Proofs.Ytghkjbekjkejpaa.V
