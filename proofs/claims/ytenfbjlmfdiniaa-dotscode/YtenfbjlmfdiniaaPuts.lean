/- The walks of Of, Put and Same. -/
import Derived.Test.YtenfbjlmfdiniaaSettles
namespace Go.Proofs.Ytenfbjlmfdiniaa
open Go.RowKit Go.Shelf

/-- The vector of noughts is built. -/
theorem build_none (w : World) : (Instr.build 23 #[]).run Try.prog w = .ok (vecV noughts) w := by kernel_rfl
theorem take_none {ops : Array Oper} {rest : List Oper} {o : Oper} {a : Act} {w : World} {Q : Exit → Act → World → Prop} (hgd : o.guard = none) (ho : o.op = .build 23 #[])
    (hk : wpList Try.prog ops Q rest (a.put o.dst (vecV noughts)) w) : wpList Try.prog ops Q (o :: rest) a w :=
  wpList_plain hgd fun _ hK => by
    unfold Oper.wp execOp
    simp only [ho, List.map_toArray, List.map_nil, Sem.run_bind, build_none, Result.andThen_ok, Sem.run_pure]
    exact hK _ _ hk
theorem noughts_right : Vc.right noughts = true := by decide
theorem lists_one (w : World) (v : Value) : listsIn (w.alloc (.cells #[v] 24)) (.slice (some ⟨w.heap.size, 0, none⟩) 1 1) [v] := by
  refine ⟨w.heap.size, 1, rfl, fun k hk => ?_⟩
  obtain rfl : k = 0 := by simp at hk; omega
  simp
theorem lists_two (w : World) (v v' : Value) : listsIn (w.alloc (.cells #[v, v'] 24)) (.slice (some ⟨w.heap.size, 0, none⟩) 2 2) [v, v'] := by
  refine ⟨w.heap.size, 2, rfl, fun k hk => ?_⟩
  have : k = 0 ∨ k = 1 := by simp at hk; omega
  rcases this with rfl | rfl <;> simp
theorem dots_one {w : World} {v : Value} {ds : List D} (h : dotsIn w v ds) : dotsAll w [v] [ds] := ⟨rfl, fun k h1 h2 => by
  obtain rfl : k = 0 := by simp at h1; omega
  exact h⟩
theorem dots_two {w : World} {v v' : Value} {ds ds' : List D} (h : dotsIn w v ds) (h' : dotsIn w v' ds') : dotsAll w [v, v'] [ds, ds'] := ⟨rfl, fun k h1 h2 => by
  have : k = 0 ∨ k = 1 := by simp at h1; omega
  rcases this with rfl | rfl
  · exact h
  · exact h'⟩

set_option maxRecDepth 20000 in
set_option maxHeartbeats 400000 in
theorem of_any (v : Value) (ds : List D) (w : World) (hv : dotsIn w v ds) (hn : ds.length ≤ 1000) :
    Calls Try.prog 28 #[v] w fun e w' => ∃ sl, e = .returned (setV (settled noughts ds).1 sl) ∧ dotsIn w' sl (settled noughts ds).2 ∧ Below w.heap.size w w' := by
  obtain ⟨W0, hW0⟩ : ∃ W0, W0 = w.alloc (.cells (setC noughts (.slice none 0 0)).toArray 26) := ⟨_, rfl⟩
  have hB0 : Below w.heap.size w W0 := by rw [hW0]; exact below_new _ _
  have hR0 : SetAt W0 w.heap.size noughts (.slice none 0 0) := by rw [hW0]; exact SetAt.zero w
  have hsz : W0.heap.size = w.heap.size + 1 := by rw [hW0]; simp
  obtain ⟨W1, hW1⟩ : ∃ W1, W1 = W0.alloc (.cells #[v] 24) := ⟨_, rfl⟩
  have hB1 : Below W0.heap.size W0 W1 := by rw [hW1]; exact below_new _ _
  have HC := settle_any noughts noughts_length noughts_right (.slice (some ⟨W0.heap.size, 0, none⟩) 1 1) [v] [ds] W1 (by rw [hW1]; exact lists_one W0 v) (dots_one ((hv.on hB0).on hB1)) (by simp) (by simp; omega)
  rw [show [ds].flatten = ds by simp] at HC
  have hlen := (settled_is ds noughts_length noughts_right).1.1.len
  have hsl := hv.sl
  clear hv
  generalize settled noughts ds = S at *
  obtain ⟨ls, ms⟩ := S
  simp only at hlen HC ⊢
  obtain ⟨ao, n, c, rfl⟩ := hsl
  go_enter Try.func28, Try.ntmps28
  go_wp2_with (first | (refine take_none rfl rfl ?_) | fail)
  rw [hsz] at HC
  rw [hW1, hW0] at HC
  refine (show Calls Try.prog 53 _ _ _ from HC).mono ?_
  rintro e w2 ⟨sl, rfl, hd, hb⟩
  rw [← hW0, ← hW1] at hb
  have hR2 := hR0.on (bchain hB1 hb)
  have hbb := bchain hB0 (bchain hB1 hb)
  have hs2 := own_sl hd
  have hsz1 : w.heap.size + 1 ≤ W1.heap.size := by rw [← hsz]; exact hB1.size
  rw [← hW0, ← hW1] at hd
  clear HC hW0 hW1
  go_wp2_with (refine store_set rfl _ _ rfl w.heap.size ls noughts sl (.slice none 0 0) hlen noughts_length hs2 rfl rfl hR2 ?_)
  refine bodyPost_ret (ret_set rfl _ hlen rfl (hR2.row ls sl)) rfl ⟨sl, rfl, ?_, below_setRow hbb (Nat.le_refl _) _⟩
  exact dotsIn_own (own_other hd fun q hq => setRow_other w2 _ q _ (by omega))

set_option maxRecDepth 20000 in
set_option maxHeartbeats 400000 in
theorem put_any (l : List Int) (hl : l.length = 16) (hv : Vc.right l = true) (v : Value) (ds : List D) (d : D) (w : World) (hd : dotsIn w v ds) (hn : ds.length ≤ 1000) :
    Calls Try.prog 15 #[setV l v, dV d] w fun e w' => ∃ sl, e = .returned (setV (settled l (ds ++ [d])).1 sl) ∧ dotsIn w' sl (settled l (ds ++ [d])).2 ∧ Below w.heap.size w w' := by
  obtain ⟨W0, hW0⟩ : ∃ W0, W0 = ((w.alloc (.cells (setC l v).toArray 26)).alloc (.cells #[.int .i64 d.1, .int .i64 d.2] 28)).alloc (.cells (setC noughts (.slice none 0 0)).toArray 26) := ⟨_, rfl⟩
  have hB0 : Below w.heap.size w W0 := by rw [hW0]; exact bchain (below_new2 _ _ _) (below_new _ _)
  have hA0 : SetAt W0 w.heap.size l v := by rw [hW0]; exact ((SetAt.new w l v).alloc _).alloc _
  have hR0 : SetAt W0 (w.heap.size + 2) noughts (.slice none 0 0) := by
    rw [hW0]
    have := SetAt.zero ((w.alloc (.cells (setC l v).toArray 26)).alloc (.cells #[.int .i64 d.1, .int .i64 d.2] 28))
    simpa using this
  have hD0 : DotAt W0 (w.heap.size + 1) d := by
    rw [hW0]
    have := (DotAt.new (w.alloc (.cells (setC l v).toArray 26)) d).on (below_new _ (.cells (setC noughts (.slice none 0 0)).toArray 26))
    simpa using this
  have hsz : W0.heap.size = w.heap.size + 3 := by rw [hW0]; simp
  obtain ⟨W1, hW1⟩ : ∃ W1, W1 = W0.alloc (.cells #[.int .i64 d.1, .int .i64 d.2] 28) := ⟨_, rfl⟩
  have hB1 : Below W0.heap.size W0 W1 := by rw [hW1]; exact below_new _ _
  have hsz1 : W1.heap.size = w.heap.size + 4 := by rw [hW1]; simp [hsz]
  obtain ⟨W2, hW2⟩ : ∃ W2, W2 = W1.alloc (.cells #[v, .slice (some ⟨w.heap.size + 3, 0, none⟩) 1 1] 24) := ⟨_, rfl⟩
  have hB2 : Below W1.heap.size W1 W2 := by rw [hW2]; exact below_new _ _
  have hd1 : dotsIn W1 (.slice (some ⟨w.heap.size + 3, 0, none⟩) 1 1) [d] := by
    rw [hW1, ← hsz]
    exact dotsIn_of (new_row W0 d)
  have HC := settle_any l hl hv (.slice (some ⟨W1.heap.size, 0, none⟩) 2 2) [v, .slice (some ⟨w.heap.size + 3, 0, none⟩) 1 1] [ds, [d]] W2 (by rw [hW2]; exact lists_two W1 _ _) (dots_two (((hd.on hB0).on hB1).on hB2) (hd1.on hB2)) (by simp) (by simp; omega)
  rw [show [ds, [d]].flatten = ds ++ [d] by simp] at HC
  have hlen := (settled_is (ds ++ [d]) hl hv).1.1.len
  have hsl := hd.sl
  clear hd hd1
  generalize settled l (ds ++ [d]) = S at *
  obtain ⟨ls, ms⟩ := S
  simp only at hlen HC ⊢
  rw [hsz1] at HC
  have hsz2 : w.heap.size + 4 ≤ W2.heap.size := by rw [← hsz1]; exact hB2.size
  have HW : Hid (W2 = ((((w.alloc (.cells (setC l v).toArray 26)).alloc (.cells #[.int .i64 d.1, .int .i64 d.2] 28)).alloc (.cells (setC noughts (.slice none 0 0)).toArray 26)).alloc (.cells #[.int .i64 d.1, .int .i64 d.2] 28)).alloc (.cells #[v, .slice (some ⟨w.heap.size + 3, 0, none⟩) 1 1] 24)) := by
    have h : W2 = ((((w.alloc (.cells (setC l v).toArray 26)).alloc (.cells #[.int .i64 d.1, .int .i64 d.2] 28)).alloc (.cells (setC noughts (.slice none 0 0)).toArray 26)).alloc (.cells #[.int .i64 d.1, .int .i64 d.2] 28)).alloc (.cells #[v, .slice (some ⟨w.heap.size + 3, 0, none⟩) 1 1] 24) := by rw [hW2, hW1, hW0]
    exact h
  clear hW1 hW2
  rw [hW0] at hA0 hD0
  obtain ⟨ao, n, c, rfl⟩ := hsl
  clear hW0
  go_enter Try.func15, Try.ntmps15
  go_wp2_with (first | (refine load_setVec rfl _ rfl w.heap.size l _ hl rfl hA0 ?_) | (refine load_more rfl _ rfl w.heap.size l _ hl rfl hA0 ?_) | (refine load_dot rfl _ rfl (w.heap.size + 1) d rfl hD0 ?_))
  rw [HW.out] at HC
  refine (show Calls Try.prog 53 _ _ _ from HC).mono ?_
  rintro e w3 ⟨sl, rfl, hd3, hb3⟩
  rw [← HW.out] at hb3 hd3
  have hR3 := hR0.on (bchain hB1 (bchain hB2 hb3))
  have hbb := bchain hB0 (bchain hB1 (bchain hB2 hb3))
  have hs3 := own_sl hd3
  clear HC hA0 hD0 HW
  go_wp2_with (refine store_set rfl _ _ rfl (w.heap.size + 2) ls noughts sl (.slice none 0 0) hlen noughts_length hs3 rfl rfl hR3 ?_)
  refine bodyPost_ret (ret_set rfl _ hlen rfl (hR3.row ls sl)) rfl ⟨sl, rfl, ?_, below_setRow hbb (by omega) _⟩
  exact dotsIn_own (own_other hd3 fun q hq => setRow_other w3 _ q _ (by omega))

theorem setC_16 {l : List Int} (v : Value) (hl : l.length = 16) : (setC l v)[16]? = some v := by
  unfold setC
  rw [List.getElem?_append_right (by rw [ints_length]; omega), ints_length, hl]
  rfl

set_option maxRecDepth 20000 in
set_option maxHeartbeats 400000 in
/-- The program's Same. -/
theorem sameSet_any (l m : List Int) (hl : l.length = 16) (hm : m.length = 16) (v u : Value) (ds es : List D) (w : World) (hd : dotsIn w v ds) (he : dotsIn w u es) (hn : ds.length ≤ 1000000) :
    Calls Try.prog 26 #[setV l v, setV m u] w fun e w' => e = .returned (.bool (decide (l = m) && decide (ds = es))) ∧ Below w.heap.size w w' := by
  obtain ⟨W0, hW0⟩ : ∃ W0, W0 = (w.alloc (.cells (setC l v).toArray 26)).alloc (.cells (setC m u).toArray 26) := ⟨_, rfl⟩
  have hB0 : Below w.heap.size w W0 := by rw [hW0]; exact below_new2 _ _ _
  have hA0 : SetAt W0 w.heap.size l v := by rw [hW0]; exact (SetAt.new w l v).alloc _
  have hA1 : SetAt W0 (w.heap.size + 1) m u := by
    rw [hW0]
    have := SetAt.new (w.alloc (.cells (setC l v).toArray 26)) m u
    simpa using this
  have HC := equal_any v u ds es W0 hn (hd.on hB0) (he.on hB0)
  have hE := eql_vec l m hl hm
  have h16 := setC_16 v hl
  have k16 := setC_16 u hm
  obtain ⟨ao, na, ca, rfl⟩ := hd.sl
  obtain ⟨bo, nb, cb, rfl⟩ := he.sl
  rw [hW0] at hA0 hA1 HC hB0
  clear hW0 hd he
  generalize decide (ds = es) = q at *
  by_cases h : l = m
  · rw [decide_eq_true h] at hE ⊢
    clear h
    rw [Bool.true_and]
    go_enter Try.func26, Try.ntmps26
    go_wp2_with (first | (refine load_setVec rfl _ rfl w.heap.size l _ hl rfl hA0 ?_) | (refine load_setVec rfl _ rfl (w.heap.size + 1) m _ hm rfl hA1 ?_) | (go_at_call 61; refine HC.mono ?_; rintro e w1 ⟨rfl, hb1⟩))
    go_ret
    exact ⟨rfl, bchain hB0 hb1⟩
  · rw [decide_eq_false h] at hE ⊢
    clear h
    rw [Bool.false_and]
    go_enter Try.func26, Try.ntmps26
    go_wp2_with (first | (refine load_setVec rfl _ rfl w.heap.size l _ hl rfl hA0 ?_) | (refine load_setVec rfl _ rfl (w.heap.size + 1) m _ hm rfl hA1 ?_))
    go_ret
    exact ⟨rfl, hB0⟩

set_option maxRecDepth 20000 in
set_option maxHeartbeats 400000 in
/-- The document's Same. -/
theorem refSameSet_any (l m : List Int) (hl : l.length = 16) (hm : m.length = 16) (v u : Value) (ds es : List D) (w : World) (hd : dotsIn w v ds) (he : dotsIn w u es) (hn : ds.length ≤ 1000000) :
    Calls Try.prog 14 #[setV l v, setV m u] w fun e w' => e = .returned (.bool (decide (l = m) && decide (ds = es))) ∧ Below w.heap.size w w' := by
  obtain ⟨W0, hW0⟩ : ∃ W0, W0 = (w.alloc (.cells (setC l v).toArray 26)).alloc (.cells (setC m u).toArray 26) := ⟨_, rfl⟩
  have hB0 : Below w.heap.size w W0 := by rw [hW0]; exact below_new2 _ _ _
  have hA0 : SetAt W0 w.heap.size l v := by rw [hW0]; exact (SetAt.new w l v).alloc _
  have hA1 : SetAt W0 (w.heap.size + 1) m u := by
    rw [hW0]
    have := SetAt.new (w.alloc (.cells (setC l v).toArray 26)) m u
    simpa using this
  have HC := refSame_any v u ds es W0 hn (hd.on hB0) (he.on hB0)
  have hE := eql_vec l m hl hm
  have h16 := setC_16 v hl
  have k16 := setC_16 u hm
  obtain ⟨ao, na, ca, rfl⟩ := hd.sl
  obtain ⟨bo, nb, cb, rfl⟩ := he.sl
  rw [hW0] at hA0 hA1 HC hB0
  clear hW0 hd he
  generalize decide (ds = es) = q at *
  by_cases h : l = m
  · rw [decide_eq_true h] at hE ⊢
    clear h
    rw [Bool.true_and]
    go_enter Try.func14, Try.ntmps14
    go_wp2_with (first | (refine load_setVec rfl _ rfl w.heap.size l _ hl rfl hA0 ?_) | (refine load_setVec rfl _ rfl (w.heap.size + 1) m _ hm rfl hA1 ?_) | (go_at_call 41; refine HC.mono ?_; rintro e w1 ⟨rfl, hb1⟩))
    go_ret
    exact ⟨rfl, bchain hB0 hb1⟩
  · rw [decide_eq_false h] at hE ⊢
    clear h
    rw [Bool.false_and]
    go_enter Try.func14, Try.ntmps14
    go_wp2_with (first | (refine load_setVec rfl _ rfl w.heap.size l _ hl rfl hA0 ?_) | (refine load_setVec rfl _ rfl (w.heap.size + 1) m _ hm rfl hA1 ?_))
    go_ret
    exact ⟨rfl, hB0⟩
end Go.Proofs.Ytenfbjlmfdiniaa
