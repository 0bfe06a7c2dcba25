/- The walk of chapter 6's example. -/
import Derived.Test.YtenfbjlmfdiniaaRefPut
namespace Go.Proofs.Ytenfbjlmfdiniaa
open Go.RowKit Go.Shelf

theorem tidy_eq {ds xs : List D} (hp : xs.Pairwise St.lt) (hm : ∀ d, d ∈ xs ↔ (d ∈ ds ∧ rightD d = true)) : tidy ds = xs := by
  obtain ⟨a, b, _⟩ := tidy_row ds
  exact St.pair_eq a hp fun d => (b d).trans (hm d).symm
def one1 : List Int := [1, 0, 0, 0, 0, 0, 0, 0, 0, 0, 0, 0, 0, 0, 0, 0]
def one3 : List Int := [3, 0, 0, 0, 0, 0, 0, 0, 0, 0, 0, 0, 0, 0, 0, 0]
theorem ex1 : settled noughts [(0, 3), (0, 1)] = (one1, [(0, 3)]) := by
  unfold settled
  rw [tidy_eq (xs := [(0, 1), (0, 3)]) (by decide) (fun d => by
    constructor
    · intro h
      simp only [List.mem_cons, List.not_mem_nil, or_false] at h
      rcases h with rfl | rfl <;> decide
    · rintro ⟨h, _⟩
      simp only [List.mem_cons, List.not_mem_nil, or_false] at h ⊢
      exact h.symm)]
  decide
theorem ex2 : settled one1 ([(0, 3)] ++ [(0, 2)]) = (one3, []) := by
  unfold settled
  rw [tidy_eq (xs := [(0, 2), (0, 3)]) (by decide) (fun d => by
    constructor
    · intro h
      simp only [List.mem_cons, List.not_mem_nil, or_false] at h
      rcases h with rfl | rfl <;> decide
    · rintro ⟨h, _⟩
      simp only [List.cons_append, List.nil_append, List.mem_cons, List.not_mem_nil, or_false] at h ⊢
      exact h.symm)]
  decide
theorem build_one (x : Int) (w : World) : (Instr.build 23 #[(0, .int .i64 x)]).run Try.prog w = .ok (vecV [x, 0, 0, 0, 0, 0, 0, 0, 0, 0, 0, 0, 0, 0, 0, 0]) w := by kernel_rfl
theorem take_one {ops : Array Oper} {rest : List Oper} {o : Oper} {a : Act} {w : World} {Q : Exit → Act → World → Prop} (hw : Region.wanted o (yielded ops a.tmps) = true) (x : Operand) (ho : o.op = .build 23 #[(0, x)])
    (n : Int) (hx : a.eval x = .int .i64 n) (hk : wpList Try.prog ops Q rest (a.put o.dst (vecV [n, 0, 0, 0, 0, 0, 0, 0, 0, 0, 0, 0, 0, 0, 0, 0])) w) : wpList Try.prog ops Q (o :: rest) a w :=
  list_take hw (by unfold execOp; simp only [ho, List.map_toArray, List.map_cons, List.map_nil, hx, Sem.run_bind, build_one, Result.andThen_ok, Sem.run_pure]) hk
theorem take_buildG {ops : Array Oper} {rest : List Oper} {o : Oper} {a : Act} {w : World} {Q : Exit → Act → World → Prop} (hw : Region.wanted o (yielded ops a.tmps) = true) (x : Operand) (ho : o.op = .build 26 #[(0, x)])
    (l : List Int) (hl : l.length = 16) (hx : a.eval x = vecV l) (hk : wpList Try.prog ops Q rest (a.put o.dst (setV l (.slice none 0 0))) w) : wpList Try.prog ops Q (o :: rest) a w :=
  list_take hw (by unfold execOp; simp only [ho, List.map_toArray, List.map_cons, List.map_nil, hx, Sem.run_bind, build_set l hl, Result.andThen_ok, Sem.run_pure]) hk
theorem new_rows (w : World) (d d' : D) : ∀ j u, (dcells [d, d'])[j]? = some u → (w.alloc (.cells #[.int .i64 d.1, .int .i64 d.2, .int .i64 d'.1, .int .i64 d'.2] 28)).cell? ((⟨w.heap.size, 0, none⟩ : Addr).add j) = some u := by
  intro j u hu
  have e : (⟨w.heap.size, 0, none⟩ : Addr).add j = ⟨w.heap.size, j, none⟩ := by unfold Addr.add; split <;> simp_all
  rw [e, cell_of_row _ w.heap.size j _ 28 (0, 0) (heap_alloc_new w _)]
  simpa [dcells] using hu

/-- A set in a variable of its own. -/
def kept (w : World) (l : List Int) (sl : Value) : World := (w.alloc (.cells (setC noughts (.slice none 0 0)).toArray 26)).setRow w.heap.size (setC l sl).toArray
theorem kept_set (w : World) (l : List Int) (sl : Value) : SetAt (kept w l sl) w.heap.size l sl := (SetAt.zero w).row l sl
theorem kept_below (w : World) (l : List Int) (sl : Value) : Below w.heap.size w (kept w l sl) := below_setRow (below_new _ _) (Nat.le_refl _) _
theorem kept_size (w : World) (l : List Int) (sl : Value) : (kept w l sl).heap.size = w.heap.size + 1 := by unfold kept; rw [setRow_size]; simp
theorem has3 : St.has one1 [(0, 3)] (0, 3) = true := by decide
theorem has2 : St.has one1 [(0, 3)] (0, 2) = false := by decide

set_option maxRecDepth 20000 in
set_option maxHeartbeats 400000 in
theorem awake_any (w : World) : Calls Try.prog 9 #[] w fun e w' => e = .returned (.bool true) ∧ Below w.heap.size w w' := by
  have hd0 : dotsIn (w.alloc (.cells #[.int .i64 0, .int .i64 3, .int .i64 0, .int .i64 1] 28)) (.slice (some ⟨w.heap.size, 0, none⟩) 2 2) [(0, 3), (0, 1)] := dotsIn_of (new_rows w (0, 3) (0, 1))
  have HO := of_any _ _ _ hd0 (by simp)
  rw [ex1] at HO
  simp only at HO
  go_enter Try.func9, Try.ntmps9
  go_wp2_with fail
  refine HO.mono ?_
  rintro e w1 ⟨sl, rfl, hd1, hb1⟩
  have hb1 := bchain (below_new w _) hb1
  have hZ1 := SetAt.zero w1
  have hs1 := hd1.sl
  clear HO hd0
  go_wp2_with (first | (refine store_set rfl _ _ rfl w1.heap.size one1 noughts sl (.slice none 0 0) rfl noughts_length hs1 rfl rfl hZ1 ?_) | (refine load_set rfl _ rfl w1.heap.size one1 sl rfl rfl (hZ1.row one1 sl) ?_))
  change Calls Try.prog 15 #[setV one1 sl, dV (0, 2)] (kept w1 one1 sl) _
  have hK1 := kept_set w1 one1 sl
  have hB1 := kept_below w1 one1 sl
  have hsz1 := kept_size w1 one1 sl
  generalize kept w1 one1 sl = W1 at *
  have hD1 := hd1.on hB1
  have HP := put_any one1 rfl (by decide) sl [(0, 3)] (0, 2) W1 hD1 (by simp)
  rw [ex2] at HP
  simp only at HP
  refine HP.mono ?_
  rintro e w2 ⟨tl, rfl, hd2, hb2⟩
  have hZ2 := SetAt.zero w2
  have hs2 := hd2.sl
  have hK2 := kept_set w2 one3 tl
  have hB2 := kept_below w2 one3 tl
  have hA2 := (hK1.on hb2).on hB2
  have hE2 := (hD1.on hb2).on hB2
  have hF2 := hd2.on hB2
  have hb02 : Below w.heap.size w (kept w2 one3 tl) := bchain (bchain (bchain hb1 hB1) hb2) hB2
  have hsz2 := kept_size w2 one3 tl
  clear HP hD1 hd2 hd1 hZ1 hs1
  obtain ⟨a1, n1, c1, rfl⟩ := hE2.sl
  obtain ⟨W2, hW2⟩ : ∃ W2, W2 = kept w2 one3 tl := ⟨_, rfl⟩
  rw [← hW2] at hK2 hA2 hE2 hF2 hb02 hsz2
  have hA2' := hA2
  rw [hW2] at hA2'
  clear hB1 hB2 hb1 hb2 hK1
  obtain ⟨W3, hW3⟩ : ∃ W3, W3 = W2.alloc (.cells #[.int .i64 0, .int .i64 3] 28) := ⟨_, rfl⟩
  have hb3 : Below W2.heap.size W2 W3 := by rw [hW3]; exact below_new _ _
  have hN3 : dotsIn W3 (.slice (some ⟨W2.heap.size, 0, none⟩) 1 1) [(0, 3)] := by rw [hW3]; exact dotsIn_of (new_row W2 (0, 3))
  have HS1 := sameSet_any one1 one1 rfl rfl _ _ [(0, 3)] [(0, 3)] W3 (hE2.on hb3) hN3 (by simp)
  rw [show (decide (one1 = one1) && decide ([((0 : Int), (3 : Int))] = [(0, 3)])) = true by simp, hW3, hW2] at HS1
  rw [kept_size] at HS1
  have HB : Hid (Below w.heap.size w W3) := bchain hb02 hb3
  have HT : Hid (∀ W, Below W3.heap.size W3 W → SetAt W w1.heap.size one1 (.slice a1 n1 c1) ∧ SetAt W w2.heap.size one3 tl ∧ dotsIn W (.slice a1 n1 c1) [(0, 3)] ∧ dotsIn W tl []) := fun W hW => ⟨(hA2.on hb3).on hW, (hK2.on hb3).on hW, (hE2.on hb3).on hW, (hF2.on hb3).on hW⟩
  have HW3 : Hid (W3 = ((w2.alloc (.cells (setC noughts (.slice none 0 0)).toArray 26)).setRow w2.heap.size (setC one3 tl).toArray).alloc (.cells #[.int .i64 0, .int .i64 3] 28)) := by
    have h : W3 = ((w2.alloc (.cells (setC noughts (.slice none 0 0)).toArray 26)).setRow w2.heap.size (setC one3 tl).toArray).alloc (.cells #[.int .i64 0, .int .i64 3] 28) := by rw [hW3, hW2]; rfl
    exact h
  unfold kept at HS1 hA2'
  clear hW3 hW2 hb3 hN3 hE2 hF2 hA2 hK2 hb02
  go_wp2_with (first
    | (refine store_set rfl _ _ rfl w2.heap.size one3 noughts tl (.slice none 0 0) rfl noughts_length hs2 rfl rfl hZ2 ?_)
    | (refine load_set rfl _ rfl w1.heap.size one1 _ rfl rfl hA2' ?_)
    | (refine take_one (by kernel_rfl) _ rfl _ rfl ?_)
    | (refine take_build2 rfl _ _ rfl one1 rfl _ _ _ rfl rfl ?_))
  refine (show Calls Try.prog 26 _ _ _ from HS1).mono ?_
  rintro e w4 ⟨rfl, hb4⟩
  rw [← HW3.out] at hb4
  obtain ⟨p1, p2, p3, p4⟩ := HT.out w4 hb4
  have HS2 := sameSet_any one3 one3 rfl rfl _ _ [] [] w4 p4 (dotsIn_nil w4) (by simp)
  rw [show (decide (one3 = one3) && decide (([] : List D) = [])) = true by simp] at HS2
  clear HS1 hA2' hZ2
  go_wp2_with (first
    | (refine load_setG (by kernel_rfl) _ rfl w2.heap.size one3 _ rfl rfl p2 ?_)
    | (refine take_one (by kernel_rfl) _ rfl _ rfl ?_)
    | (refine take_buildG (by kernel_rfl) _ rfl one3 rfl rfl ?_))
  refine (show Calls Try.prog 26 _ _ _ from HS2).mono ?_
  rintro e w5 ⟨rfl, hb5⟩
  have p5 := p1.on hb5
  have HH3 := hasSet_any one1 rfl _ [(0, 3)] (0, 3) w5 (p3.on hb5) (by simp) (by simp)
  rw [has3] at HH3
  clear HS2
  go_wp2_with (first | (refine load_setG (by kernel_rfl) _ rfl w1.heap.size one1 _ rfl rfl p5 ?_))
  refine (show Calls Try.prog 12 _ _ _ from HH3).mono ?_
  rintro e w6 ⟨rfl, hb6⟩
  have p6 := p5.on hb6
  have HH2 := hasSet_any one1 rfl _ [(0, 3)] (0, 2) w6 ((p3.on hb5).on hb6) (by simp) (by simp)
  rw [has2] at HH2
  clear HH3
  go_wp2_with (first | (refine load_setG (by kernel_rfl) _ rfl w1.heap.size one1 _ rfl rfl p6 ?_))
  refine (show Calls Try.prog 12 _ _ _ from HH2).mono ?_
  rintro e w7 ⟨rfl, hb7⟩
  go_wp2
  go_ret
  exact ⟨rfl, bchain HB.out (bchain hb4 (bchain hb5 (bchain hb6 hb7)))⟩
end Go.Proofs.Ytenfbjlmfdiniaa
