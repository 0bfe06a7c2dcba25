/- Sets of dots in memory: how one lies there, is read, is stored, is told back. -/
import Derived.Test.YtenfbjlmfdiniaaSort
import Derived.Test.YtenfbjlmfdiniaaSets
namespace Go.Proofs.Ytenfbjlmfdiniaa
open Go.RowKit Go.Shelf

/-- A set's cells: sixteen numbers, and a slice. -/
def setC (l : List Int) (sl : Value) : List Value := ints l ++ [sl]
/-- A set as the program holds it. -/
abbrev setV (l : List Int) (sl : Value) : Value := .agg (setC l sl).toArray
theorem setC_length (l : List Int) (sl : Value) : (setC l sl).length = l.length + 1 := by simp [setC, ints]
theorem info26 : (Try.prog.info? 26).map (·.size) = some 17 := by kernel_rfl
theorem sinfo {l : List Int} {sl : Value} (hl : l.length = 16) : (Try.prog.info? 26).map (·.size) = some (setC l sl).length := by rw [setC_length, hl]; exact info26
/-- What can stand as a slice. -/
def isSl (v : Value) : Prop := ∃ ao n c, v = .slice ao n c
theorem dotsIn.sl {w : World} {v : Value} {ds : List D} (h : dotsIn w v ds) : isSl v := by
  obtain ⟨ao, c, e, _⟩ := h
  exact ⟨ao, _, c, e⟩
theorem setC_one {l : List Int} {sl : Value} (h : isSl sl) : (setC l sl).toArray.all (·.oneCell') = true := by
  obtain ⟨ao, n, c, rfl⟩ := h
  rw [Array.all_eq_true_iff_forall_mem]
  intro v hv
  simp only [setC, ints, List.mem_toArray, List.mem_append, List.mem_map, List.mem_cons, List.not_mem_nil, or_false] at hv
  rcases hv with ⟨x, _, rfl⟩ | rfl <;> rfl

/-- A block holds a set. -/
def SetAt (w : World) (b : Nat) (l : List Int) (sl : Value) : Prop := w.heap[b]? = some (.cells (setC l sl).toArray 26 (0, 0))
theorem SetAt.new (w : World) (l : List Int) (sl : Value) : SetAt (w.alloc (.cells (setC l sl).toArray 26)) w.heap.size l sl := heap_alloc_new w _
theorem SetAt.lt {w : World} {b : Nat} {l : List Int} {sl : Value} (h : SetAt w b l sl) : b < w.heap.size := (Array.getElem?_eq_some_iff.1 h).1
theorem SetAt.alloc {w : World} {b : Nat} {l : List Int} {sl : Value} (h : SetAt w b l sl) (o : Obj) : SetAt (w.alloc o) b l sl := (Below.heap_alloc w o b h.lt).trans h
theorem SetAt.drew {w : World} {b : Nat} {l : List Int} {sl : Value} (h : SetAt w b l sl) : SetAt w.drew b l sl := h
theorem SetAt.on {w w' : World} {b : Nat} {l : List Int} {sl : Value} (h : SetAt w b l sl) (hb : Below w.heap.size w w') : SetAt w' b l sl := (hb.block b h.lt).trans h
theorem SetAt.upto {B : Nat} {w w' : World} {b : Nat} {l : List Int} {sl : Value} (h : SetAt w b l sl) (hb : Below B w w') (hB : b < B) : SetAt w' b l sl := (hb.block b hB).trans h
theorem SetAt.but {g : Nat} {w w' : World} {b : Nat} {l : List Int} {sl : Value} (h : SetAt w b l sl) (hb : But g w w') (hg : b ≠ g) : SetAt w' b l sl := (hb.block b h.lt hg).trans h
theorem SetAt.cell {w : World} {b : Nat} {l : List Int} {sl : Value} (h : SetAt w b l sl) {k : Nat} (hk : k < l.length) : w.cell? ⟨b, k, none⟩ = some (.int .i64 (l.getD k 0)) := by
  rw [cell_of_row w b k _ 26 (0, 0) h]
  have := ints_get l k hk
  simp only [setC, List.getElem?_toArray]
  rw [List.getElem?_append_left (by rw [ints_length]; exact hk)]
  exact this
theorem SetAt.more {w : World} {b : Nat} {l : List Int} {sl : Value} (h : SetAt w b l sl) (hl : l.length = 16) : w.cell? ⟨b, 16, none⟩ = some sl := by
  rw [cell_of_row w b 16 _ 26 (0, 0) h]
  simp only [setC, List.getElem?_toArray]
  rw [List.getElem?_append_right (by rw [ints_length]; omega), ints_length, hl]
  rfl
theorem SetAt.frozen {w : World} {b : Nat} {l : List Int} {sl : Value} (h : SetAt w b l sl) (k : Nat) : w.frozen? ⟨b, k, none⟩ = false := frozen_of_row w b k _ 26 h
theorem SetAt.setNum {w : World} {b : Nat} {l : List Int} {sl : Value} (h : SetAt w b l sl) {k : Nat} (hk : k < l.length) (x : Int) : SetAt (w.setCell ⟨b, k, none⟩ (.int .i64 x)) b (l.set k x) sl := by
  have := heap_setCell_same w b k _ 26 (.int .i64 x) h
  have e : (setC l sl).toArray.setIfInBounds k (.int .i64 x) = (setC (l.set k x) sl).toArray := by
    have e1 : (ints l).set k (.int .i64 x) = ints (l.set k x) := by simp [ints, List.map_set]
    simp only [setC, List.setIfInBounds_toArray]
    rw [List.set_append_left _ _ (by rw [ints_length]; exact hk), e1]
  rw [e] at this
  exact this
theorem SetAt.setMore {w : World} {b : Nat} {l : List Int} {sl : Value} (h : SetAt w b l sl) (hl : l.length = 16) (v : Value) : SetAt (w.setCell ⟨b, 16, none⟩ v) b l v := by
  have := heap_setCell_same w b 16 _ 26 v h
  have e : (setC l sl).toArray.setIfInBounds 16 v = (setC l v).toArray := by
    simp only [setC, List.setIfInBounds_toArray]
    rw [List.set_append_right _ _ (by rw [ints_length]; omega), ints_length, hl]
    rfl
  rw [e] at this
  exact this
theorem SetAt.other {w : World} {b : Nat} {l : List Int} {sl : Value} (h : SetAt w b l sl) (a : Addr) (v : Value) (hb : b ≠ a.block) : SetAt (w.setCell a v) b l sl := (heap_setCell_other w a b v hb).trans h
theorem SetAt.range {w : World} {b : Nat} {l : List Int} {sl : Value} (h : SetAt w b l sl) : w.rangeAt b 0 (setC l sl) := fun j v hv => by
  rw [Nat.zero_add, cell_of_row w b j _ 26 (0, 0) h]
  simpa using hv
theorem SetAt.vrange {w : World} {b : Nat} {l : List Int} {sl : Value} (h : SetAt w b l sl) : w.rangeAt b 0 (ints l) := fun j v hv => by
  refine h.range j v ?_
  have : j < (ints l).length := (List.getElem?_eq_some_iff.1 hv).1
  unfold setC
  rw [List.getElem?_append_left this]
  exact hv
theorem SetAt.row {w : World} {b : Nat} {l : List Int} {sl : Value} (h : SetAt w b l sl) (m : List Int) (v : Value) : SetAt (w.setRow b (setC m v).toArray) b m v := setRow_heap w b _ _ 26 (0, 0) h

/-- Of a set the vector is read. -/
theorem load_setVec {ops : Array Oper} {rest : List Oper} {o : Oper} {a : Act} {w : World} {Q : Exit → Act → World → Prop} (hgd : o.guard = none) (x : Operand) (ho : o.op = .load 23 x)
    (b : Nat) (l : List Int) (sl : Value) (hl : l.length = 16) (hx : a.eval x = .pointer (some ⟨b, 0, none⟩)) (h : SetAt w b l sl) (hk : wpList Try.prog ops Q rest (a.put o.dst (vecV l)) w) : wpList Try.prog ops Q (o :: rest) a w :=
  wpList_load_mid hgd 23 x ho b 0 hx (ints l) _ h.vrange Try.underlying23 rfl (vinfo hl) hk
/-- A set is read whole. -/
theorem load_set {ops : Array Oper} {rest : List Oper} {o : Oper} {a : Act} {w : World} {Q : Exit → Act → World → Prop} (hgd : o.guard = none) (x : Operand) (ho : o.op = .load 26 x)
    (b : Nat) (l : List Int) (sl : Value) (hl : l.length = 16) (hx : a.eval x = .pointer (some ⟨b, 0, none⟩)) (h : SetAt w b l sl) (hk : wpList Try.prog ops Q rest (a.put o.dst (setV l sl)) w) : wpList Try.prog ops Q (o :: rest) a w :=
  wpList_load_mid hgd 26 x ho b 0 hx (setC l sl) _ h.range Try.underlying26 rfl (sinfo hl) hk
/-- A set is stored whole. -/
theorem store_set {ops : Array Oper} {rest : List Oper} {o : Oper} {a : Act} {w : World} {Q : Exit → Act → World → Prop} (hgd : o.guard = none) (x y : Operand) (ho : o.op = .store 26 x y)
    (b : Nat) (l m : List Int) (sl tl : Value) (hl : l.length = 16) (hm : m.length = 16) (hs : isSl sl) (hx : a.eval x = .pointer (some ⟨b, 0, none⟩)) (hy : a.eval y = setV l sl) (h : SetAt w b m tl)
    (hk : wpList Try.prog ops Q rest (a.put o.dst undef) (w.setRow b (setC l sl).toArray)) : wpList Try.prog ops Q (o :: rest) a w :=
  wpList_plain hgd fun _ hK => wp_store_row 26 x y ho b (setC l sl).toArray hx hy 26 _ h (by simpa using sinfo hl) (by simp [setC_length, hl, hm]) (setC_one hs) (hK _ _ hk)
/-- A set is told back. -/
theorem ret_set {fn : Func} {p : Tmp} (h : fn.results = #[.cell p 26]) (tmps : Array Value) {w : World} {b : Nat} {l : List Int} {sl : Value} (hl : l.length = 16) (hp : tmps.getD p undef = .pointer (some ⟨b, 0, none⟩)) (hv : SetAt w b l sl) :
    (results fn tmps).run Try.prog w = .ok (setV l sl) w :=
  results_cell_row h tmps w b 26 _ (0, 0) _ hp hv Try.underlying26 rfl (by simpa using sinfo hl)
theorem build16 (a0 a1 a2 a3 a4 a5 a6 a7 a8 a9 a10 a11 a12 a13 a14 a15 : Int) (w : World) : (Instr.build 26 #[(0, vecV [a0, a1, a2, a3, a4, a5, a6, a7, a8, a9, a10, a11, a12, a13, a14, a15])]).run Try.prog w = .ok (setV [a0, a1, a2, a3, a4, a5, a6, a7, a8, a9, a10, a11, a12, a13, a14, a15] (.slice none 0 0)) w := by kernel_rfl
/-- A set of a vector alone is built. -/
theorem build_set (l : List Int) (hl : l.length = 16) (w : World) : (Instr.build 26 #[(0, vecV l)]).run Try.prog w = .ok (setV l (.slice none 0 0)) w := by
  match l, hl with
  | [a0, a1, a2, a3, a4, a5, a6, a7, a8, a9, a10, a11, a12, a13, a14, a15], _ => exact build16 a0 a1 a2 a3 a4 a5 a6 a7 a8 a9 a10 a11 a12 a13 a14 a15 w
theorem take_build {ops : Array Oper} {rest : List Oper} {o : Oper} {a : Act} {w : World} {Q : Exit → Act → World → Prop} (hgd : o.guard = none) (x : Operand) (ho : o.op = .build 26 #[(0, x)])
    (l : List Int) (hl : l.length = 16) (hx : a.eval x = vecV l) (hk : wpList Try.prog ops Q rest (a.put o.dst (setV l (.slice none 0 0))) w) : wpList Try.prog ops Q (o :: rest) a w :=
  wpList_plain hgd fun _ hK => by
    unfold Oper.wp execOp
    simp only [ho, List.map_toArray, List.map_cons, List.map_nil, hx, Sem.run_bind, build_set l hl, Result.andThen_ok, Sem.run_pure]
    exact hK _ _ hk
theorem exec_more {o : Oper} {a : Act} {x : Operand} {b : Nat} {sl : Value} {w : World} (ho : o.op = .load 24 x) (hx : a.eval x = .pointer (some ⟨b, 16, none⟩)) (h : w.cell? ⟨b, 16, none⟩ = some sl) :
    (execOp a.eval o).run Try.prog w = .ok (.value sl) w := by
  unfold execOp
  simp only [ho, hx, Sem.run_bind]
  go_simp
/-- Of a set the slice is read. -/
theorem load_more {ops : Array Oper} {rest : List Oper} {o : Oper} {a : Act} {w : World} {Q : Exit → Act → World → Prop} (hgd : o.guard = none) (x : Operand) (ho : o.op = .load 24 x)
    (b : Nat) (l : List Int) (sl : Value) (hl : l.length = 16) (hx : a.eval x = .pointer (some ⟨b, 16, none⟩)) (h : SetAt w b l sl) (hk : wpList Try.prog ops Q rest (a.put o.dst sl) w) : wpList Try.prog ops Q (o :: rest) a w :=
  wpList_plain hgd fun _ hK => by
    rw [Oper.wp, exec_more ho hx (h.more hl)]
    exact hK _ _ hk
/-- A block holds a dot. -/
def DotAt (w : World) (b : Nat) (d : D) : Prop := w.cell? ⟨b, 0, none⟩ = some (.int .i64 d.1) ∧ w.cell? ⟨b, 1, none⟩ = some (.int .i64 d.2)
theorem DotAt.on {w w' : World} {b : Nat} {d : D} (h : DotAt w b d) (hb : Below w.heap.size w w') : DotAt w' b d := ⟨keep_cell hb h.1, keep_cell hb h.2⟩
theorem DotAt.new (w : World) (d : D) : DotAt (w.alloc (.cells #[.int .i64 d.1, .int .i64 d.2] 28)) w.heap.size d := ⟨by simp, by simp⟩
theorem load_dot {ops : Array Oper} {rest : List Oper} {o : Oper} {a : Act} {w : World} {Q : Exit → Act → World → Prop} (hgd : o.guard = none) (x : Operand) (ho : o.op = .load 28 x)
    (b : Nat) (d : D) (hx : a.eval x = .pointer (some ⟨b, 0, none⟩)) (h : DotAt w b d) (hk : wpList Try.prog ops Q rest (a.put o.dst (dV d)) w) : wpList Try.prog ops Q (o :: rest) a w :=
  wpList_plain hgd fun _ hK => by
    rw [Oper.wp, exec_dot ho hx h.1 h.2]
    exact hK _ _ hk
/-- What a set new in memory is. -/
theorem SetAt.zero (w : World) : SetAt (w.alloc (.cells (setC noughts (.slice none 0 0)).toArray 26)) w.heap.size noughts (.slice none 0 0) := SetAt.new w _ _
end Go.Proofs.Ytenfbjlmfdiniaa
