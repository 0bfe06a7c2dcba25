/- Matrices in memory: how one lies there, is read and stored whole, and a row of it, is held against another one. -/
import Derived.Test.YtmifkfeobdnocaaRef
import Derived.Test.YtmifkfeobdnocaaMx
import Derived.Deep.MidRow
namespace Go.Proofs.Ytmifkfeobdnocaa
open Go.RowKit

/-- The two types of matrices: the program's own, and the document's. -/
structure IsMat (T : TypeId) : Prop where
  size : (Try.prog.info? T).map (·.size) = some 256
  und : Try.prog.underlying T = some (.array 16 23)
theorem m24 : IsMat 24 := ⟨by kernel_rfl, by kernel_rfl⟩
theorem m27 : IsMat 27 := ⟨by kernel_rfl, by kernel_rfl⟩
theorem minfo {T : TypeId} (hT : IsMat T) {m : List Int} (hm : m.length = 256) : (Try.prog.info? T).map (·.size) = some (ints m).length := by rw [ints_length, hm]; exact hT.size
/-- A matrix new in memory. -/
def zeros : List Int := List.replicate 256 0
theorem zeros_length : zeros.length = 256 := List.length_replicate
theorem zero27 (w : World) : (zeroValue 27).run Try.prog w = .ok (vecV zeros) w :=
  (zero_of_info (v := vecV zeros) (n := 256) (show (Try.prog.info? 27).map (fun i => (i.zero, i.size)) = some (some (vecV zeros), 256) by kernel_rfl)).1 w
theorem zero24 (w : World) : (zeroValue 24).run Try.prog w = .ok (vecV zeros) w :=
  (zero_of_info (v := vecV zeros) (n := 256) (show (Try.prog.info? 24).map (fun i => (i.zero, i.size)) = some (some (vecV zeros), 256) by kernel_rfl)).1 w

/-- A block holds a matrix. -/
def MatAt (T : TypeId) (w : World) (b : Nat) (m : List Int) : Prop := w.heap[b]? = some (.cells (ints m).toArray T (0, 0))
section
variable {T : TypeId} {w w' : World} {b : Nat} {m : List Int}
theorem MatAt.new (T : TypeId) (w : World) (m : List Int) : MatAt T (w.alloc (.cells (ints m).toArray T)) w.heap.size m := heap_alloc_new w _
theorem MatAt.new' {V : World} {n : Nat} (h : V.heap.size = n) (T : TypeId) (m : List Int) : MatAt T (V.alloc (.cells (ints m).toArray T)) n m := by subst h; exact MatAt.new T V m
theorem MatAt.lt (h : MatAt T w b m) : b < w.heap.size := (Array.getElem?_eq_some_iff.1 h).1
theorem MatAt.alloc (h : MatAt T w b m) (o : Obj) : MatAt T (w.alloc o) b m := (Below.heap_alloc w o b h.lt).trans h
theorem MatAt.drew (h : MatAt T w b m) : MatAt T w.drew b m := h
theorem MatAt.on (h : MatAt T w b m) (hb : Below w.heap.size w w') : MatAt T w' b m := (hb.block b h.lt).trans h
theorem MatAt.range (h : MatAt T w b m) : w.rangeAt b 0 (ints m) := fun j v hv => by
  rw [Nat.zero_add, cell_of_row w b j _ T (0, 0) h]
  simpa using hv
theorem ints_get? (l : List Int) (k : Nat) : (ints l)[k]? = l[k]?.map (Value.int .i64) := by simp [ints]
theorem MatAt.rowRange (h : MatAt T w b m) (i : Nat) : w.rangeAt b (i * 16) (ints (Mx.row m i)) := fun j v hv => by
  rw [cell_of_row w b (i * 16 + j) _ T (0, 0) h]
  have hj : j < 16 := by
    have := (List.getElem?_eq_some_iff.1 hv).1
    rw [ints_length] at this
    simp only [Mx.row, List.length_take] at this
    omega
  rw [List.getElem?_toArray, ints_get?]
  rw [ints_get?, Mx.row, List.getElem?_take, if_pos hj, List.getElem?_drop] at hv
  exact hv
theorem MatAt.cell (h : MatAt T w b m) (hm : m.length = 256) {i k : Nat} (hi : i < 16) (hk : k < 16) : w.cell? ⟨b, i * 16 + k, none⟩ = some (.int .i64 ((Mx.row m i).getD k 0)) := by
  rw [cell_of_row w b (i * 16 + k) _ T (0, 0) h, Mx.row_at hk]
  simpa using ints_get m (i * 16 + k) (by omega)
theorem MatAt.there (h : MatAt T w b m) (hm : m.length = 256) {i : Nat} (hi : i < 16) : w.there b (i * 16) 16 := fun j hj => by
  rw [h.cell hm hi hj]
  exact ⟨rfl, frozen_of_row w b _ _ T h⟩
theorem MatAt.other (h : MatAt T w b m) (a : Addr) (v : Value) (hb : b ≠ a.block) : MatAt T (w.setCell a v) b m := (heap_setCell_other w a b v hb).trans h
theorem MatAt.other_row (h : MatAt T w b m) {c : Nat} (hb : b ≠ c) (cs : Array Value) : MatAt T (w.setRow c cs) b m := (setRow_other w c b cs hb).trans h
theorem MatAt.row (h : MatAt T w b m) (n : List Int) : MatAt T (w.setRow b (ints n).toArray) b n := setRow_heap w b _ _ T (0, 0) h

/-- Cells that are set one by one. -/
def setMany (C : Array Value) : Nat → List Value → Array Value
  | _, [] => C
  | o, v :: r => setMany (C.setIfInBounds o v) (o + 1) r
theorem heap_setCells_same (b : Nat) : ∀ (vs : List Value) (o : Nat) (w : World) (C : Array Value), w.heap[b]? = some (.cells C T (0, 0)) → (w.setCells b o vs).heap[b]? = some (.cells (setMany C o vs) T (0, 0))
  | [], _, _, _, h => h
  | v :: r, o, w, C, h => by
    rw [World.setCells, setMany]
    exact heap_setCells_same b r (o + 1) _ _ (heap_setCell_same w b o C T v h)
theorem heap_setCells_other (b c : Nat) (hc : c ≠ b) : ∀ (vs : List Value) (o : Nat) (w : World), (w.setCells b o vs).heap[c]? = w.heap[c]?
  | [], _, _ => rfl
  | v :: r, o, w => by
    rw [World.setCells, heap_setCells_other b c hc r (o + 1)]
    exact heap_setCell_other w ⟨b, o, none⟩ c v hc
theorem below_setCells {B : Nat} {a : World} {b : Nat} (hb : B ≤ b) : ∀ (vs : List Value) (o : Nat) (w : World), Below B a w → Below B a (w.setCells b o vs)
  | [], _, _, h => h
  | v :: r, o, w, h => by
    rw [World.setCells]
    exact below_setCells hb r (o + 1) _ (h.setCell (p := ⟨b, o, none⟩) hb v)
theorem size_setCells (b : Nat) : ∀ (vs : List Value) (o : Nat) (w : World), (w.setCells b o vs).heap.size = w.heap.size
  | [], _, _ => rfl
  | v :: r, o, w => by
    rw [World.setCells, size_setCells b r (o + 1)]
    simp [World.setCell]
theorem setMany_size : ∀ (vs : List Value) (o : Nat) (C : Array Value), (setMany C o vs).size = C.size
  | [], _, _ => rfl
  | v :: r, o, C => by rw [setMany, setMany_size r]; simp
theorem setMany_get : ∀ (vs : List Value) (o : Nat) (C : Array Value) (j : Nat), j < C.size → (setMany C o vs)[j]? = if j < o then C[j]? else if j < o + vs.length then vs[j - o]? else C[j]?
  | [], o, C, j, _ => by
    rw [setMany]
    by_cases a : j < o
    · rw [if_pos a]
    · rw [if_neg a, if_neg (by simp; omega)]
  | v :: r, o, C, j, hj => by
    rw [setMany, setMany_get r (o + 1) _ j (by simpa using hj)]
    by_cases a : j < o
    · rw [if_pos (by omega), if_pos a, Array.getElem?_setIfInBounds, if_neg (by omega)]
    · rw [if_neg a]
      by_cases e : j = o
      · subst e
        rw [if_pos (by omega), if_pos (by simp), Array.getElem?_setIfInBounds, if_pos rfl, if_pos hj]
        simp
      · rw [if_neg (by omega)]
        by_cases c : j < o + (v :: r).length
        · rw [if_pos (by simp at c; omega), if_pos c, show j - o = (j - (o + 1)) + 1 by omega, List.getElem?_cons_succ]
        · rw [if_neg (by simp at c; omega), if_neg c, Array.getElem?_setIfInBounds, if_neg (by omega)]
theorem setMany_row {m v : List Int} {i : Nat} (hm : m.length = 256) (hi : i < 16) (hv : v.length = 16) : setMany (ints m).toArray (i * 16) (ints v) = (ints (Mx.put m i v)).toArray := by
  apply Array.ext_getElem?
  intro j
  by_cases hj : j < 256
  · rw [setMany_get _ _ _ j (by simp [ints_length, hm, hj]), List.getElem?_toArray, List.getElem?_toArray, ints_get?, ints_get?, ints_get?, ints_length, hv, Mx.put_get hm hi hv j]
    by_cases a : j < i * 16
    · rw [if_pos a, if_pos a]
    · rw [if_neg a, if_neg a]
      by_cases c : j < i * 16 + 16
      · rw [if_pos c, if_pos c]
      · rw [if_neg c, if_neg c]
  · rw [Array.getElem?_eq_none (by rw [setMany_size]; simp [ints_length, hm]; omega), Array.getElem?_eq_none (by simp [ints_length, Mx.put_length hm hi hv]; omega)]
theorem MatAt.put (h : MatAt T w b m) {v : List Int} {i : Nat} (hm : m.length = 256) (hi : i < 16) (hv : v.length = 16) : MatAt T (w.setCells b (i * 16) (ints v)) b (Mx.put m i v) := by
  have := heap_setCells_same b (ints v) (i * 16) w _ h
  rwa [setMany_row hm hi hv] at this
theorem MatAt.other_put (h : MatAt T w b m) {c : Nat} (hb : b ≠ c) (o : Nat) (vs : List Value) : MatAt T (w.setCells c o vs) b m := (heap_setCells_other c b hb vs o w).trans h
theorem VecAt.other_put {l : List Int} (h : VecAt w b l) {c : Nat} (hb : b ≠ c) (o : Nat) (vs : List Value) : VecAt (w.setCells c o vs) b l := (heap_setCells_other c b hb vs o w).trans h
end

section
variable {ops : Array Oper} {rest : List Oper} {o : Oper} {a : Act} {w : World} {Q : Exit → Act → World → Prop} {T : TypeId} {b : Nat} {m : List Int}
/-- A matrix is read whole. -/
theorem load_mat (hT : IsMat T) (hgd : o.guard = none) (x : Operand) (ho : o.op = .load T x) (b : Nat) (m : List Int) (hm : m.length = 256) (hx : a.eval x = .pointer (some ⟨b, 0, none⟩)) {T' : TypeId} (h : MatAt T' w b m)
    (hk : wpList Try.prog ops Q rest (a.put o.dst (vecV m)) w) : wpList Try.prog ops Q (o :: rest) a w :=
  wpList_load_mid hgd T x ho b 0 hx (ints m) _ h.range hT.und rfl (minfo hT hm) hk
/-- A matrix is stored whole. -/
theorem store_mat (hT : IsMat T) (hgd : o.guard = none) (x y : Operand) (ho : o.op = .store T x y) (b : Nat) (m n : List Int) (hm : m.length = 256) (hn : n.length = 256) (hx : a.eval x = .pointer (some ⟨b, 0, none⟩)) (hy : a.eval y = vecV m) (h : MatAt T w b n)
    (hk : wpList Try.prog ops Q rest (a.put o.dst undef) (w.setRow b (ints m).toArray)) : wpList Try.prog ops Q (o :: rest) a w :=
  wpList_plain hgd fun _ hK => wp_store_row T x y ho b (ints m).toArray hx hy T _ h (by simpa using minfo hT hm) (by simp [ints_length, hm, hn]) (ints_one m) (hK _ _ hk)
/-- A row is read. -/
theorem load_row (hgd : o.guard = none) (x : Operand) (ho : o.op = .load 23 x) (b i : Nat) (m : List Int) (hm : m.length = 256) (hi : i < 16) (hx : a.eval x = .pointer (some ⟨b, i * 16, none⟩)) (h : MatAt T w b m)
    (hk : wpList Try.prog ops Q rest (a.put o.dst (vecV (Mx.row m i))) w) : wpList Try.prog ops Q (o :: rest) a w :=
  wpList_load_mid hgd 23 x ho b (i * 16) hx (ints (Mx.row m i)) _ (h.rowRange i) Try.underlying23 rfl (vinfo (Mx.row_length hm hi)) hk
/-- A matrix is told back. -/
theorem ret_mat {fn : Func} {p : Tmp} (hT : IsMat T) (h : fn.results = #[.cell p T]) (tmps : Array Value) (hm : m.length = 256) (hp : tmps.getD p undef = .pointer (some ⟨b, 0, none⟩)) (hv : MatAt T w b m) :
    (results fn tmps).run Try.prog w = .ok (vecV m) w :=
  results_cell_row h tmps w b T _ (0, 0) _ hp hv hT.und rfl (by simpa using minfo hT hm)
theorem exec_mat (hT : IsMat T) {x : Operand} (ho : o.op = .load T x) (hm : m.length = 256) (hx : a.eval x = .pointer (some ⟨b, 0, none⟩)) {T' : TypeId} (h : MatAt T' w b m) :
    (execOp a.eval o).run Try.prog w = .ok (.value (vecV m)) w := by
  unfold execOp
  simp only [ho, hx, Sem.run_bind, run_loadAt_mid w b 0 T (ints m) _ h.range hT.und rfl (minfo hT hm), Result.andThen_ok, Sem.run_pure]
theorem exec_row {x : Operand} {i : Nat} (ho : o.op = .load 23 x) (hm : m.length = 256) (hi : i < 16) (hx : a.eval x = .pointer (some ⟨b, i * 16, none⟩)) (h : MatAt T w b m) :
    (execOp a.eval o).run Try.prog w = .ok (.value (vecV (Mx.row m i))) w := by
  unfold execOp
  simp only [ho, hx, Sem.run_bind, run_loadAt_mid w b (i * 16) 23 (ints (Mx.row m i)) _ (h.rowRange i) Try.underlying23 rfl (vinfo (Mx.row_length hm hi)), Result.andThen_ok, Sem.run_pure]
/-- Where a row lies, and a number of it. -/
theorem indexAt_mat (hT : IsMat T) (b k : Nat) (hk : k < 16) (w : World) : (Instr.indexAt T (.pointer (some ⟨b, 0, none⟩)) (.int .i64 (k : Int))).run Try.prog w = .ok (.pointer (some ⟨b, k * 16, none⟩)) w := by
  have hn : (0 ≤ (k : Int) ∧ (k : Int) < 16) := by omega
  simp [Instr.indexAt, run_underlying hT.und, asIntOf, hn, go_sem, Instr.sureAddr, Try.sizeOf23, Addr.add, hk]
  omega
theorem indexAt_in (b o k : Nat) (hk : k < 16) (w : World) : (Instr.indexAt 23 (.pointer (some ⟨b, o, none⟩)) (.int .i64 (k : Int))).run Try.prog w = .ok (.pointer (some ⟨b, o + k, none⟩)) w := by
  have hn : (0 ≤ (k : Int) ∧ (k : Int) < 16) := by omega
  simp [Instr.indexAt, run_underlying Try.underlying23, asIntOf, hn, go_sem, Instr.sureAddr, Try.sizeOf3, Addr.add, hk]
theorem exec_rowAt (hT : IsMat T) {x y : Operand} {k : Nat} (ho : o.op = .indexAddr T x y) (hx : a.eval x = .pointer (some ⟨b, 0, none⟩)) (hy : a.eval y = .int .i64 (k : Int)) (hk : k < 16) (w : World) :
    (execOp a.eval o).run Try.prog w = .ok (.value (.pointer (some ⟨b, k * 16, none⟩))) w := by
  unfold execOp
  simp only [ho, hx, hy, Sem.run_bind, indexAt_mat hT b k hk, Result.andThen_ok, Sem.run_pure]
end

theorem ints_row (l : List Int) (i : Nat) : ((ints l).drop (i * 16)).take 16 = ints (Mx.row l i) := by simp [ints, Mx.row, List.map_take, List.map_drop]
theorem part_row (l : List Int) (i : Nat) (w : World) : (part 23 (ints l).toArray (i * 16)).run Try.prog w = .ok (vecV (Mx.row l i)) w := by
  simp [part, isAgg, run_underlying Try.underlying23, Try.sizeOf23, ints_row]
theorem all_range_rows (xs ys : List Int) (hx : xs.length = 256) (hy : ys.length = 256) : ((List.range 16).all fun i => decide (Mx.row xs i = Mx.row ys i)) = decide (xs = ys) := by
  rw [Bool.eq_iff_iff, List.all_eq_true, decide_eq_true_iff]
  constructor
  · intro h
    exact Mx.same_of hx hy fun i hi => of_decide_eq_true (h i (by simpa using hi))
  · rintro rfl i _
    simp
end Go.Proofs.Ytmifkfeobdnocaa
