/- Arrays of sixteen numbers: how one lies in memory, is read whole, is stored whole, is held against another one. -/
import Derived.Test.YtmifkfeobdnocaaDot
import Derived.Deep.RegionHeld3
import Derived.Deep.WholeRow
namespace Go.Proofs.Ytmifkfeobdnocaa
open Go.RowKit

/-- Numbers as cells. -/
def ints (l : List Int) : List Value := l.map (Value.int .i64)
/-- A vector as the program holds it. -/
abbrev vecV (l : List Int) : Value := .agg (ints l).toArray
theorem ints_length (l : List Int) : (ints l).length = l.length := by simp [ints]
theorem ints_get (l : List Int) (k : Nat) (h : k < l.length) : (ints l)[k]? = some (.int .i64 (l.getD k 0)) := by
  simp [ints, List.getD, h]
theorem ints_set (l : List Int) (k : Nat) (x : Int) : (ints l).toArray.setIfInBounds k (.int .i64 x) = (ints (l.set k x)).toArray := by
  simp [ints, List.map_set]
theorem ints_one (l : List Int) : (ints l).toArray.all (·.oneCell') = true := by
  rw [Array.all_eq_true_iff_forall_mem]
  intro v hv
  simp only [ints, List.mem_toArray, List.mem_map] at hv
  obtain ⟨x, _, rfl⟩ := hv
  rfl
theorem ints_inj {a b : List Int} (h : ints a = ints b) : a = b := by
  have : Function.Injective (Value.int .i64) := fun x y e => by cases e; rfl
  exact (List.map_inj_right (fun x y e => this e)).1 h
theorem info23 : (Try.prog.info? 23).map (·.size) = some 16 := by kernel_rfl
theorem vinfo {l : List Int} (hl : l.length = 16) : (Try.prog.info? 23).map (·.size) = some (ints l).length := by rw [ints_length, hl]; exact info23

/-- A block holds a vector. -/
def VecAt (w : World) (b : Nat) (l : List Int) : Prop := w.heap[b]? = some (.cells (ints l).toArray 23 (0, 0))
theorem VecAt.new (w : World) (l : List Int) : VecAt (w.alloc (.cells (ints l).toArray 23)) w.heap.size l := heap_alloc_new w _
theorem VecAt.lt {w : World} {b : Nat} {l : List Int} (h : VecAt w b l) : b < w.heap.size := (Array.getElem?_eq_some_iff.1 h).1
theorem VecAt.alloc {w : World} {b : Nat} {l : List Int} (h : VecAt w b l) (o : Obj) : VecAt (w.alloc o) b l := (Below.heap_alloc w o b h.lt).trans h
theorem VecAt.drew {w : World} {b : Nat} {l : List Int} (h : VecAt w b l) : VecAt w.drew b l := h
theorem VecAt.on {w w' : World} {b : Nat} {l : List Int} (h : VecAt w b l) (hb : Below w.heap.size w w') : VecAt w' b l := (hb.block b h.lt).trans h
theorem VecAt.upto {B : Nat} {w w' : World} {b : Nat} {l : List Int} (h : VecAt w b l) (hb : Below B w w') (hB : b < B) : VecAt w' b l := (hb.block b hB).trans h
theorem VecAt.cell {w : World} {b : Nat} {l : List Int} (h : VecAt w b l) {k : Nat} (hk : k < l.length) : w.cell? ⟨b, k, none⟩ = some (.int .i64 (l.getD k 0)) := by
  rw [cell_of_row w b k _ 23 (0, 0) h]
  simpa using ints_get l k hk
theorem VecAt.frozen {w : World} {b : Nat} {l : List Int} (h : VecAt w b l) (k : Nat) : w.frozen? ⟨b, k, none⟩ = false := frozen_of_row w b k _ 23 h
theorem VecAt.set {w : World} {b : Nat} {l : List Int} (h : VecAt w b l) (k : Nat) (x : Int) : VecAt (w.setCell ⟨b, k, none⟩ (.int .i64 x)) b (l.set k x) := by
  have := heap_setCell_same w b k _ 23 (.int .i64 x) h
  rwa [ints_set] at this
theorem VecAt.other {w : World} {b : Nat} {l : List Int} (h : VecAt w b l) (a : Addr) (v : Value) (hb : b ≠ a.block) : VecAt (w.setCell a v) b l := (heap_setCell_other w a b v hb).trans h
theorem VecAt.range {w : World} {b : Nat} {l : List Int} (h : VecAt w b l) : w.rangeAt b 0 (ints l) := fun j v hv => by
  rw [Nat.zero_add, cell_of_row w b j _ 23 (0, 0) h]
  simpa using hv
theorem VecAt.row {w : World} {b : Nat} {l : List Int} (h : VecAt w b l) (m : List Int) : VecAt (w.setRow b (ints m).toArray) b m := setRow_heap w b _ _ 23 (0, 0) h
theorem below_setRow {B : Nat} {a w : World} (h : Below B a w) {b : Nat} (hb : B ≤ b) (cs : Array Value) : Below B a (w.setRow b cs) :=
  ⟨h.os, h.tape, h.output, by rw [setRow_size]; exact h.size, fun k hk => (setRow_other w b k cs (by omega)).trans (h.block k hk)⟩

/-- A vector is read whole. -/
theorem load_vec {ops : Array Oper} {rest : List Oper} {o : Oper} {a : Act} {w : World} {Q : Exit → Act → World → Prop} (hgd : o.guard = none) (x : Operand) (ho : o.op = .load 23 x)
    (b : Nat) (l : List Int) (hl : l.length = 16) (hx : a.eval x = .pointer (some ⟨b, 0, none⟩)) (h : VecAt w b l) (hk : wpList Try.prog ops Q rest (a.put o.dst (vecV l)) w) : wpList Try.prog ops Q (o :: rest) a w :=
  wpList_load_mid hgd 23 x ho b 0 hx (ints l) _ h.range Try.underlying23 rfl (vinfo hl) hk
/-- A vector is stored whole. -/
theorem store_vec {ops : Array Oper} {rest : List Oper} {o : Oper} {a : Act} {w : World} {Q : Exit → Act → World → Prop} (hgd : o.guard = none) (x y : Operand) (ho : o.op = .store 23 x y)
    (b : Nat) (l m : List Int) (hl : l.length = 16) (hm : m.length = 16) (hx : a.eval x = .pointer (some ⟨b, 0, none⟩)) (hy : a.eval y = vecV l) (h : VecAt w b m)
    (hk : wpList Try.prog ops Q rest (a.put o.dst undef) (w.setRow b (ints l).toArray)) : wpList Try.prog ops Q (o :: rest) a w :=
  wpList_plain hgd fun _ hK => wp_store_row 23 x y ho b (ints l).toArray hx hy 23 _ h (by simpa using vinfo hl) (by simp [ints_length, hl, hm]) (ints_one l) (hK _ _ hk)
/-- A vector is told back. -/
theorem ret_vec {fn : Func} {p : Tmp} (h : fn.results = #[.cell p 23]) (tmps : Array Value) {w : World} {b : Nat} {l : List Int} (hl : l.length = 16) (hp : tmps.getD p undef = .pointer (some ⟨b, 0, none⟩)) (hv : VecAt w b l) :
    (results fn tmps).run Try.prog w = .ok (vecV l) w :=
  results_cell_row h tmps w b 23 _ (0, 0) _ hp hv Try.underlying23 rfl (by simpa using vinfo hl)
/-- A number of a vector. -/
theorem index_vec {l : List Int} {k : Nat} (hl : l.length = 16) (hk : k < 16) (w : World) : (Instr.index 23 (vecV l) (.int .i64 (k : Int))).run Try.prog w = .ok (.int .i64 (l.getD k 0)) w := by
  have hn : (0 ≤ (k : Int) ∧ (k : Int) < 16) := by omega
  have hg := ints_get l k (by omega)
  simp [Instr.index, run_underlying Try.underlying23, asIntOf, hn, part, isAgg, run_underlying Try.underlying3, go_sem, hg, hk]
theorem all_range_ints : ∀ (xs ys : List Int), xs.length = ys.length → ((List.range xs.length).all fun i => xs.getD i 0 == ys.getD i 0) = decide (xs = ys)
  | [], [], _ => rfl
  | x :: xs, y :: ys, h => by
    have ih := all_range_ints xs ys (by simpa using h)
    rw [List.length_cons, List.range_succ_eq_map, List.all_cons, List.all_map]
    simp only [List.getD_cons_zero, Function.comp_def, List.getD_cons_succ, ih]
    rw [Bool.eq_iff_iff]
    simp
  | [], _ :: _, h => by simp at h
  | _ :: _, [], h => by simp at h
/-- Two vectors, held against one another whole. -/
theorem equal_vec (w : World) (d : Nat) (xs ys : List Int) (hx : xs.length = 16) (hy : ys.length = 16) : (Op.equalIn (d + 2) 23 (vecV xs) (vecV ys)).run Try.prog w = .ok (decide (xs = ys)) w := by
  rw [← all_range_ints xs ys (hx.trans hy.symm), hx, List.range_eq_range', Op.equalIn]
  simp only [Sem.run_bind, run_underlying Try.underlying23, Result.andThen_ok, Try.sizeOf3, Std.Legacy.Range.forIn_eq_forIn_range', Std.Legacy.Range.size, Nat.sub_zero, Nat.add_sub_cancel, Nat.div_one]
  have hl : ∀ i ∈ List.range' 0 16 1, i < 16 := fun i hi => by simpa using (List.mem_range'_1.1 hi).2
  generalize List.range' 0 16 1 = l at hl ⊢
  induction l with
  | nil => simp
  | cons i l ih =>
    have hi : i < 16 := hl i (by simp)
    have px : (part 3 (ints xs).toArray (i * 1)).run Try.prog w = .ok (.int .i64 (xs.getD i 0)) w := by
      simp [part, isAgg, run_underlying Try.underlying3, ints_get xs i (by omega)]
    have py : (part 3 (ints ys).toArray (i * 1)).run Try.prog w = .ok (.int .i64 (ys.getD i 0)) w := by
      simp [part, isAgg, run_underlying Try.underlying3, ints_get ys i (by omega)]
    have pe : (Op.equalIn (d + 1) 3 (.int .i64 (xs.getD i 0)) (.int .i64 (ys.getD i 0))).run Try.prog w = .ok (xs.getD i 0 == ys.getD i 0) w := run_equalIn_int w d 3 .i64 .i64 _ _ Try.underlying3
    simp only [List.forIn_cons, Sem.run_bind, px, py, pe, Result.andThen_ok, List.all_cons]
    cases hb : (xs.getD i 0 == ys.getD i 0)
    · simp
    · simp only [Bool.not_true, Bool.false_eq_true, if_false, Sem.run_pure, Result.andThen_ok, Bool.true_and]
      exact ih fun j hj => hl j (by simp [hj])
theorem eql_vec (xs ys : List Int) (hx : xs.length = 16) (hy : ys.length = 16) (w : World) : (binOp .eql 23 (vecV xs) (vecV ys)).run Try.prog w = .ok (.bool (decide (xs = ys))) w := by
  rw [run_eql_struct, equal_vec w 9998 xs ys hx hy]
  rfl
end Go.Proofs.Ytmifkfeobdnocaa
