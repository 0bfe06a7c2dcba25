/- A value in memory; the walks of inside, holding, Fold, Unfold, and of the document's Fold. -/
import Derived.Test.YtbbehccagdibcaaVals
import Derived.Test.YtbbehccagdibcaaRunesP
import Derived.Test.YtbbehccagdibcaaCommon
namespace Go.Proofs.Ytbbehccagdibcaa
open Go.RowKit

/-- A value. -/
abbrev valV (k n : Int) (l : List UInt8) : Value := .agg #[.int .i64 k, .int .i64 n, .string ⟨l.toArray⟩]
abbrev valO (k n : Int) (l : List UInt8) : Obj := .cells #[.int .i64 k, .int .i64 n, .string ⟨l.toArray⟩] 24
/-- What is in a value. -/
def inV : Vl.In → Value
  | .int n => .iface 3 (.int .i64 n)
  | .str l => .iface 9 (.string ⟨l.toArray⟩)
  | .bool b => .iface 4 (.bool b)

theorem as3_3 (W : World) (v : Value) : (Instr.typeAssert (.iface 3 v) 20 3 true).run Try.prog W = .ok (.tuple #[v, .bool true]) W := by kernel_rfl
theorem as3_9 (W : World) (v : Value) : (Instr.typeAssert (.iface 3 v) 20 9 true).run Try.prog W = .ok (.tuple #[.string ⟨#[]⟩, .bool false]) W := by kernel_rfl
theorem as9_3 (W : World) (v : Value) : (Instr.typeAssert (.iface 9 v) 20 3 true).run Try.prog W = .ok (.tuple #[.int .i64 0, .bool false]) W := by kernel_rfl
theorem as9_9 (W : World) (v : Value) : (Instr.typeAssert (.iface 9 v) 20 9 true).run Try.prog W = .ok (.tuple #[v, .bool true]) W := by kernel_rfl
theorem as4_3 (W : World) (v : Value) : (Instr.typeAssert (.iface 4 v) 20 3 true).run Try.prog W = .ok (.tuple #[.int .i64 0, .bool false]) W := by kernel_rfl
theorem as4_9 (W : World) (v : Value) : (Instr.typeAssert (.iface 4 v) 20 9 true).run Try.prog W = .ok (.tuple #[.string ⟨#[]⟩, .bool false]) W := by kernel_rfl
theorem as4_4 (W : World) (v : Value) : (Instr.typeAssert (.iface 4 v) 20 4 false).run Try.prog W = .ok v W := by kernel_rfl

/-- A value in a variable. -/
structure VAt (w : World) (b : Nat) (k n : Int) (l : List UInt8) : Prop where
  c0 : w.cell? ⟨b, 0, none⟩ = some (.int .i64 k)
  c1 : w.cell? ⟨b, 1, none⟩ = some (.int .i64 n)
  c2 : w.cell? ⟨b, 2, none⟩ = some (.string ⟨l.toArray⟩)
  f0 : w.frozen? ⟨b, 0, none⟩ = false
  f1 : w.frozen? ⟨b, 1, none⟩ = false
  f2 : w.frozen? ⟨b, 2, none⟩ = false
theorem VAt.new (w : World) (k n : Int) (l : List UInt8) : VAt (w.alloc (valO k n l)) w.heap.size k n l := ⟨by simp, by simp, by simp, by simp, by simp, by simp⟩
theorem VAt.lt {w : World} {b : Nat} {k n : Int} {l : List UInt8} (h : VAt w b k n l) : b < w.heap.size := World.block_lt_of_cell? w ⟨b, 0, none⟩ h.c0
theorem VAt.blk {w w' : World} {b : Nat} {k n : Int} {l : List UInt8} (h : VAt w b k n l) (hb : w'.heap[b]? = w.heap[b]?) : VAt w' b k n l :=
  ⟨(World.cell?_of_block (w := w) hb).trans h.c0, (World.cell?_of_block (w := w) hb).trans h.c1, (World.cell?_of_block (w := w) hb).trans h.c2, (World.frozen?_of_block (w := w) hb).trans h.f0, (World.frozen?_of_block (w := w) hb).trans h.f1, (World.frozen?_of_block (w := w) hb).trans h.f2⟩
theorem VAt.on {w w' : World} {b : Nat} {k n : Int} {l : List UInt8} (h : VAt w b k n l) (hb : Below w.heap.size w w') : VAt w' b k n l := h.blk (hb.block b h.lt)
theorem VAt.but {w w' : World} {b g : Nat} {k n : Int} {l : List UInt8} (h : VAt w b k n l) (hb : But g w w') (hg : b ≠ g) : VAt w' b k n l := h.blk (hb.block b h.lt hg)
theorem VAt.drew {w : World} {b : Nat} {k n : Int} {l : List UInt8} (h : VAt w b k n l) : VAt w.drew b k n l := h.blk rfl
theorem VAt.setOther {w : World} {b : Nat} {k n : Int} {l : List UInt8} (h : VAt w b k n l) {p : Addr} (hp : p.block ≠ b) (v : Value) : VAt (w.setCell p v) b k n l := h.blk (Below.heap_setCell w p v b (Ne.symm hp))
theorem cell_frozen {w : World} {p q : Addr} {v : Value} : (w.setCell p v).frozen? q = w.frozen? q := by simp
theorem VAt.set {w : World} {b : Nat} {k n : Int} {l : List UInt8} (h : VAt w b k n l) (k' n' : Int) (l' : List UInt8) : VAt (((w.setCell ⟨b, 0, none⟩ (.int .i64 k')).setCell ⟨b, 1, none⟩ (.int .i64 n')).setCell ⟨b, 2, none⟩ (.string ⟨l'.toArray⟩)) b k' n' l' := by
  refine ⟨?_, ?_, ?_, by simp [h.f0], by simp [h.f1], by simp [h.f2]⟩
  · exact (World.cell?_setCell_other _ _ _ _ (by simp)).trans ((World.cell?_setCell_other _ _ _ _ (by simp)).trans (World.cell?_setCell_same _ _ _ h.c0))
  · exact (World.cell?_setCell_other _ _ _ _ (by simp)).trans (World.cell?_setCell_same _ _ _ ((World.cell?_setCell_other _ _ _ _ (by simp)).trans h.c1))
  · exact World.cell?_setCell_same _ _ _ ((World.cell?_setCell_other _ _ _ _ (by simp)).trans ((World.cell?_setCell_other _ _ _ _ (by simp)).trans h.c2))
theorem VAt.setN {w : World} {b : Nat} {k n : Int} {l : List UInt8} (h : VAt w b k n l) (n' : Int) : VAt (w.setCell ⟨b, 1, none⟩ (.int .i64 n')) b k n' l :=
  ⟨(World.cell?_setCell_other _ _ _ _ (by simp)).trans h.c0, World.cell?_setCell_same _ _ _ h.c1, (World.cell?_setCell_other _ _ _ _ (by simp)).trans h.c2, by simp [h.f0], by simp [h.f1], by simp [h.f2]⟩
theorem VAt.setS {w : World} {b : Nat} {k n : Int} {l : List UInt8} (h : VAt w b k n l) (l' : List UInt8) : VAt (w.setCell ⟨b, 2, none⟩ (.string ⟨l'.toArray⟩)) b k n l' :=
  ⟨(World.cell?_setCell_other _ _ _ _ (by simp)).trans h.c0, (World.cell?_setCell_other _ _ _ _ (by simp)).trans h.c1, World.cell?_setCell_same _ _ _ h.c2, by simp [h.f0], by simp [h.f1], by simp [h.f2]⟩
theorem below_set3 {A w : World} {b : Nat} (h : Below A.heap.size A w) (hb : A.heap.size ≤ b) (x y z : Value) : Below A.heap.size A (((w.setCell ⟨b, 0, none⟩ x).setCell ⟨b, 1, none⟩ y).setCell ⟨b, 2, none⟩ z) := ((h.setCell hb _).setCell hb _).setCell hb _

set_option maxRecDepth 20000 in
theorem inside_any (k n : Int) (l : List UInt8) (w : World) : Calls Try.prog 85 #[valV k n l] w fun e w' => e = .returned (inV (Vl.inside k n l)) ∧ Below w.heap.size w w' := by
  by_cases h1 : k = 1
  · subst h1
    go_enter Try.func85, Try.ntmps85
    go_wp2
    go_ret
    exact ⟨rfl, below_new _ _⟩
  · have e1 : (k == 1) = false := beq_eq_false_iff_ne.2 h1
    by_cases h2 : k = 2
    · subst h2
      go_enter Try.func85, Try.ntmps85
      go_wp2
      go_ret
      exact ⟨rfl, below_new _ _⟩
    · have e2 : (k == 2) = false := beq_eq_false_iff_ne.2 h2
      rw [show Vl.inside k n l = .bool (n == 1) by unfold Vl.inside; rw [if_neg h1, if_neg h2]]
      clear h1 h2
      go_enter Try.func85, Try.ntmps85
      go_wp2
      go_ret
      exact ⟨rfl, below_new _ _⟩

set_option maxRecDepth 20000 in
theorem holding_any (x : Vl.In) (w : World) : Calls Try.prog 102 #[inV x] w fun e w' => e = .returned (valV x.k x.n x.s) ∧ Below w.heap.size w w' := by
  cases x with
  | int n =>
    have A := as3_3
    show Calls Try.prog 102 #[.iface 3 (.int .i64 n)] w fun e w' => e = .returned (valV 1 n []) ∧ Below w.heap.size w w'
    go_enter Try.func102, Try.ntmps102
    go_wp2
    exact bodyPost_ret (v := valV 1 n []) (by simp [results, Try.results102, go_sem]) rfl ⟨rfl, below_new w _⟩
  | str l =>
    have A := as9_3
    have B := as9_9
    show Calls Try.prog 102 #[.iface 9 (.string ⟨l.toArray⟩)] w fun e w' => e = .returned (valV 2 0 l) ∧ Below w.heap.size w w'
    go_enter Try.func102, Try.ntmps102
    go_wp2
    exact bodyPost_ret (v := valV 2 0 l) (by simp [results, Try.results102, go_sem]) rfl ⟨rfl, below_new w _⟩
  | bool b =>
    have A := as4_3
    have B := as4_9
    have C := as4_4
    cases b with
    | true =>
      show Calls Try.prog 102 #[.iface 4 (.bool true)] w fun e w' => e = .returned (valV 3 1 []) ∧ Below w.heap.size w w'
      go_enter Try.func102, Try.ntmps102
      go_wp2
      exact bodyPost_ret (v := valV 3 1 []) (by simp [results, Try.results102, go_sem]) rfl ⟨rfl, below_new2 w _ _⟩
    | false =>
      show Calls Try.prog 102 #[.iface 4 (.bool false)] w fun e w' => e = .returned (valV 3 0 []) ∧ Below w.heap.size w w'
      go_enter Try.func102, Try.ntmps102
      go_wp2
      exact bodyPost_ret (v := valV 3 0 []) (by simp [results, Try.results102, go_sem]) rfl ⟨rfl, below_new2 w _ _⟩

set_option maxRecDepth 20000 in
theorem fold_any (n : Int) (w : World) (h1 : -2147483648 ≤ n) (h2 : n ≤ 2147483647) : Calls Try.prog 50 #[.int .i64 n] w fun e w' => e = .returned (.int .i64 (Vl.fold n)) ∧ w' = w := by
  by_cases h : n < 0
  · rw [show Vl.fold n = -2 * n - 1 by unfold Vl.fold; rw [if_pos h]]
    go_enter Try.func50, Try.ntmps50
    go_wp2
    go_ret
    exact ⟨by go_num, rfl⟩
  · rw [show Vl.fold n = 2 * n by unfold Vl.fold; rw [if_neg h]]
    go_enter Try.func50, Try.ntmps50
    go_wp2
    go_ret
    exact ⟨by go_num, rfl⟩
set_option maxRecDepth 20000 in
theorem refFold_any (n : Int) (w : World) (h1 : -2147483648 ≤ n) (h2 : n ≤ 2147483647) : Calls Try.prog 54 #[.int .i64 n] w fun e w' => e = .returned (.int .i64 (Vl.fold n)) ∧ w' = w := by
  by_cases h : n < 0
  · rw [show Vl.fold n = -2 * n - 1 by unfold Vl.fold; rw [if_pos h]]
    go_enter Try.func54, Try.ntmps54
    go_wp2
    go_ret
    exact ⟨by go_num, rfl⟩
  · rw [show Vl.fold n = 2 * n by unfold Vl.fold; rw [if_neg h]]
    go_enter Try.func54, Try.ntmps54
    go_wp2
    go_ret
    exact ⟨by go_num, rfl⟩
set_option maxRecDepth 20000 in
theorem unfold_any (n : Int) (w : World) (h1 : 0 ≤ n) (h2 : n ≤ 4294967296) : Calls Try.prog 60 #[.int .i64 n] w fun e w' => e = .returned (.int .i64 (Vl.unfold' n)) ∧ w' = w := by
  have e1 : n.tmod 2 = n % 2 := Int.tmod_eq_emod_of_nonneg h1
  have e2 : n.tdiv 2 = n / 2 := Int.tdiv_eq_ediv_of_nonneg h1
  by_cases h : n % 2 = 0
  · rw [show Vl.unfold' n = n / 2 by unfold Vl.unfold'; rw [if_pos h]]
    go_enter Try.func60, Try.ntmps60
    go_wp2
    go_ret
    exact ⟨by go_num, rfl⟩
  · rw [show Vl.unfold' n = -(n / 2) - 1 by unfold Vl.unfold'; rw [if_neg h]]
    have h' : (n % 2 == 0) = false := beq_eq_false_iff_ne.2 h
    go_enter Try.func60, Try.ntmps60
    go_wp2
    go_ret
    exact ⟨by go_num, rfl⟩
end Go.Proofs.Ytbbehccagdibcaa
