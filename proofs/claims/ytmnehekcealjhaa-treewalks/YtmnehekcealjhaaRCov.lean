/- The walk of the document's Covers. -/
import Derived.Test.YtmnehekcealjhaaSameRAll
import Derived.Test.YtmnehekcealjhaaCoversAll
namespace Go.Proofs.Ytmnehekcealjhaa.O
open Go.RowKit

abbrev uO (u : U) : Obj := .cells #[.int .i64 u.1.1, .int .i64 u.1.2, .int .i64 u.2] 54
theorem OAt.newU (w : World) (k : Int) (pv : Value) (vk vn : Int) (vs : List UInt8) (n : Int) (sv : Value) (x : U) :
    OAt ((w.alloc (opO k pv vk vn vs n sv)).alloc (uO x)) w.heap.size k pv vk vn vs n sv ∧ CAt ((w.alloc (opO k pv vk vn vs n sv)).alloc (uO x)) ⟨w.heap.size + 1, 0, none⟩ x := by
  refine ⟨(OAt.new w k pv vk vn vs n sv).on (below_new _ _), ?_⟩
  have h := CAt.new (w.alloc (opO k pv vk vn vs n sv)) x
  have e : (w.alloc (opO k pv vk vn vs n sv)).heap.size = w.heap.size + 1 := by simp
  rw [e] at h
  exact h

def hasR (l : List U) (x : U) : Bool := decide (x ∈ l)
/-- None of so many is it. -/
def notTo (l : List U) (x : U) (k : Nat) : Prop := ¬ x ∈ l.take k
theorem notTo_zero (l : List U) (x : U) : notTo l x 0 := by simp [notTo]
theorem notTo_step {l : List U} {x : U} {k : Nat} (h : notTo l x k) (hk : k < l.length) (he : ¬ l[k] = x) : notTo l x (k + 1) := by
  unfold notTo at *
  rw [List.take_succ_eq_append_getElem hk, List.mem_append, List.mem_singleton]
  rintro (q | q)
  · exact h q
  · exact he q.symm
theorem notTo_end {l : List U} {x : U} {k : Nat} (h : notTo l x k) (hk : ¬ k < l.length) : hasR l x = false := by
  unfold notTo at h
  rw [List.take_of_length_le (by omega)] at h
  exact decide_eq_false h

end Go.Proofs.Ytmnehekcealjhaa.O
