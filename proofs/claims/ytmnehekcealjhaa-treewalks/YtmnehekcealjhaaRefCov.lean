/- The walk of the document's Covered: does a transaction that counts cover it? -/
import Derived.Test.YtmnehekcealjhaaRCov
import Derived.Test.YtmnehekcealjhaaEx
import Derived.Test.YtmnehekcealjhaaTRaiseAll
namespace Go.Proofs.Ytmnehekcealjhaa.O
open Go.RowKit

/-- A transaction, one of its operations, and the reference that is looked for, while they are asked. -/
structure CvS (w : World) (p q : Addr) (t : Tx.Txn) (ov : Value) (o : Os.Op) (pv sv : Value) (bx : Nat) (x : U) (W : World) : Prop where
  tx : TcAt W p t ov
  op : OcAt W q o pv sv
  rf : CAt W ⟨bx, 0, none⟩ x
  below : Below w.heap.size w W
theorem CAt.on9 {w w' : World} {p : Addr} {x : U} (h : CAt w p x) (hb : Below w.heap.size w w') : CAt w' p x := ⟨keep_cell hb h.1, keep_cell hb h.2.1, keep_cell hb h.2.2⟩
theorem CvS.on {w : World} {p q : Addr} {t : Tx.Txn} {ov : Value} {o : Os.Op} {pv sv : Value} {bx : Nat} {x : U} {W W' : World} (h : CvS w p q t ov o pv sv bx x W) (hb : Below W.heap.size W W') : CvS w p q t ov o pv sv bx x W' :=
  ⟨h.tx.on hb, h.op.on hb, h.rf.on9 hb, bchain h.below hb⟩
/-- None of the first transactions covers it; of one none of the first operations. -/
def cvTo (ts : List Tx.Txn) (sn : D → Bool) (x : U) (k : Nat) : Prop := Lv.covered (ts.take k) sn x = false
def cvIn (t : Tx.Txn) (sn : D → Bool) (x : U) (j : Nat) : Prop := (sn t.d && Lv.names (t.ops.take j) x) = false
theorem cvTo_zero (ts : List Tx.Txn) (sn : D → Bool) (x : U) : cvTo ts sn x 0 := rfl
theorem cvIn_zero (t : Tx.Txn) (sn : D → Bool) (x : U) : cvIn t sn x 0 := by simp [cvIn, Lv.names]
theorem cvIn_step {t : Tx.Txn} {sn : D → Bool} {x : U} {j : Nat} (h : cvIn t sn x j) (hj : j < t.ops.length) (he : (hasR t.ops[j].l x && sn t.d) = false) : cvIn t sn x (j + 1) := by
  unfold cvIn Lv.names at *
  rw [List.take_succ_eq_append_getElem hj, List.any_append]
  have e : [t.ops[j]].any (fun o => decide (x ∈ o.l)) = hasR t.ops[j].l x := by simp [hasR]
  rw [e, Bool.and_or_distrib_left, h, Bool.false_or, Bool.and_comm]
  exact he
theorem cvTo_step {ts : List Tx.Txn} {sn : D → Bool} {x : U} {k : Nat} (h : cvTo ts sn x k) (hk : k < ts.length) (he : cvIn ts[k] sn x ts[k].ops.length) : cvTo ts sn x (k + 1) := by
  unfold cvTo cvIn Lv.covered at *
  rw [List.take_length] at he
  rw [List.take_succ_eq_append_getElem hk, List.any_append, h, Bool.false_or]
  simpa using he
theorem cvTo_end {ts : List Tx.Txn} {sn : D → Bool} {x : U} {k : Nat} (h : cvTo ts sn x k) (hk : ¬ k < ts.length) : Lv.covered ts sn x = false := by
  unfold cvTo at h
  rwa [List.take_of_length_le (by omega)] at h
theorem cv_hit {ts : List Tx.Txn} {sn : D → Bool} {x : U} {k : Nat} (hk : k < ts.length) {j : Nat} (hj : j < ts[k].ops.length) (h1 : hasR ts[k].ops[j].l x = true) (h2 : sn ts[k].d = true) : Lv.covered ts sn x = true := by
  unfold Lv.covered Lv.names
  rw [List.any_eq_true]
  refine ⟨_, List.getElem_mem hk, ?_⟩
  rw [h2, Bool.true_and, List.any_eq_true]
  exact ⟨_, List.getElem_mem hj, h1⟩

end Go.Proofs.Ytmnehekcealjhaa.O
