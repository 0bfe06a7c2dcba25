/- Two matrices, held against one another whole. -/
import Derived.Test.YtmifkfeobdnocaaMat
namespace Go.Proofs.Ytmifkfeobdnocaa
open Go.RowKit
theorem rows_loop (w : World) (d : Nat) (xs ys : List Int) (hx : xs.length = 256) (hy : ys.length = 256) : ∀ l : List Nat, (∀ i ∈ l, i < 16) →
    (forIn l ((none : Option Bool), ()) fun i _ => do
              let a ← part 23 (ints xs).toArray (i * 16)
              let b ← part 23 (ints ys).toArray (i * 16)
              let c ← Op.equalIn (d + 2) 23 a b
              if (!c) = true then pure (ForInStep.done (some false, ())) else pure (ForInStep.yield (none, ()))).run Try.prog w = .ok (if (l.all fun i => decide (Mx.row xs i = Mx.row ys i)) then (none, ()) else (some false, ())) w
  | [], _ => rfl
  | i :: l, hl => by
    have hi : i < 16 := hl i (by simp)
    have px := part_row xs i w
    have py := part_row ys i w
    have pe := equal_vec w d (Mx.row xs i) (Mx.row ys i) (Mx.row_length hx hi) (Mx.row_length hy hi)
    have ih := rows_loop w d xs ys hx hy l fun j hj => hl j (by simp [hj])
    rw [List.forIn_cons, Sem.run_bind, Sem.run_bind, px, Result.andThen_ok, Sem.run_bind, py, Result.andThen_ok, Sem.run_bind, pe, Result.andThen_ok, List.all_cons]
    cases hb : (decide (Mx.row xs i = Mx.row ys i))
    · simp
    · simp only [Bool.not_true, Bool.false_eq_true, if_false, Sem.run_pure, Result.andThen_ok, Bool.true_and]
      exact ih
theorem equal_mat {T : TypeId} (hT : IsMat T) (w : World) (d : Nat) (xs ys : List Int) (hx : xs.length = 256) (hy : ys.length = 256) : (Op.equalIn (d + 3) T (vecV xs) (vecV ys)).run Try.prog w = .ok (decide (xs = ys)) w := by
  have hl : ∀ i ∈ List.range' 0 16 1, i < 16 := fun i hi => by simpa using (List.mem_range'_1.1 hi).2
  have h := rows_loop w d xs ys hx hy _ hl
  rw [← List.range_eq_range', all_range_rows xs ys hx hy] at h
  rw [Op.equalIn]
  simp only [Sem.run_bind, run_underlying hT.und, Result.andThen_ok, Try.sizeOf23, Std.Legacy.Range.forIn_eq_forIn_range', Std.Legacy.Range.size, Nat.sub_zero, Nat.add_sub_cancel, Nat.div_one]
  rw [List.range_eq_range'] at h
  rw [h, Result.andThen_ok]
  cases decide (xs = ys) <;> rfl
theorem neqm {T : TypeId} (hT : IsMat T) {x y : List Int} (hx : x.length = 256) (hy : y.length = 256) (h : x = y) (w : World) : (binOp .neq T (vecV x) (vecV y)).run Try.prog w = .ok (.bool false) w := by
  rw [run_neq_struct, equal_mat hT w 9997 x y hx hy, decide_eq_true h]
  rfl
end Go.Proofs.Ytmifkfeobdnocaa
