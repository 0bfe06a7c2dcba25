/- A slice of counts is appended to a row that the call owns. -/
import Derived.Test.YtbeinicbkbkbpaaCntsAll
namespace Go.Proofs.Ytbeinicbkbkbpaa.T
open Go.Proofs.Ytbeinicbkbkbpaa.D
open Go.RowKit

theorem append_cnts {ops : Array Oper} {rest : List Oper} {o : Oper} {a : Act} {w : World} {Q : Exit → Act → World → Prop} (hgd : o.guard = none) (s x : Operand)
    (ho : o.op = .call { callee := .builtin .append, args := #[s, x], argTypes := #[23, 23] }) (B : Nat) (hB : B ≤ w.heap.size) (r : Value) (acc : List U) (hs : a.eval s = r) (hown : w.ownsRow B 59 3 r acc.length (ucells acc))
    (v : Value) (l : List U) (hx : a.eval x = v) (hv : cntsIn w v l) (hn : acc.length + l.length ≤ 2000000)
    (h : ∀ r' w', w'.ownsRow B 59 3 r' (acc ++ l).length (ucells (acc ++ l)) → Below B w w' → wpList Try.prog ops Q rest (a.put o.dst r') w') : wpList Try.prog ops Q (o :: rest) a w := by
  obtain ⟨i0, hi, hz, hz1, hz2⟩ := info26
  obtain ⟨ao, cap, rfl, hm, h0, hc⟩ := id hv
  cases ao with
  | none =>
    obtain ⟨rfl, _, rfl⟩ := hv.none_nil
    refine wpList_append_own_none hgd s x 23 ho B 59 i0 3 Try.underlying23 hi r _ _ hs hown hx ?_
    refine h r w ?_ (Below.refl _ _)
    rw [List.append_nil]
    exact hown
  | some ad =>
    refine wpList_append_own w hgd s x 23 ho B 59 i0 _ 3 24 Try.underlying23 hi hz hz1 hz2 rfl (by decide) r _ _ hs hown ad l.length cap (ucells l) hx (ucells_length l) hv.cells (ucells_one l) (by unfold maxLen; omega) (by omega) hB ?_
    intro v' w1 hown' hg _
    refine h v' w1 ?_ (own_grown hown hB (Below.refl _ _) hg)
    rw [ucells_append, List.length_append]
    exact hown'
end Go.Proofs.Ytbeinicbkbkbpaa.T
