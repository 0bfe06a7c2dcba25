/- What the proofs of this seat share: dots, slices of dots and sets that came in. -/
import Derived.Test.YtenfbjlmfdiniaaRows
import Derived.Test.YtenfbjlmfdiniaaMem
import Derived.Deep.SlicePairs
import Derived.ProofKit
import Derived.OpenShut
import Derived.WideKeyArgs
import Derived.ChangeSame
namespace Go.Proofs.Ytenfbjlmfdiniaa
open Go.ChangeShapes Go.WideShapes Go.ChangeAt Go.RowKit

theorem own : ownKnob Try.prog.godebug = none := by kernel_rfl
theorem laid_out : laidOutB Try.prog = true := by kernel_rfl
theorem reads28 : Try.prog.readableRec 28 = true := by kernel_rfl
theorem rows28 : 28 < Try.prog.types.size := by decide +kernel
theorem reads24 : Try.prog.readableRec 24 = true := by kernel_rfl
theorem rows24 : 24 < Try.prog.types.size := by decide +kernel
theorem reads26 : Try.prog.readableRec 26 = true := by kernel_rfl
theorem rows26 : 26 < Try.prog.types.size := by decide +kernel
theorem cells3 : Try.prog.cellsOf 3 = 1 := by kernel_rfl
theorem cells23 : Try.prog.cellsOf 23 = 16 := by kernel_rfl
theorem cells24 : Try.prog.cellsOf 24 = 1 := by kernel_rfl
theorem cells26 : Try.prog.cellsOf 26 = 17 := by kernel_rfl
theorem cells28 : Try.prog.cellsOf 28 = 2 := by kernel_rfl

theorem int_wf {a : Int} (h : (Lit.int .i64 a).wf = true) : -9223372036854775808 ≤ a ∧ a ≤ 9223372036854775807 := by
  have e1 : IntKind.i64.min = -9223372036854775808 := rfl
  have e2 : IntKind.i64.max = 9223372036854775807 := rfl
  simp [Lit.wf, e1, e2] at h
  omega
set_option maxRecDepth 100000 in
/-- A dot that came in. -/
theorem dot_read {H : Type} {enc : TypeId × Value → H} {W : World} {base : Nat} {sp : Nat → Bool} {v : Value} {d : DataW H} {p : List MemPlace} (hv : Value.okWide Try.prog W .any base 28 v) (h : DataW.Trod enc Try.prog W 0 sp true 28 v d p) :
    ∃ x : D, v = dV x := by
  obtain ⟨cs, rfl, hsz⟩ := okWide_struct Try.underlying28 hv
  rw [cells28] at hsz
  obtain ⟨l⟩ := cs
  match l, hsz with
  | [c0, c1], _ =>
    obtain ⟨fuel, hf⟩ := h
    simp [Value.cells] at hf
    obtain ⟨y0, y1, m, hx, _, hy0, hy1⟩ := trod_struct2 Try.underlying28 hf
    obtain ⟨a, e0, rfl, wa⟩ := DataW.trod_int Try.underlying3 hy0
    obtain ⟨b, e1, rfl, wb⟩ := DataW.trod_int Try.underlying3 hy1
    simp [cells3] at e0 e1
    exact ⟨(a, b), by rw [e0, e1]⟩
/-- A number, of a cell that holds one. -/
def numOf : Value → Int
  | .int _ a => a
  | _ => 0
set_option maxRecDepth 100000 in
/-- Cells that hold a slice of dots. -/
theorem cells_dots {H : Type} {enc : TypeId × Value → H} {W : World} {sp : Nat → Bool} {fuel : Nat} {cs : List Value} {x : DataW H × List MemPlace} (h : DataW.trod enc Try.prog W 0 sp true fuel 24 cs = some x) :
    ∃ v ds, cs = [v] ∧ dotsIn W v ds ∧ ds.length ≤ maxLen := by
  rcases Go.Deep.open_slice_pairs Try.underlying24 Try.underlying28 cells28 rfl rfl cells3 cells3 h with ⟨rfl, _⟩ | ⟨a, len, cap, m, n, V0, V1, D0, D1, P0, P1, rfl, _, hl, hm, hmm, _, hx⟩
  · exact ⟨_, [], rfl, dotsIn_nil W, by simp⟩
  · have hlm : len ≤ m := by rw [hmm]; split <;> omega
    refine ⟨_, (List.range len).map fun i => (numOf (V0 i), numOf (V1 i)), rfl, ?_, by simp; omega⟩
    have key : ∀ i, i < len → V0 i = .int .i64 (numOf (V0 i)) ∧ V1 i = .int .i64 (numOf (V1 i)) := fun i hi => by
      obtain ⟨_, _, h0, h1⟩ := hx i (by omega)
      obtain ⟨a0, e0, _, _⟩ := DataW.trod_int Try.underlying3 h0
      obtain ⟨a1, e1, _, _⟩ := DataW.trod_int Try.underlying3 h1
      rw [(List.cons.inj e0).1, (List.cons.inj e1).1]
      exact ⟨rfl, rfl⟩
    refine ⟨some a, cap, by simp, fun e => by simp at e, fun k hk => ⟨a, rfl, ?_, ?_⟩⟩
    · have hk' : k < len := by simpa using hk
      rw [(hx k (by omega)).1, (key k hk').1]
      simp [numOf]
    · have hk' : k < len := by simpa using hk
      rw [← add_two, (hx k (by omega)).2.1, (key k hk').2]
      simp [numOf]
set_option maxRecDepth 100000 in
/-- A slice of dots that came in. -/
theorem dots_read {H : Type} {enc : TypeId × Value → H} {W : World} {base : Nat} {sp : Nat → Bool} {v : Value} {d : DataW H} {p : List MemPlace} (hv : Value.okWide Try.prog W .any base 24 v) (h : DataW.Trod enc Try.prog W 0 sp true 24 v d p) :
    ∃ ds, dotsIn W v ds ∧ ds.length ≤ maxLen := by
  obtain ⟨a0, len, cap, rfl⟩ := okWide_slice Try.underlying24 hv
  obtain ⟨fuel, hf⟩ := h
  obtain ⟨v, ds, e, h1, h2⟩ := cells_dots hf
  simp [Value.cells] at e
  subst e
  exact ⟨ds, h1, h2⟩
end Go.Proofs.Ytenfbjlmfdiniaa
