/- What the proofs of this seat share: a vector and a dot that came in. -/
import Derived.Test.YtmifkfeobdnocaaRows
import Derived.Test.YtmifkfeobdnocaaCount
import Derived.ProofKit
import Derived.OpenShut
import Derived.WideKeyArgs
import Derived.ChangeSame
namespace Go.Proofs.Ytmifkfeobdnocaa
open Go.ChangeShapes Go.WideShapes Go.ChangeAt Go.RowKit

theorem own : ownKnob Try.prog.godebug = none := by kernel_rfl
theorem laid_out : laidOutB Try.prog = true := by kernel_rfl
theorem reads23 : Try.prog.readableRec 23 = true := by kernel_rfl
theorem rows23 : 23 < Try.prog.types.size := by decide +kernel
theorem reads26 : Try.prog.readableRec 26 = true := by kernel_rfl
theorem rows26 : 26 < Try.prog.types.size := by decide +kernel
theorem cells3 : Try.prog.cellsOf 3 = 1 := by kernel_rfl
theorem cells23 : Try.prog.cellsOf 23 = 16 := by kernel_rfl
theorem cells25 : Try.prog.cellsOf 26 = 2 := by kernel_rfl

theorem int_wf {a : Int} (h : (Lit.int .i64 a).wf = true) : -9223372036854775808 ≤ a ∧ a ≤ 9223372036854775807 := by
  have e1 : IntKind.i64.min = -9223372036854775808 := rfl
  have e2 : IntKind.i64.max = 9223372036854775807 := rfl
  simp [Lit.wf, e1, e2] at h
  omega
set_option maxRecDepth 100000 in
/-- A dot that came in. -/
theorem dot_read {H : Type} {enc : TypeId × Value → H} {W : World} {base : Nat} {sp : Nat → Bool} {v : Value} {d : DataW H} {p : List MemPlace} (hv : Value.okWide Try.prog W .any base 26 v) (h : DataW.Trod enc Try.prog W 0 sp true 26 v d p) :
    ∃ r n : Int, v = dotV r n ∧ True := by
  obtain ⟨cs, rfl, hsz⟩ := okWide_struct Try.underlying26 hv
  rw [cells25] at hsz
  obtain ⟨l⟩ := cs
  match l, hsz with
  | [c0, c1], _ =>
    obtain ⟨fuel, hf⟩ := h
    simp [Value.cells] at hf
    obtain ⟨y0, y1, m, hx, _, hy0, hy1⟩ := trod_struct2 Try.underlying26 hf
    obtain ⟨a, e0, rfl, wa⟩ := DataW.trod_int Try.underlying3 hy0
    obtain ⟨b, e1, rfl, wb⟩ := DataW.trod_int Try.underlying3 hy1
    simp [cells3] at e0 e1
    exact ⟨a, b, by rw [e0, e1], trivial⟩
/-- A number, of a cell that holds one. -/
def numOf : Value → Int
  | .int _ a => a
  | _ => 0
theorem ints_back {cs : List Value} (h : ∀ i (hi : i < cs.length), ∃ a : Int, cs[i] = .int .i64 a ∧ -9223372036854775808 ≤ a ∧ a ≤ 9223372036854775807) : cs = ints (cs.map numOf) ∧ Go64 (cs.map numOf) := by
  constructor
  · apply List.ext_getElem
    · simp [ints]
    · intro i h1 h2
      obtain ⟨a, e, _⟩ := h i h1
      simp [ints, e, numOf]
  · intro k
    by_cases hk : k < cs.length
    · obtain ⟨a, e, h1, h2⟩ := h k hk
      have : (cs.map numOf).getD k 0 = a := by simp [List.getD, hk, e, numOf]
      rw [this]
      omega
    · have : (cs.map numOf).getD k 0 = 0 := by simp [List.getD, hk]
      rw [this]
      omega
set_option maxRecDepth 100000 in
/-- A vector that came in. -/
theorem vec_read {H : Type} {enc : TypeId × Value → H} {W : World} {base : Nat} {sp : Nat → Bool} {v : Value} {d : DataW H} {p : List MemPlace} (hv : Value.okWide Try.prog W .any base 23 v) (h : DataW.Trod enc Try.prog W 0 sp true 23 v d p) :
    ∃ l : List Int, v = vecV l ∧ l.length = 16 ∧ Go64 l := by
  obtain ⟨cs, rfl, hsz, _⟩ : ∃ cs, v = .agg cs ∧ cs.size = Try.prog.cellsOf 23 ∧ Row.okWide Try.prog W .any base 23 cs := by
    simpa [Value.okWide, Try.underlying23] using hv
  rw [cells23] at hsz
  obtain ⟨l⟩ := cs
  have hl : l.length = 16 := by simpa using hsz
  obtain ⟨fuel, hf⟩ := h
  have hf' : DataW.trod enc Try.prog W 0 sp true fuel 23 l = some (d, p) := by simpa [Value.cells] using hf
  obtain ⟨xs, m, _, _, _, hn, hx⟩ := DataW.trod_array Try.underlying23 hf'
  have key : ∀ i (hi : i < l.length), ∃ a : Int, l[i] = .int .i64 a ∧ -9223372036854775808 ≤ a ∧ a ≤ 9223372036854775807 := by
    intro i hi
    have h1 := hx i (by omega)
    rw [cells3, Nat.mul_one, List.getElem?_eq_getElem (by omega)] at h1
    obtain ⟨a, e0, _, wa⟩ := DataW.trod_int Try.underlying3 h1
    rw [List.drop_eq_getElem_cons hi, List.take_succ_cons, List.take_zero] at e0
    exact ⟨a, (List.cons.inj e0).1, int_wf wa⟩
  obtain ⟨e, hg⟩ := ints_back key
  exact ⟨l.map numOf, congrArg (fun x : List Value => Value.agg ⟨x⟩) e, by simp [hl], hg⟩
end Go.Proofs.Ytmifkfeobdnocaa
