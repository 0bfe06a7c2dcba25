/- What the proofs of this seat share: dots, counts and slices of counts that came in. -/
import Derived.Test.YtpheljlnlbiieaaRows
import Derived.Test.YtpheljlnlbiieaaMem
import Derived.Deep.SlicePairs
import Derived.ProofKit
import Derived.OpenShut
import Derived.WideKeyArgs
import Derived.ChangeSame
namespace Go.Proofs.Ytpheljlnlbiieaa
open Go.ChangeShapes Go.WideShapes Go.ChangeAt Go.RowKit

theorem own : ownKnob Try.prog.godebug = none := by kernel_rfl
theorem laid_out : laidOutB Try.prog = true := by kernel_rfl
theorem reads24 : Try.prog.readableRec 24 = true := by kernel_rfl
theorem rows24 : 24 < Try.prog.types.size := by decide +kernel
theorem reads22 : Try.prog.readableRec 22 = true := by kernel_rfl
theorem rows22 : 22 < Try.prog.types.size := by decide +kernel
theorem reads26 : Try.prog.readableRec 26 = true := by kernel_rfl
theorem rows26 : 26 < Try.prog.types.size := by decide +kernel
theorem cells3 : Try.prog.cellsOf 3 = 1 := by kernel_rfl
theorem cells22 : Try.prog.cellsOf 22 = 1 := by kernel_rfl
theorem cells24 : Try.prog.cellsOf 24 = 2 := by kernel_rfl
theorem cells26 : Try.prog.cellsOf 26 = 3 := by kernel_rfl

theorem int_wf {a : Int} (h : (Lit.int .i64 a).wf = true) : -9223372036854775808 ≤ a ∧ a ≤ 9223372036854775807 := by
  have e1 : IntKind.i64.min = -9223372036854775808 := rfl
  have e2 : IntKind.i64.max = 9223372036854775807 := rfl
  simp [Lit.wf, e1, e2] at h
  omega
set_option maxRecDepth 100000 in
/-- Two cells of a dot. -/
theorem cells_dot {H : Type} {enc : TypeId × Value → H} {W : World} {sp : Nat → Bool} {fuel : Nat} {c0 c1 : Value} {x : DataW H × List MemPlace} (h : DataW.trod enc Try.prog W 0 sp true fuel 24 [c0, c1] = some x) :
    ∃ d : D, c0 = .int .i64 d.1 ∧ c1 = .int .i64 d.2 := by
  obtain ⟨d, p⟩ := x
  obtain ⟨y0, y1, m, hx, _, hy0, hy1⟩ := trod_struct2 Try.underlying24 h
  obtain ⟨a, e0, _, wa⟩ := DataW.trod_int Try.underlying3 hy0
  obtain ⟨b, e1, _, wb⟩ := DataW.trod_int Try.underlying3 hy1
  simp [cells3] at e0 e1
  exact ⟨(a, b), e0, e1⟩
set_option maxRecDepth 100000 in
/-- Three cells of a count. -/
theorem cells_cnt {H : Type} {enc : TypeId × Value → H} {W : World} {sp : Nat → Bool} {fuel : Nat} {c0 c1 c2 : Value} {x : DataW H × List MemPlace} (h : DataW.trod enc Try.prog W 0 sp true fuel 26 [c0, c1, c2] = some x) :
    ∃ u : U, c0 = .int .i64 u.1.1 ∧ c1 = .int .i64 u.1.2 ∧ c2 = .int .i64 u.2 := by
  obtain ⟨d, p⟩ := x
  obtain ⟨y0, y1, m, hx, _, hy0, hy1⟩ := trod_struct2 Try.underlying26 h
  simp only [cells24, cells3, List.drop_zero, List.take_succ_cons, List.take_zero, List.drop_succ_cons] at hy0 hy1
  obtain ⟨q, e0, e1⟩ := cells_dot hy0
  obtain ⟨b, e2, _, wb⟩ := DataW.trod_int Try.underlying3 hy1
  exact ⟨(q, b), e0, e1, (List.cons.inj e2).1⟩
set_option maxRecDepth 100000 in
/-- A dot that came in. -/
theorem dot_read {H : Type} {enc : TypeId × Value → H} {W : World} {base : Nat} {sp : Nat → Bool} {v : Value} {d : DataW H} {p : List MemPlace} (hv : Value.okWide Try.prog W .any base 24 v) (h : DataW.Trod enc Try.prog W 0 sp true 24 v d p) :
    ∃ x : D, v = dV x := by
  obtain ⟨cs, rfl, hsz⟩ := okWide_struct Try.underlying24 hv
  rw [cells24] at hsz
  obtain ⟨l⟩ := cs
  match l, hsz with
  | [c0, c1], _ =>
    obtain ⟨fuel, hf⟩ := h
    simp [Value.cells] at hf
    obtain ⟨q, e0, e1⟩ := cells_dot hf
    exact ⟨q, by rw [e0, e1]⟩
set_option maxRecDepth 100000 in
/-- A count that came in. -/
theorem cnt_read {H : Type} {enc : TypeId × Value → H} {W : World} {base : Nat} {sp : Nat → Bool} {v : Value} {d : DataW H} {p : List MemPlace} (hv : Value.okWide Try.prog W .any base 26 v) (h : DataW.Trod enc Try.prog W 0 sp true 26 v d p) :
    ∃ x : U, v = uV x := by
  obtain ⟨cs, rfl, hsz⟩ := okWide_struct Try.underlying26 hv
  rw [cells26] at hsz
  obtain ⟨l⟩ := cs
  match l, hsz with
  | [c0, c1, c2], _ =>
    obtain ⟨fuel, hf⟩ := h
    simp [Value.cells] at hf
    obtain ⟨q, e0, e1, e2⟩ := cells_cnt hf
    exact ⟨q, by rw [e0, e1, e2]⟩
set_option maxRecDepth 100000 in
/-- A slice of counts that came in. -/
theorem cnts_read {H : Type} {enc : TypeId × Value → H} {W : World} {base : Nat} {sp : Nat → Bool} {v : Value} {d : DataW H} {p : List MemPlace} (hv : Value.okWide Try.prog W .any base 22 v) (h : DataW.Trod enc Try.prog W 0 sp true 22 v d p) :
    ∃ l, cntsIn W v l := by
  obtain ⟨a0, len0, cap0, rfl⟩ := okWide_slice Try.underlying22 hv
  obtain ⟨fuel, hf⟩ := h
  rcases Go.Deep.open_slice Try.underlying22 hf with ⟨e, _⟩ | ⟨a, len, cap, m, n, Dd, Pl, e, hb, hl, hm, hmm, _, hx⟩
  · simp [Value.cells] at e
    obtain ⟨rfl, rfl, rfl⟩ := e
    exact ⟨[], cntsIn_nil W⟩
  · simp [Value.cells] at e
    obtain ⟨rfl, rfl, rfl⟩ := e
    have hlm : len0 ≤ m := by rw [hmm]; split <;> omega
    have each : ∀ i, i < len0 → ∃ u : U, CAt W (a.add (i * 3)) u := fun i hi => by
      obtain ⟨cs', h1, h2⟩ := hx i (by omega)
      rw [cells26] at h1
      obtain ⟨_, hlen, hcell⟩ := World.cells?_some h1
      match cs', hlen with
      | [c0, c1, c2], _ =>
        obtain ⟨u, e0, e1, e2⟩ := cells_cnt h2
        have g0 := hcell 0 (by omega)
        have g1 := hcell 1 (by omega)
        have g2 := hcell 2 (by omega)
        rw [add_add] at g0 g1 g2
        refine ⟨u, ?_, ?_, ?_⟩
        · rw [← e0]; simpa using g0
        · rw [← e1, ← add_one]; simpa using g1
        · rw [← e2, ← add_two]; simpa using g2
    refine ⟨(List.range len0).attach.map fun i => (each i.1 (List.mem_range.1 i.2)).choose, some a, cap0, by simp, by simpa using hl, fun e => by simp at e, fun k hk => ⟨a, rfl, ?_⟩⟩
    simp only [List.getElem_map, List.getElem_attach, List.getElem_range]
    exact (each k (by simpa using hk)).choose_spec
end Go.Proofs.Ytpheljlnlbiieaa
