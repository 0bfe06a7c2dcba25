/- Dots and sets that came in, with their numbers' bounds. -/
import Derived.Test.YtenfbjlmfdiniaaReads
import Derived.Test.YtenfbjlmfdiniaaCodes
namespace Go.Proofs.Ytenfbjlmfdiniaa
open Go.ChangeShapes Go.WideShapes Go.ChangeAt Go.RowKit

set_option maxRecDepth 100000 in
/-- Cells that hold a slice of dots whose numbers are Go's. -/
theorem cells_dots64 {H : Type} {enc : TypeId × Value → H} {W : World} {sp : Nat → Bool} {fuel : Nat} {cs : List Value} {x : DataW H × List MemPlace} (h : DataW.trod enc Try.prog W 0 sp true fuel 24 cs = some x) :
    ∃ v ds, cs = [v] ∧ dotsIn W v ds ∧ ds.length ≤ maxLen ∧ GoD ds := by
  rcases Go.Deep.open_slice_pairs Try.underlying24 Try.underlying28 cells28 rfl rfl cells3 cells3 h with ⟨rfl, _⟩ | ⟨a, len, cap, m, n, V0, V1, D0, D1, P0, P1, rfl, _, hl, hm, hmm, _, hx⟩
  · exact ⟨_, [], rfl, dotsIn_nil W, by simp, fun d hd => by cases hd⟩
  · have hlm : len ≤ m := by rw [hmm]; split <;> omega
    have key : ∀ i, i < len → (V0 i = .int .i64 (numOf (V0 i)) ∧ V1 i = .int .i64 (numOf (V1 i))) ∧ (-9223372036854775808 ≤ numOf (V0 i) ∧ numOf (V0 i) < 9223372036854775808) ∧ (-9223372036854775808 ≤ numOf (V1 i) ∧ numOf (V1 i) < 9223372036854775808) := fun i hi => by
      obtain ⟨_, _, h0, h1⟩ := hx i (by omega)
      obtain ⟨a0, e0, _, w0⟩ := DataW.trod_int Try.underlying3 h0
      obtain ⟨a1, e1, _, w1⟩ := DataW.trod_int Try.underlying3 h1
      rw [(List.cons.inj e0).1, (List.cons.inj e1).1]
      have b0 := int_wf w0
      have b1 := int_wf w1
      exact ⟨⟨rfl, rfl⟩, ⟨b0.1, by simp only [numOf]; omega⟩, ⟨b1.1, by simp only [numOf]; omega⟩⟩
    refine ⟨_, (List.range len).map fun i => (numOf (V0 i), numOf (V1 i)), rfl, ?_, by simp; omega, fun d hd => ?_⟩
    · refine ⟨some a, cap, by simp, fun e => by simp at e, fun k hk => ⟨a, rfl, ?_, ?_⟩⟩
      · have hk' : k < len := by simpa using hk
        rw [(hx k (by omega)).1, (key k hk').1.1]
        simp [numOf]
      · have hk' : k < len := by simpa using hk
        rw [← add_two, (hx k (by omega)).2.1, (key k hk').1.2]
        simp [numOf]
    · simp only [List.mem_map, List.mem_range] at hd
      obtain ⟨i, hi, rfl⟩ := hd
      exact (key i hi).2
set_option maxRecDepth 100000 in
/-- A slice of dots that came in. -/
theorem dots_read64 {H : Type} {enc : TypeId × Value → H} {W : World} {base : Nat} {sp : Nat → Bool} {v : Value} {d : DataW H} {p : List MemPlace} (hv : Value.okWide Try.prog W .any base 24 v) (h : DataW.Trod enc Try.prog W 0 sp true 24 v d p) :
    ∃ ds, dotsIn W v ds ∧ GoD ds := by
  obtain ⟨a0, len, cap, rfl⟩ := okWide_slice Try.underlying24 hv
  obtain ⟨fuel, hf⟩ := h
  obtain ⟨v, ds, e, h1, _, h2⟩ := cells_dots64 hf
  simp [Value.cells] at e
  subst e
  exact ⟨ds, h1, h2⟩
set_option maxRecDepth 100000 in
/-- A set that came in. -/
theorem set_read64 {H : Type} {enc : TypeId × Value → H} {W : World} {base : Nat} {sp : Nat → Bool} {v : Value} {d : DataW H} {p : List MemPlace} (hv : Value.okWide Try.prog W .any base 26 v) (h : DataW.Trod enc Try.prog W 0 sp true 26 v d p) :
    ∃ (s : List Int × List D) (u : Value), v = setV s.1 u ∧ s.1.length = 16 ∧ Go64 s.1 ∧ dotsIn W u s.2 ∧ GoD s.2 := by
  obtain ⟨cs, rfl, hsz⟩ := okWide_struct Try.underlying26 hv
  rw [cells26] at hsz
  obtain ⟨l⟩ := cs
  have hl : l.length = 17 := by simpa using hsz
  obtain ⟨fuel, hf⟩ := h
  have hf' : DataW.trod enc Try.prog W 0 sp true fuel 26 l = some (d, p) := by simpa [Value.cells] using hf
  obtain ⟨y0, y1, m, hx, _, hy0, hy1⟩ := trod_struct2 Try.underlying26 hf'
  simp only [cells23, cells24, List.drop_zero] at hy0 hy1
  obtain ⟨a, e0, ha, hg⟩ := cells_vec (by simp [hl]) hy0
  obtain ⟨u, ds, e1, h1, _, h2⟩ := cells_dots64 hy1
  refine ⟨(a, ds), u, ?_, ha, hg, h1, h2⟩
  have e : l = ints a ++ [u] := by
    rw [← e0, ← e1, List.take_of_length_le (l := l.drop 16) (by simp [hl])]
    exact (List.take_append_drop 16 l).symm
  rw [e]
  rfl
end Go.Proofs.Ytenfbjlmfdiniaa
