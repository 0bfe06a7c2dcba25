/- Sets that came in. -/
import Derived.Test.YtenfbjlmfdiniaaBase
namespace Go.Proofs.Ytenfbjlmfdiniaa
open Go.ChangeShapes Go.WideShapes Go.ChangeAt Go.RowKit

theorem ints_back {cs : List Value} (h : ∀ i (hi : i < cs.length), ∃ a : Int, cs[i] = .int .i64 a ∧ -9223372036854775808 ≤ a ∧ a ≤ 9223372036854775807) : cs = ints (cs.map numOf) ∧ Go64 (cs.map numOf) := by
  constructor
  · apply List.ext_getElem
    · simp [ints]
    · intro i h1 h2
      obtain ⟨a, e, _⟩ := h i h1
      simp [ints, e, numOf]
  · intro k
    by_cases hk : k < cs.length
    · obtain ⟨a, e, h1, h2⟩ := h k hk
      have : (cs.map numOf).getD k 0 = a := by simp [List.getD, hk, e, numOf]
      rw [this]
      omega
    · have : (cs.map numOf).getD k 0 = 0 := by simp [List.getD, hk]
      rw [this]
      omega
set_option maxRecDepth 100000 in
/-- Sixteen cells that hold numbers. -/
theorem cells_vec {H : Type} {enc : TypeId × Value → H} {W : World} {sp : Nat → Bool} {fuel : Nat} {l : List Value} {x : DataW H × List MemPlace} (hl : l.length = 16) (h : DataW.trod enc Try.prog W 0 sp true fuel 23 l = some x) :
    ∃ a : List Int, l = ints a ∧ a.length = 16 ∧ Go64 a := by
  obtain ⟨xs, m, _, _, _, hn, hx⟩ := DataW.trod_array Try.underlying23 h
  have key : ∀ i (hi : i < l.length), ∃ a : Int, l[i] = .int .i64 a ∧ -9223372036854775808 ≤ a ∧ a ≤ 9223372036854775807 := by
    intro i hi
    have h1 := hx i (by omega)
    rw [cells3, Nat.mul_one, List.getElem?_eq_getElem (by omega)] at h1
    obtain ⟨a, e0, _, wa⟩ := DataW.trod_int Try.underlying3 h1
    rw [List.drop_eq_getElem_cons hi, List.take_succ_cons, List.take_zero] at e0
    exact ⟨a, (List.cons.inj e0).1, int_wf wa⟩
  obtain ⟨e, hg⟩ := ints_back key
  exact ⟨l.map numOf, e, by simp [hl], hg⟩
set_option maxRecDepth 100000 in
/-- A set that came in. -/
theorem set_read {H : Type} {enc : TypeId × Value → H} {W : World} {base : Nat} {sp : Nat → Bool} {v : Value} {d : DataW H} {p : List MemPlace} (hv : Value.okWide Try.prog W .any base 26 v) (h : DataW.Trod enc Try.prog W 0 sp true 26 v d p) :
    ∃ (s : List Int × List D) (u : Value), v = setV s.1 u ∧ s.1.length = 16 ∧ Go64 s.1 ∧ dotsIn W u s.2 ∧ s.2.length ≤ maxLen := by
  obtain ⟨cs, rfl, hsz⟩ := okWide_struct Try.underlying26 hv
  rw [cells26] at hsz
  obtain ⟨l⟩ := cs
  have hl : l.length = 17 := by simpa using hsz
  obtain ⟨fuel, hf⟩ := h
  have hf' : DataW.trod enc Try.prog W 0 sp true fuel 26 l = some (d, p) := by simpa [Value.cells] using hf
  obtain ⟨y0, y1, m, hx, _, hy0, hy1⟩ := trod_struct2 Try.underlying26 hf'
  simp only [cells23, cells24, List.drop_zero] at hy0 hy1
  obtain ⟨a, e0, ha, hg⟩ := cells_vec (by simp [hl]) hy0
  obtain ⟨u, ds, e1, h1, h2⟩ := cells_dots hy1
  refine ⟨(a, ds), u, ?_, ha, hg, h1, h2⟩
  have e : l = ints a ++ [u] := by
    rw [← e0, ← e1, List.take_of_length_le (l := l.drop 16) (by simp [hl])]
    exact (List.take_append_drop 16 l).symm
  rw [e]
  rfl
end Go.Proofs.Ytenfbjlmfdiniaa
