/- A matrix that came in. -/
import Derived.Test.YtmifkfeobdnocaaBase
import Derived.Test.YtmifkfeobdnocaaMat
namespace Go.Proofs.Ytmifkfeobdnocaa
open Go.ChangeShapes Go.WideShapes Go.ChangeAt Go.RowKit

theorem reads24 : Try.prog.readableRec 24 = true := by kernel_rfl
theorem rows24 : 24 < Try.prog.types.size := by decide +kernel
theorem cells24 : Try.prog.cellsOf 24 = 256 := by kernel_rfl
set_option maxRecDepth 100000 in
theorem mat_read {H : Type} {enc : TypeId × Value → H} {W : World} {base : Nat} {sp : Nat → Bool} {v : Value} {d : DataW H} {p : List MemPlace} (hv : Value.okWide Try.prog W .any base 24 v) (h : DataW.Trod enc Try.prog W 0 sp true 24 v d p) :
    ∃ l : List Int, v = vecV l ∧ l.length = 256 ∧ Go64 l := by
  obtain ⟨cs, rfl, hsz, _⟩ : ∃ cs, v = .agg cs ∧ cs.size = Try.prog.cellsOf 24 ∧ Row.okWide Try.prog W .any base 24 cs := by
    simpa [Value.okWide, m24.und] using hv
  rw [cells24] at hsz
  obtain ⟨l⟩ := cs
  have hl : l.length = 256 := by simpa using hsz
  obtain ⟨fuel, hf⟩ := h
  have hf' : DataW.trod enc Try.prog W 0 sp true fuel 24 l = some (d, p) := by simpa [Value.cells] using hf
  obtain ⟨xs, m, _, _, _, hn, hx⟩ := DataW.trod_array m24.und hf'
  have key : ∀ i (hi : i < l.length), ∃ a : Int, l[i] = .int .i64 a ∧ -9223372036854775808 ≤ a ∧ a ≤ 9223372036854775807 := by
    intro i hi
    have h1 := hx (i / 16) (by omega)
    rw [cells23, List.getElem?_eq_getElem (by omega)] at h1
    obtain ⟨ys, m', _, _, _, hn', hy⟩ := DataW.trod_array Try.underlying23 h1
    have h2 := hy (i % 16) (by omega)
    rw [cells3, Nat.mul_one, List.getElem?_eq_getElem (by omega)] at h2
    obtain ⟨a, e0, _, wa⟩ := DataW.trod_int Try.underlying3 h2
    have e1 : (((l.drop (i / 16 * 16)).take 16).drop (i % 16)).take 1 = [l[i]] := by
      have h3 : ((l.drop (i / 16 * 16)).take 16).length = 16 := by simp; omega
      have h4 : i % 16 < ((l.drop (i / 16 * 16)).take 16).length := by omega
      rw [List.drop_eq_getElem_cons h4, List.take_succ_cons, List.take_zero]
      simp only [List.getElem_take, List.getElem_drop]
      congr 2
      omega
    rw [e1] at e0
    exact ⟨a, (List.cons.inj e0).1, int_wf wa⟩
  obtain ⟨e, hg⟩ := ints_back key
  exact ⟨l.map numOf, congrArg (fun x : List Value => Value.agg ⟨x⟩) e, by simp [hl], hg⟩
end Go.Proofs.Ytmifkfeobdnocaa
