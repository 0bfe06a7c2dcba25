/- What the proof of BagTells wants besides: a value that came in. -/
import Derived.Test.YtjbbhfkbhpagbaaCntsAll
import Derived.Test.YtjbbhfkbhpagbaaValAll
namespace Go.Proofs.Ytjbbhfkbhpagbaa
open Go.ChangeShapes Go.WideShapes Go.ChangeAt Go.RowKit Go.Deep

theorem reads26 : Try.prog.readableRec 26 = true := by kernel_rfl
theorem rows26 : 26 < Try.prog.types.size := by decide +kernel
set_option maxRecDepth 100000 in
/-- A value that came in. -/
theorem val_read {H : Type} {enc : TypeId × Value → H} {W : World} {base : Nat} {sp : Nat → Bool} {v : Value} {d : DataW H} {p : List MemPlace} (hv : Value.okWide Try.prog W .any base 26 v) (h : DataW.Trod enc Try.prog W 0 sp true 26 v d p) :
    ∃ (k n : Int) (l : List UInt8), v = valV k n l ∧ ∃ x y, d = .agg [x, y, .lit (.string l)] := by
  obtain ⟨cs, rfl, hsz⟩ := okWide_struct Try.underlying26 hv
  rw [cellsVal] at hsz
  obtain ⟨l⟩ := cs
  match l, hsz with
  | [c0, c1, c2], _ =>
    obtain ⟨fuel, hf⟩ := h
    simp [Value.cells] at hf
    obtain ⟨y0, y1, y2, m, hx, hd, hy0, hy1, hy2⟩ := Go.Deep.trod_struct3 Try.underlying26 hf
    obtain ⟨a, e0, rfl, wa⟩ := DataW.trod_int Try.underlying3 hy0
    obtain ⟨b, e1, rfl, wb⟩ := DataW.trod_int Try.underlying3 hy1
    obtain ⟨s, e2, rfl, ws⟩ := DataW.trod_string Try.underlying9 hy2
    simp [cells3, cells9] at e0 e1 e2
    subst e0 e1 e2
    refine ⟨a, b, s.data.toList, rfl, ?_⟩
    simp only [Prod.mk.injEq] at hx
    exact ⟨_, _, hx.1⟩
end Go.Proofs.Ytjbbhfkbhpagbaa
