/- What the proofs of this seat share. -/
import Derived.Test.YtcmidcpogcejfaaRows
import Derived.Test.YtcmidcpogcejfaaQuotes
import Derived.ProofKit
import Derived.Deep.Strs
import Derived.WideKeyArgs
namespace Go.Proofs.Ytcmidcpogcejfaa
open Go.ChangeShapes Go.WideShapes Go.ChangeAt Go.RowKit Go.Deep
theorem own : ownKnob Try.prog.godebug = none := by kernel_rfl
theorem laid_out : laidOutB Try.prog = true := by kernel_rfl
theorem reads22 : Try.prog.readableRec 22 = true := by kernel_rfl
theorem rows22 : 22 < Try.prog.types.size := by decide +kernel
theorem cells9 : Try.prog.cellsOf 9 = 1 := by kernel_rfl

/-- A slice of texts that came in: what it reads as. -/
theorem strs_read {H : Type} {enc : TypeId × Value → H} {W : World} {base : Nat} {v : Value} {d : DataW H} {p : List MemPlace} (hv : Value.okWide Try.prog W .any base 22 v) (h : DataW.Trod enc Try.prog W 0 (fun _ => true) true 22 v d p) :
    ∃ xs : List (List UInt8), xs.length ≤ maxLen ∧ (∀ x ∈ xs, x.length ≤ maxLen) ∧ U.strsAt W v xs := by
  obtain ⟨a0, len, cap, rfl⟩ := okWide_slice Try.underlying22 hv
  obtain ⟨fuel, hf⟩ := h
  rcases open_strs Try.underlying22 Try.underlying9 cells9 hf with ⟨hcs, hx⟩ | ⟨a, len', cap', m, Sx, hcs, _, hl, hm, hmm, hx, hcell⟩
  · simp [Value.cells] at hcs
    obtain ⟨rfl, rfl, rfl⟩ := hcs
    exact ⟨[], by simp, by simp, U.strsAt_nil _⟩
  · simp [Value.cells] at hcs
    obtain ⟨rfl, rfl, rfl⟩ := hcs
    simp only [if_true] at hmm
    subst hmm
    refine ⟨(List.range len).map fun i => (Sx i).data.toList, ?_, ?_, some a, m, by simp, by simp; omega, ?_⟩
    · simp; omega
    · intro x hx
      simp only [List.mem_map, List.mem_range] at hx
      obtain ⟨i, hi, rfl⟩ := hx
      rw [U.size_len]
      exact (hcell i (by omega)).2
    · intro k hk
      simp at hk
      refine ⟨a, rfl, ?_⟩
      rw [(hcell k (by omega)).1]
      simp
end Go.Proofs.Ytcmidcpogcejfaa
