/- Both Codes of an operation that may be, or of which nothing is left. -/
import Derived.Test.YtghkjbekjkejpaaRefCode
namespace Go.Proofs.Ytghkjbekjkejpaa.O
open Go.RowKit

/-- Both Codes of one that may be, or is gone. -/
theorem code_may (k : Int) (pv : Value) (vk vn : Int) (vs : List UInt8) (n : Int) (sv : Value) (p : List (List UInt8)) (l : List U) (w : World) (hp : U.strsAt w pv p) (hs : refsIn w sv l) (hc : Os.check ⟨k, p, vk, vn, vs, n, l⟩ = 0 ∨ Os.gone ⟨k, p, vk, vn, vs, n, l⟩ = true) :
    Calls Try.prog 41 #[opV k pv vk vn vs n sv] w fun e w' => e = .returned (.string ⟨(Os.code ⟨k, p, vk, vn, vs, n, l⟩).toArray⟩) ∧ Below w.heap.size w w' := by
  rcases hc with hc | hc
  · have h := Os.check_zero hc
    have hk : k = 1 ∨ k = 2 ∨ k = 3 ∨ k = 4 ∨ k = 5 := by have h1 : 1 ≤ k := h.1; have h2 : k ≤ 5 := h.2.1; omega
    rcases hk with rfl | rfl | rfl | rfl | rfl
    · exact code_1 pv vk vn vs n sv p l w hp hs hc
    · exact code_2 pv vk vn vs n sv p l w hp hs hc
    · exact code_3 pv vk vn vs n sv p l w hp hs hc
    · exact code_4 pv vk vn vs n sv p l w hp hs hc
    · exact code_5 pv vk vn vs n sv p l w hp hs hc
  · have h := Os.gone_is hc
    obtain ⟨rfl, rfl, rfl, rfl, rfl, rfl, rfl⟩ : k = 0 ∧ p = [] ∧ vk = 0 ∧ vn = 0 ∧ vs = [] ∧ n = 0 ∧ l = [] := by simpa using h
    exact code_gone pv sv w hp hs
theorem refCode_may (k : Int) (pv : Value) (vk vn : Int) (vs : List UInt8) (n : Int) (sv : Value) (p : List (List UInt8)) (l : List U) (w : World) (hp : U.strsAt w pv p) (hs : refsIn w sv l) (hc : Os.check ⟨k, p, vk, vn, vs, n, l⟩ = 0 ∨ Os.gone ⟨k, p, vk, vn, vs, n, l⟩ = true) :
    Calls Try.prog 45 #[opV k pv vk vn vs n sv] w fun e w' => e = .returned (.string ⟨(Os.code ⟨k, p, vk, vn, vs, n, l⟩).toArray⟩) ∧ Below w.heap.size w w' := by
  rcases hc with hc | hc
  · have h := Os.check_zero hc
    have hk : k = 1 ∨ k = 2 ∨ k = 3 ∨ k = 4 ∨ k = 5 := by have h1 : 1 ≤ k := h.1; have h2 : k ≤ 5 := h.2.1; omega
    rcases hk with rfl | rfl | rfl | rfl | rfl
    · exact refCode_1 pv vk vn vs n sv p l w hp hs hc
    · exact refCode_2 pv vk vn vs n sv p l w hp hs hc
    · exact refCode_3 pv vk vn vs n sv p l w hp hs hc
    · exact refCode_4 pv vk vn vs n sv p l w hp hs hc
    · exact refCode_5 pv vk vn vs n sv p l w hp hs hc
  · have h := Os.gone_is hc
    obtain ⟨rfl, rfl, rfl, rfl, rfl, rfl, rfl⟩ : k = 0 ∧ p = [] ∧ vk = 0 ∧ vn = 0 ∧ vs = [] ∧ n = 0 ∧ l = [] := by simpa using h
    exact refCode_gone pv sv w hp hs
end Go.Proofs.Ytghkjbekjkejpaa.O
