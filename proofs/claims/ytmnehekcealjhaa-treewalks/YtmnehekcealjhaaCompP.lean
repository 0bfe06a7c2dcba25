/- The walks of the program's Compare and of the document's. -/
import Derived.Test.YtmnehekcealjhaaNumberAll
import Derived.Deep.RegionHeld3
import Derived.Test.YtmnehekcealjhaaUtfAll
import Derived.Lib.Small
namespace Go.Proofs.Ytmnehekcealjhaa.U
open Go.RowKit

theorem wrap_i64 {e : Int} (h : -9223372036854775808 ≤ e) (h' : e < 9223372036854775808) : IntKind.i64.wrap e = e := by
  simp [IntKind.wrap, IntKind.signed, IntKind.bits]; try split
  all_goals omega
/-! ### The document's -/
theorem drop_cons {s : ByteArray} {pos : Nat} (h : pos < s.size) : s.data.toList.drop pos = s[pos] :: s.data.toList.drop (pos + 1) := by
  rw [List.drop_eq_getElem_cons (by rw [size_len]; exact h)]
  rfl
/-- How far two texts are alike. -/
def likeTo (a b : List UInt8) (k : Nat) : Prop := k ≤ a.length ∧ k ≤ b.length ∧ Lib.compareBytes a b = Lib.compareBytes (a.drop k) (b.drop k)
theorem likeTo_zero (a b : List UInt8) : likeTo a b 0 := ⟨by omega, by omega, by simp⟩
theorem likeTo_succ {s t : ByteArray} {k : Nat} (h : likeTo s.data.toList t.data.toList k) (h1 : k < s.size) (h2 : k < t.size) (e : s[k] = t[k]) : likeTo s.data.toList t.data.toList (k + 1) := by
  refine ⟨by rw [size_len]; omega, by rw [size_len]; omega, ?_⟩
  rw [h.2.2, drop_cons h1, drop_cons h2, e]
  simp [Lib.compareBytes]
theorem likeTo_diff {s t : ByteArray} {k : Nat} (h : likeTo s.data.toList t.data.toList k) (h1 : k < s.size) (h2 : k < t.size) (e : s[k] ≠ t[k]) : Lib.compareBytes s.data.toList t.data.toList = Lib.compareInt (s[k].toNat : Int) (t[k].toNat : Int) := by
  rw [h.2.2, drop_cons h1, drop_cons h2]
  have : s[k].toNat ≠ t[k].toNat := fun x => e (UInt8.toNat_inj.1 x)
  simp only [Lib.compareBytes, Lib.compareInt, UInt8.lt_iff_toNat_lt]
  by_cases h3 : s[k].toNat < t[k].toNat
  · rw [if_pos h3, if_pos (by omega)]
  · rw [if_neg h3, if_pos (by omega), if_neg (by omega), if_pos (by omega)]
theorem likeTo_end {s t : ByteArray} {k : Nat} (h : likeTo s.data.toList t.data.toList k) (hk : ¬ (k < s.size ∧ k < t.size)) : Lib.compareBytes s.data.toList t.data.toList = Lib.compareInt (s.size : Int) (t.size : Int) := by
  obtain ⟨h1, h2, h3⟩ := h
  rw [size_len] at h1 h2
  rw [h3]
  by_cases e : k < s.size
  · have e2 : k = t.size := by omega
    rw [drop_cons e, show t.data.toList.drop k = [] from List.drop_eq_nil_of_le (by rw [size_len]; omega)]
    simp only [Lib.compareBytes, Lib.compareInt]
    rw [if_neg (by omega), if_pos (by omega)]
  · rw [show s.data.toList.drop k = [] from List.drop_eq_nil_of_le (by rw [size_len]; omega)]
    by_cases e2 : k < t.size
    · rw [drop_cons e2]
      simp only [Lib.compareBytes, Lib.compareInt]
      rw [if_pos (by omega)]
    · rw [show t.data.toList.drop k = [] from List.drop_eq_nil_of_le (by rw [size_len]; omega)]
      simp only [Lib.compareBytes, Lib.compareInt]
      rw [if_neg (by omega), if_neg (by omega)]

end Go.Proofs.Ytmnehekcealjhaa.U
