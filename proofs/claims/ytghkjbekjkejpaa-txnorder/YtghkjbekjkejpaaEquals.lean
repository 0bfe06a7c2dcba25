/- The walks of slices.Equal, Same, Under and of the document's Under. -/
import Derived.Test.YtghkjbekjkejpaaNamesAll
import Derived.Test.YtghkjbekjkejpaaUtfAll
namespace Go.Proofs.Ytghkjbekjkejpaa.U
open Go.RowKit

theorem strsAt_len {w : World} {v : Value} {xs : List (List UInt8)} (h : strsAt w v xs) : ∃ ao cap, v = .slice ao xs.length cap := by
  obtain ⟨ao, cap, hv, _⟩ := h
  exact ⟨ao, cap, hv⟩
theorem bytes_ne {a b : List UInt8} (h : a ≠ b) : ¬ (⟨a.toArray⟩ : ByteArray) = ⟨b.toArray⟩ := fun e => h (by
  have := congrArg (fun b : ByteArray => b.data.toList) e
  simpa using this)

set_option maxRecDepth 20000 in
set_option maxHeartbeats 2000000 in
theorem equal_any (va vb : Value) (xs ys : List (List UInt8)) (w : World) (hx : xs.length ≤ 2000000) (ha : strsAt w va xs) (hb : strsAt w vb ys) :
    Calls Try.prog 81 #[va, vb] w fun e w' => e = .returned (.bool (decide (xs = ys))) ∧ Below w.heap.size w w' := by
  obtain ⟨ao, ca, rfl, _, hca⟩ := ha
  obtain ⟨bo, cb, rfl, _, hcb⟩ := hb
  by_cases hl : xs.length = ys.length
  · go_enter Try.func81, Try.ntmps81
    go_wp2
    go_loopw [13] (fun i wr => ∃ k : Nat, k ≤ xs.length ∧ i = .int .i64 k ∧ sameTo xs ys k ∧ wr.heap = w.heap ∧ Below w.heap.size w wr) (fun i _ => xs.length - (intOf i).toNat)
    case atStart => exact ⟨0, by omega, rfl, sameTo_zero _ _, rfl, Below.refl _ w⟩
    case round =>
      obtain ⟨k, hk, rfl, hS, hheap, hbw⟩ := hrel
      by_cases hlt : k < xs.length
      · have hlt2 : k < ys.length := by omega
        obtain ⟨ad, rfl, hA⟩ := hca k hlt
        obtain ⟨bd, rfl, hB⟩ := hcb k hlt2
        have hA2 : wr.cell? (ad.add k) = some (.string ⟨(xs[k]).toArray⟩) := (World.cell?_of_block (by rw [hheap])).trans hA
        have hB2 : wr.cell? (bd.add k) = some (.string ⟨(ys[k]).toArray⟩) := (World.cell?_of_block (by rw [hheap])).trans hB
        clear hca hcb hA hB
        by_cases he : xs[k] = ys[k]
        · have HS := sameTo_step hS hlt hlt2 he
          rw [← he] at hB2
          generalize xs[k] = x at *
          go_wp2
          go_region
          all_goals
            go_wp2
            go_roundw
            case rel => exact ⟨k + 1, by omega, by go_num, HS, hheap, hbw.drew⟩
            case measure => simp [intOf]; omega
        · have HL : Hid (decide (xs = ys) = false) := by
            have h := same_not hlt hlt2 he
            exact h
          have hne := bytes_ne he
          have hbe : (xs[k] == ys[k]) = false := beq_eq_false_iff_ne.2 he
          generalize xs[k] = x at *
          generalize ys[k] = y at *
          go_wp2
          go_region
          all_goals
            go_wp2
            go_ret
            exact ⟨ret_bool HL.out.symm, hbw.drew⟩
      · have HL : Hid (decide (xs = ys) = true) := by
          have h := same_all hS hlt hl
          exact h
        go_wp2
        go_ret
        exact ⟨ret_bool HL.out.symm, hbw⟩
  · have HL : Hid (decide (xs = ys) = false) := by
      have h : decide (xs = ys) = false := decide_eq_false (fun e => hl (by rw [e]))
      exact h
    clear hca hcb
    go_enter Try.func81, Try.ntmps81
    go_wp2
    go_ret
    exact ⟨ret_bool HL.out.symm, Below.refl _ w⟩

/-- The program's Same. -/
theorem psame_any (va vb : Value) (xs ys : List (List UInt8)) (w : World) (hx : xs.length ≤ 2000000) (ha : strsAt w va xs) (hb : strsAt w vb ys) :
    Calls Try.prog 57 #[va, vb] w fun e w' => e = .returned (.bool (decide (xs = ys))) ∧ Below w.heap.size w w' := by
  have HC := equal_any va vb xs ys w hx ha hb
  go_enter Try.func57, Try.ntmps57
  go_wp2_with (go_at_call 81; (with_reducible refine HC.mono ?_); rintro e w1 ⟨rfl, hb1⟩)
  go_ret
  exact ⟨rfl, hb1⟩

/-- The first of so many texts. -/
theorem strsAt_take {w : World} {ao : Option Addr} {n cap m : Nat} {xs : List (List UInt8)} (h : strsAt w (.slice ao n cap) xs) (hm : m ≤ xs.length) : strsAt w (.slice ao m cap) (xs.take m) := by
  obtain ⟨bo, c, hv, hc, hk⟩ := h
  obtain ⟨rfl, rfl, rfl⟩ : ao = bo ∧ n = xs.length ∧ cap = c := by simpa using hv
  have hl : (xs.take m).length = m := by rw [List.length_take]; omega
  refine ⟨ao, cap, by rw [hl], by omega, fun k hk2 => ?_⟩
  obtain ⟨ad, h1, h2⟩ := hk k (by omega)
  exact ⟨ad, h1, by rw [h2]; simp⟩

theorem under_no {xs ys : List (List UInt8)} {k : Nat} (h1 : k < xs.length) (h2 : k < ys.length) (he : ¬ xs[k] = ys[k]) : Pt.under xs ys = false := by
  cases e : Pt.under xs ys with
  | false => rfl
  | true =>
    obtain ⟨r, rfl⟩ := Pt.under_iff.1 e
    exact absurd (by simp [List.getElem_append_left h2]) he
theorem under_yes {xs ys : List (List UInt8)} {k : Nat} (h : sameTo xs ys k) (h1 : ¬ k < ys.length) (_hl : ys.length ≤ xs.length) (hk : k ≤ ys.length) : Pt.under xs ys = true := by
  unfold sameTo at h
  obtain rfl : k = ys.length := by omega
  rw [List.take_length] at h
  exact Pt.under_iff.2 ⟨xs.drop ys.length, by have := List.take_append_drop ys.length xs; rw [h] at this; exact this.symm⟩

end Go.Proofs.Ytghkjbekjkejpaa.U
