/- The walk of slices.Equal over references. -/
import Derived.Test.YtghkjbekjkejpaaMemAll
namespace Go.Proofs.Ytghkjbekjkejpaa.O
open Go.RowKit

/-- So many of the counts are the same. -/
def sameTo (xs ys : List U) (k : Nat) : Prop := xs.take k = ys.take k
theorem sameTo_zero (xs ys : List U) : sameTo xs ys 0 := by simp [sameTo]
theorem sameTo_step {xs ys : List U} {k : Nat} (h : sameTo xs ys k) (h1 : k < xs.length) (h2 : k < ys.length) (he : xs[k] = ys[k]) : sameTo xs ys (k + 1) := by
  unfold sameTo at h ⊢
  rw [List.take_succ_eq_append_getElem h1, List.take_succ_eq_append_getElem h2, h, he]
theorem same_not {xs ys : List U} {k : Nat} (h1 : k < xs.length) (h2 : k < ys.length) (he : ¬ xs[k] = ys[k]) : decide (xs = ys) = false := by
  apply decide_eq_false
  intro e
  subst e
  exact he rfl
theorem same_all {xs ys : List U} {k : Nat} (h : sameTo xs ys k) (h1 : ¬ k < xs.length) (hl : xs.length = ys.length) : decide (xs = ys) = true := by
  apply decide_eq_true
  unfold sameTo at h
  rwa [List.take_of_length_le (by omega), List.take_of_length_le (by omega)] at h
theorem CAt.heap {w w' : World} {p : Addr} {u : U} (h : CAt w p u) (e : w'.heap = w.heap) : CAt w' p u := ⟨(World.cell?_of_block (by rw [e])).trans h.1, (World.cell?_of_block (by rw [e])).trans h.2.1, (World.cell?_of_block (by rw [e])).trans h.2.2⟩

set_option maxRecDepth 20000 in
set_option maxHeartbeats 2000000 in
theorem equalR_any (va vb : Value) (xs ys : List U) (w : World) (hx : xs.length ≤ 1000000) (ha : refsIn w va xs) (hb : refsIn w vb ys) :
    Calls Try.prog 58 #[va, vb] w fun e w' => e = .returned (.bool (decide (xs = ys))) ∧ Below w.heap.size w w' := by
  obtain ⟨ao, ca, rfl, _, _, hca⟩ := ha
  obtain ⟨bo, cb, rfl, _, _, hcb⟩ := hb
  by_cases hl : xs.length = ys.length
  · go_enter Try.func58, Try.ntmps58
    go_wp2
    go_loopw [5, 13] (fun _ i wr => ∃ k : Nat, k ≤ xs.length ∧ i = .int .i64 k ∧ sameTo xs ys k ∧ wr.heap = w.heap ∧ Below w.heap.size w wr) (fun _ i _ => xs.length - (intOf i).toNat)
    case atStart => exact ⟨0, by omega, rfl, sameTo_zero _ _, rfl, Below.refl _ w⟩
    case round =>
      obtain ⟨k, hk, rfl, hS, hheap, hbw⟩ := hrel
      by_cases hlt : k < xs.length
      · have hlt2 : k < ys.length := by omega
        obtain ⟨ad, rfl, hA⟩ := hca k hlt
        obtain ⟨bd, rfl, hB⟩ := hcb k hlt2
        obtain ⟨hA1, hA2, hA3⟩ := hA.heap hheap
        obtain ⟨hB1, hB2, hB3⟩ := hB.heap hheap
        clear hca hcb hA hB
        have hE := neq_cnt xs[k] ys[k]
        by_cases he : xs[k] = ys[k]
        · have HS := sameTo_step hS hlt hlt2 he
          simp only [he, decide_true, Bool.not_true] at hE
          rw [he] at hA1 hA2 hA3
          generalize ys[k] = x at *
          go_wp2
          go_region
          all_goals
            go_wp2
            go_roundw
            case rel => exact ⟨k + 1, by omega, by go_num, HS, hheap, hbw.drew⟩
            case measure => simp [intOf]; omega
        · have HL : Hid (decide (xs = ys) = false) := by
            have h := same_not hlt hlt2 he
            exact h
          simp only [he, decide_false, Bool.not_false] at hE
          generalize xs[k] = x at *
          generalize ys[k] = y at *
          go_wp2
          go_region
          all_goals
            go_wp2
            go_ret
            exact ⟨ret_bool HL.out.symm, hbw.drew⟩
      · have HL : Hid (decide (xs = ys) = true) := by
          have h := same_all hS hlt hl
          exact h
        go_wp2
        go_ret
        exact ⟨ret_bool HL.out.symm, hbw⟩
  · have HL : Hid (decide (xs = ys) = false) := by
      have h : decide (xs = ys) = false := decide_eq_false (fun e => hl (by rw [e]))
      exact h
    clear hca hcb
    go_enter Try.func58, Try.ntmps58
    go_wp2
    go_ret
    exact ⟨ret_bool HL.out.symm, Below.refl _ w⟩
end Go.Proofs.Ytghkjbekjkejpaa.O
