/- The chapter's example: an Inc of a by 5. -/
import Derived.Test.YtbbehccagdibcaaCodeOp
namespace Go.Proofs.Ytbbehccagdibcaa.O
open Go.RowKit

theorem ex_check : Os.check ⟨3, [[97]], 0, 0, [], 5, []⟩ = 0 := by decide +kernel
theorem ex_code : Os.code ⟨3, [[97]], 0, 0, [], 5, []⟩ = [3, 1, 1, 97, 10] := by decide +kernel
theorem strs_one (w : World) (a : List UInt8) : U.strsAt (w.alloc (.cells #[.string ⟨a.toArray⟩] 9)) (.slice (some ⟨w.heap.size, 0, none⟩) 1 1) [a] := by
  refine ⟨_, 1, rfl, Nat.le_refl _, fun k hk => ⟨_, rfl, ?_⟩⟩
  match k, hk with
  | 0, _ => simp [Addr.add]
  | k + 1, h => simp at h

set_option maxRecDepth 20000 in
set_option maxHeartbeats 2000000 in
theorem awake_any (w : World) : Calls Try.prog 8 #[] w fun e w' => e = .returned (.bool true) ∧ Below w.heap.size w w' := by
  have B0 := below_new2 w (.cells #[.string ⟨#[97]⟩] 9) (opO 3 (.slice (some ⟨w.heap.size, 0, none⟩) 1 1) 0 0 [] 5 (.slice none 0 0))
  have P0 : U.strsAt (w.alloc (.cells #[.string ⟨#[97]⟩] 9)) (.slice (some ⟨w.heap.size, 0, none⟩) 1 1) [[97]] := strs_one w [97]
  have P1 := U.strsAt_below P0 (below_new _ (opO 3 (.slice (some ⟨w.heap.size, 0, none⟩) 1 1) 0 0 [] 5 (.slice none 0 0))) (Nat.le_refl _)
  have O1 : OAt ((w.alloc (.cells #[.string ⟨#[97]⟩] 9)).alloc (opO 3 (.slice (some ⟨w.heap.size, 0, none⟩) 1 1) 0 0 [] 5 (.slice none 0 0))) (w.heap.size + 1) 3 (.slice (some ⟨w.heap.size, 0, none⟩) 1 1) 0 0 [] 5 (.slice none 0 0) := by
    have h := OAt.new (w.alloc (.cells #[.string ⟨#[97]⟩] 9)) 3 (.slice (some ⟨w.heap.size, 0, none⟩) 1 1) 0 0 [] 5 (.slice none 0 0)
    have e : (w.alloc (.cells #[.string ⟨#[97]⟩] 9)).heap.size = w.heap.size + 1 := by simp
    rw [e] at h
    exact h
  have C10 := fun W hb => check_any 3 (.slice (some ⟨w.heap.size, 0, none⟩) 1 1) 0 0 [] 5 (.slice none 0 0) [[97]] [] W (by simp) (by simp) (U.strsAt_below P1 hb (Nat.le_refl _)) (refsIn_nil _)
  have C21 := fun W hb => code_3 (.slice (some ⟨w.heap.size, 0, none⟩) 1 1) 0 0 [] 5 (.slice none 0 0) [[97]] [] W (U.strsAt_below P1 hb (Nat.le_refl _)) (refsIn_nil _) ex_check
  rw [ex_check] at C10
  rw [ex_code] at C21
  have C11 := fun w => leaf_any 4 w
  rw [show Os.leaf 4 = 2 by decide] at C11
  clear P0 P1
  go_enter Try.func8, Try.ntmps8
  go_wp2_with (first
    | (go_at_call 10; refine (C10 _ (Below.refl _ _)).mono ?_; rintro e w1 ⟨rfl, hb1⟩; obtain ⟨c0, c1, c2, c3, c4, c5, c6⟩ := O1.on hb1)
    | (go_at_call 21; refine (C21 _ hb1).mono ?_; rintro e w2 ⟨rfl, hb2⟩)
    | (go_at_call 11; refine (C11 _).mono ?_; rintro e wq ⟨rfl, hw⟩; have hw := hw.symm; subst hw))
  go_ret
  exact ⟨rfl, bchain (bchain B0 hb1) hb2⟩
end Go.Proofs.Ytbbehccagdibcaa.O
