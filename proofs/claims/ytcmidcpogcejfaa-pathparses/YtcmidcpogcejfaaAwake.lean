/- The chapter's example: a\/b/c. -/
import Derived.Test.YtcmidcpogcejfaaParse
import Derived.Test.YtcmidcpogcejfaaTexts
import Derived.Test.YtcmidcpogcejfaaEquals
namespace Go.Proofs.Ytcmidcpogcejfaa.U
open Go.RowKit

/-- The example's parts. -/
def exA : List (List UInt8) := [[97, 47, 98], [99]]
theorem exA_split : Nm.split [97, 92, 47, 98, 47, 99] = some exA := by decide
theorem exA_check : Pt.check exA = 0 := by kernel_rfl
theorem exA_joined : Nm.joined exA = [97, 92, 47, 98, 47, 99] := by decide
theorem exA_under : Pt.under exA (exA.take 1) = true := by decide
theorem exA_few : Few exA := ⟨by decide, by decide⟩
theorem aw_parse (w : World) : Calls Try.prog 22 #[.string ⟨#[97, 92, 47, 98, 47, 99]⟩] w fun e w' => ∃ v, e = .returned (.tuple #[v, .int .i64 0]) ∧ strsAt w' v exA ∧ Below w.heap.size w w' := by
  have h := parse_any ⟨#[97, 92, 47, 98, 47, 99]⟩ w (by decide)
  have e1 : splitL (⟨#[97, 92, 47, 98, 47, 99]⟩ : ByteArray).data.toList = exA := (splitL_some exA_split).1
  have e2 : perr (⟨#[97, 92, 47, 98, 47, 99]⟩ : ByteArray).data.toList = 0 := by unfold perr; rw [e1]; exact exA_check
  rw [parsed_ok e2, e2, e1] at h
  exact h
theorem strs_lit (w : World) (a b : List UInt8) : strsAt (w.alloc (.cells #[.string ⟨a.toArray⟩, .string ⟨b.toArray⟩] 9)) (.slice (some ⟨w.heap.size, 0, none⟩) 2 2) [a, b] := by
  refine ⟨_, 2, rfl, Nat.le_refl _, fun k hk => ⟨_, rfl, ?_⟩⟩
  have hadd : (⟨w.heap.size, 0, none⟩ : Addr).add k = ⟨w.heap.size, k, none⟩ := by unfold Addr.add; split <;> simp_all
  rw [hadd, World.cell?_alloc_at _ _ _ _ rfl]
  match k, hk with
  | 0, _ => rfl
  | 1, _ => rfl
  | k + 2, h => simp at h; omega

set_option maxRecDepth 20000 in
set_option maxHeartbeats 2000000 in
theorem awake_any (w : World) : Calls Try.prog 9 #[] w fun e w' => e = .returned (.bool true) ∧ Below w.heap.size w w' := by
  go_enter Try.func9, Try.ntmps9
  go_wp2_with fail
  refine (aw_parse _).mono ?_
  rintro e W1 ⟨v, rfl, h1, b1⟩
  have h1s := h1
  obtain ⟨ao, ca, rfl, hca, _⟩ := h1s
  have hA := (Below.refl W1.heap.size W1).alloc (Nat.le_refl _) (.cells #[.string ⟨#[97, 47, 98]⟩, .string ⟨#[99]⟩] 9)
  have h1' := strsAt_below h1 hA (Nat.le_refl _)
  have h2' : strsAt _ _ exA := strs_lit W1 [97, 47, 98] [99]
  have hl : exA.length = 2 := rfl
  rw [hl] at h1 h1' hca ⊢
  have HS := same_any _ _ _ _ _ (by decide) h1' h2'
  rw [decide_eq_true rfl] at HS
  go_wp2_with fail
  refine HS.mono ?_
  rintro e W2 ⟨rfl, b2⟩
  have k2 := strsAt_below h1' b2 (Nat.le_refl _)
  have HT := text_any _ exA W2 exA_few k2
  rw [exA_joined] at HT
  go_wp2_with fail
  refine HT.mono ?_
  rintro e W3 ⟨rfl, b3⟩
  have k3 := strsAt_below k2 b3 (Nat.le_refl _)
  have HC := check_any _ exA W3 (by decide) k3
  rw [exA_check] at HC
  go_wp2_with fail
  refine HC.mono ?_
  rintro e W4 ⟨rfl, b4⟩
  have k4 := strsAt_below k3 b4 (Nat.le_refl _)
  have HU := under_any _ (.slice ao 1 ca) exA (exA.take 1) W4 (by decide) (by decide) k4 (strsAt_take k4 (by decide))
  rw [exA_under] at HU
  have h1ca : (1 : Int) ≤ ca := by omega
  clear hl h1 h1' h2' k2 k3 k4 HS HT HC
  go_wp2_with fail
  refine HU.mono ?_
  rintro e W5 ⟨rfl, b5⟩
  go_wp2
  go_ret
  exact ⟨rfl, bchain (bchain (bchain (bchain (bchain b1 hA) b2) b3) b4) b5⟩

end Go.Proofs.Ytcmidcpogcejfaa.U
