/- The walk of PathParses. -/
import Derived.Test.YtcmidcpogcejfaaAwake
namespace Go.Proofs.Ytcmidcpogcejfaa.U
open Go.RowKit

set_option maxRecDepth 20000 in
set_option maxHeartbeats 2000000 in
theorem pathParses_walk (s : ByteArray) (w : World) (hs : s.size ≤ maxLen) :
    Calls Try.prog 4 #[.string s] w fun e w' => e = .returned (.bool true) ∧ Below w.heap.size w w' := by
  have eM : maxLen = 9223372036854775807 := rfl
  rw [eM] at hs
  by_cases h5 : 500 < s.size
  · go_enter Try.func4, Try.ntmps4
    go_wp2_with fail
    refine (awake_any _).mono ?_
    rintro e w2 ⟨rfl, b2⟩
    go_wp2
    go_ret
    exact ⟨rfl, b2⟩
  · have h2 : s.size ≤ 2000000 := by omega
    have hl := parsed_len s.data.toList
    have P1 := parse_any s w h2
    have P2 := fun W => refParse_any s W h2
    generalize parsed s.data.toList = ps at *
    generalize perr s.data.toList = q at *
    go_enter Try.func4, Try.ntmps4
    go_wp2_with fail
    refine P1.mono ?_
    rintro e w1 ⟨v1, rfl, k1, b1⟩
    go_wp2_with fail
    refine (P2 w1).mono ?_
    rintro e w2 ⟨v2, rfl, k2, b2⟩
    have S := same_any v1 v2 ps ps w2 (by omega) (strsAt_below k1 b2 (Nat.le_refl _)) k2
    rw [decide_eq_true rfl] at S
    go_wp2_with fail
    refine S.mono ?_
    rintro e w3 ⟨rfl, b3⟩
    go_wp2_with fail
    refine (awake_any _).mono ?_
    rintro e w4 ⟨rfl, b4⟩
    go_wp2
    go_ret
    exact ⟨rfl, bchain (bchain (bchain b1 b2) b3) b4⟩

end Go.Proofs.Ytcmidcpogcejfaa.U
