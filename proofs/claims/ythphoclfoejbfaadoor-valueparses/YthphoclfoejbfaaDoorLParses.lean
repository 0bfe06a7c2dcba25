/- The walk of the statement ValueParses. -/
import Derived.Test.YthphoclfoejbfaaDoorRefStr
namespace Go.Proofs.YthphoclfoejbfaaDoor
open Go.RowKit

set_option maxRecDepth 20000 in
set_option maxHeartbeats 4000000 in
theorem valueParses_list (l : List UInt8) (w : World) (hk : Keeps w) :
    Calls Tryd.prog 4 #[.string ⟨l.toArray⟩] w fun e w' => e = .returned (.bool true) ∧ Below w.heap.size w w' := by
  by_cases hlen : 200 < l.length
  · have d1 : (200 : Int) < (l.length : Int) := by omega
    go_enter Tryd.func4, Tryd.ntmps4
    go_wp2_with (go_at_call 7; refine (awake_any _ hk).mono ?_; rintro e w1 ⟨rfl, hb1⟩)
    go_ret
    exact ⟨rfl, hb1⟩
  have d1 : ¬ (200 : Int) < (l.length : Int) := by omega
  have C17 := fun w => refParse_list l w (by omega)
  cases hp : Vl.pars l with
  | some x =>
    obtain ⟨k, n, t⟩ := x
    have C16 := fun w hk => parse_some l k n t w hk (by omega) hp
    have C17' : ∀ w, Calls Tryd.prog 17 #[.string ⟨l.toArray⟩] w fun e w' => e = .returned (.tuple #[valV k n t, .bool true]) ∧ Below w.heap.size w w' := fun w => by
      refine (C17 w).mono ?_
      rintro e w' ⟨h, hb⟩
      refine ⟨?_, hb⟩
      rcases h with ⟨k', n', t', h1, rfl⟩ | ⟨h1, _⟩
      · rw [hp] at h1
        simp only [Option.some.injEq, Prod.mk.injEq] at h1
        obtain ⟨rfl, rfl, rfl⟩ := h1
        rfl
      · rw [hp] at h1; cases h1
    clear C17 hp
    go_enter Tryd.func4, Tryd.ntmps4
    go_wp2_with (first
      | (go_at_call 16; (with_reducible refine (C16 w hk).mono ?_); rintro e w1 ⟨rfl, hb1⟩; have V1 := VAt.new w1 k n t; have B1 := bchain hb1 (below_new w1 (valO k n t)))
      | (go_at_call 17; refine (C17' _).mono ?_; rintro e w2 ⟨rfl, hb2⟩; have B2 := bchain (bchain B1 hb2) (below_new w2 (valO k n t)); have V2 := (V1.on hb2).on (below_new w2 (valO k n t)); have c0 := V2.c0; have c1 := V2.c1; have c2 := V2.c2)
      | (go_at_call 7; (with_reducible refine (awake_any _ (hk.on B2)).mono ?_); rintro e w3 ⟨rfl, hb3⟩))
    go_ret
    exact ⟨rfl, bchain B2 hb3⟩
  | none =>
    have C16 := fun w hk => parse_none l w hk (by omega) hp
    have C17' : ∀ w, Calls Tryd.prog 17 #[.string ⟨l.toArray⟩] w fun e w' => e = .returned (.tuple #[valV 0 0 [], .bool false]) ∧ Below w.heap.size w w' := fun w => by
      refine (C17 w).mono ?_
      rintro e w' ⟨h, hb⟩
      refine ⟨?_, hb⟩
      rcases h with ⟨k', n', t', h1, rfl⟩ | ⟨h1, h2⟩
      · rw [hp] at h1; cases h1
      · exact h2
    clear C17 hp
    go_enter Tryd.func4, Tryd.ntmps4
    go_wp2_with (first
      | (go_at_call 16; (with_reducible refine (C16 w hk).mono ?_); rintro e w1 ⟨rfl, hb1⟩; have V1 := VAt.new w1 0 0 []; have B1 := bchain hb1 (below_new w1 (valO 0 0 [])))
      | (go_at_call 17; refine (C17' _).mono ?_; rintro e w2 ⟨rfl, hb2⟩; have B2 := bchain (bchain B1 hb2) (below_new w2 (valO 0 0 [])); have V2 := (V1.on hb2).on (below_new w2 (valO 0 0 [])); have c0 := V2.c0; have c1 := V2.c1; have c2 := V2.c2)
      | (go_at_call 7; (with_reducible refine (awake_any _ (hk.on B2)).mono ?_); rintro e w3 ⟨rfl, hb3⟩))
    go_ret
    exact ⟨rfl, bchain B2 hb3⟩
theorem valueParses_walk (s : ByteArray) (w : World) (hk : Keeps w) (_hs : s.size ≤ maxLen) :
    Calls Tryd.prog 4 #[.string s] w fun e w' => e = .returned (.bool true) ∧ Below w.heap.size w w' := by
  have h := valueParses_list s.data.toList w hk
  rw [show (⟨s.data.toList.toArray⟩ : ByteArray) = s by simp] at h
  exact h
end Go.Proofs.YthphoclfoejbfaaDoor
