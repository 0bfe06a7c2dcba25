/- The walk of DotParses' function. -/
import Derived.Test.YtifmmfceihhhlaaDoorRefParse
import Derived.Test.YtifmmfceihhhlaaDoorRead
namespace Go.Proofs.YtifmmfceihhhlaaDoor
open Go.RowKit

theorem dot_or (l : List UInt8) : (∃ r n : Int, Dt.isDot l r n) ∨ Dt.noDot l := by
  by_cases h : ∃ r n : Int, Dt.isDot l r n
  · exact .inl h
  · exact .inr fun r n hr e => h ⟨r, n, hr, e⟩
theorem told_dot {l : List UInt8} {r n : Int} {e : Ending} (h : toldDot l e) (hd : Dt.isDot l r n) : e = .returned (.tuple #[dotV r n, .bool true]) := by
  rcases h with ⟨r', n', rfl, h'⟩ | ⟨r', n', rfl, h'⟩
  · obtain ⟨rfl, rfl⟩ := Dt.isDot_one hd h'; rfl
  · exact absurd hd.2 (h' r n hd.1)
theorem told_none {l : List UInt8} {e : Ending} (h : toldDot l e) (hd : Dt.noDot l) : ∃ r n : Int, e = .returned (.tuple #[dotV r n, .bool false]) := by
  rcases h with ⟨r', n', rfl, h'⟩ | ⟨r', n', rfl, _⟩
  · exact absurd h'.2 (hd r' n' h'.1)
  · exact ⟨r', n', rfl⟩

set_option maxRecDepth 20000 in
set_option maxHeartbeats 1000000 in
/-- Behind the cut to 60 bytes: a text t of at most 60. -/
theorem dotParses_walk (s : ByteArray) (w : World) (hk : Keeps w) (hs : s.size ≤ maxLen) :
    Calls Tryd.prog 4 #[.string s] w fun e w' => e = .returned (.bool true) ∧ Below w.heap.size w w' := by
  unfold maxLen at hs
  obtain ⟨t, ht, hcase⟩ : ∃ t : ByteArray, t.size ≤ 60 ∧ ((t = s ∧ ¬ 60 < (s.size : Int)) ∨ (t = s.extract 0 60 ∧ 60 < (s.size : Int))) := by
    by_cases h : 60 < s.size
    · exact ⟨s.extract 0 60, by rw [ByteArray.size_extract]; omega, .inr ⟨rfl, by omega⟩⟩
    · exact ⟨s, by omega, .inl ⟨rfl, by omega⟩⟩
  have HP2 : ∀ w, Calls Tryd.prog 20 #[.string t] w fun e w' => toldDot t.data.toList e ∧ Below w.heap.size w w' := fun w => refParse_any t w (by omega)
  rcases hcase with ⟨rfl, h60⟩ | ⟨rfl, h60⟩
  · rcases dot_or t.data.toList with ⟨r, n, hd⟩ | hd
    · have HP : ∀ w, Keeps w → Calls Tryd.prog 19 #[.string t] w fun e w' => e = .returned (.tuple #[dotV r n, .int .i64 0]) ∧ Below w.heap.size w w' := fun w hk => parse_ok _ r n w hk (by omega) hd
      have HQ : ∀ w, Calls Tryd.prog 20 #[.string t] w fun e w' => e = .returned (.tuple #[dotV r n, .bool true]) ∧ Below w.heap.size w w' := fun w => (HP2 w).mono fun e w' h => ⟨told_dot h.1 hd, h.2⟩
      clear HP2 hd
      go_enter Tryd.func4, Tryd.ntmps4
      go_wp2_with fail
      refine (HP _ hk).mono ?_
      rintro e w1 ⟨rfl, hb1⟩
      have c0 : (w1.alloc (.cells #[.int .i64 r, .int .i64 n] 23)).cell? ⟨w1.heap.size, 0, none⟩ = some (.int .i64 r) := by simp
      have c1 : (w1.alloc (.cells #[.int .i64 r, .int .i64 n] 23)).cell? ⟨w1.heap.size, 1, none⟩ = some (.int .i64 n) := by simp
      have B1 := bchain hb1 (below_new w1 (.cells #[.int .i64 r, .int .i64 n] 23))
      go_wp2_with fail
      refine (HQ _).mono ?_
      rintro e w2 ⟨rfl, hb2⟩
      have d0 := keep_cell (below_new w2 (.cells #[.int .i64 r, .int .i64 n] 23)) (keep_cell hb2 c0)
      have d1 := keep_cell (below_new w2 (.cells #[.int .i64 r, .int .i64 n] 23)) (keep_cell hb2 c1)
      have B2 := bchain (bchain B1 hb2) (below_new w2 (.cells #[.int .i64 r, .int .i64 n] 23))
      go_wp2_with (go_at_call 18; refine (awake_any _ (hk.on B2)).mono ?_; rintro e w3 ⟨rfl, hb3⟩)
      go_ret
      exact ⟨rfl, bchain B2 hb3⟩
    · have HP : ∀ w, Keeps w → Calls Tryd.prog 19 #[.string t] w fun e w' => e = .returned (.tuple #[dotV 0 0, .int .i64 19]) ∧ Below w.heap.size w w' := fun w hk => parse_no _ w hk (by omega) hd
      have HQ : ∀ w, Calls Tryd.prog 20 #[.string t] w fun e w' => (∃ r n : Int, e = .returned (.tuple #[dotV r n, .bool false])) ∧ Below w.heap.size w w' := fun w => (HP2 w).mono fun e w' h => ⟨told_none h.1 hd, h.2⟩
      clear HP2 hd
      go_enter Tryd.func4, Tryd.ntmps4
      go_wp2_with fail
      refine (HP _ hk).mono ?_
      rintro e w1 ⟨rfl, hb1⟩
      have c0 : (w1.alloc (.cells #[.int .i64 0, .int .i64 0] 23)).cell? ⟨w1.heap.size, 0, none⟩ = some (.int .i64 0) := by simp
      have c1 : (w1.alloc (.cells #[.int .i64 0, .int .i64 0] 23)).cell? ⟨w1.heap.size, 1, none⟩ = some (.int .i64 0) := by simp
      have B1 := bchain hb1 (below_new w1 (.cells #[.int .i64 0, .int .i64 0] 23))
      go_wp2_with fail
      refine (HQ _).mono ?_
      rintro e w2 ⟨⟨r, n, rfl⟩, hb2⟩
      have d0 := keep_cell (below_new w2 (.cells #[.int .i64 r, .int .i64 n] 23)) (keep_cell hb2 c0)
      have d1 := keep_cell (below_new w2 (.cells #[.int .i64 r, .int .i64 n] 23)) (keep_cell hb2 c1)
      have B2 := bchain (bchain B1 hb2) (below_new w2 (.cells #[.int .i64 r, .int .i64 n] 23))
      go_wp2_with (go_at_call 18; refine (awake_any _ (hk.on B2)).mono ?_; rintro e w3 ⟨rfl, hb3⟩)
      go_ret
      exact ⟨rfl, bchain B2 hb3⟩
  · rcases dot_or (s.extract 0 60).data.toList with ⟨r, n, hd⟩ | hd
    · have HP : ∀ w, Keeps w → Calls Tryd.prog 19 #[.string (s.extract 0 60)] w fun e w' => e = .returned (.tuple #[dotV r n, .int .i64 0]) ∧ Below w.heap.size w w' := fun w hk => parse_ok _ r n w hk (by omega) hd
      have HQ : ∀ w, Calls Tryd.prog 20 #[.string (s.extract 0 60)] w fun e w' => e = .returned (.tuple #[dotV r n, .bool true]) ∧ Below w.heap.size w w' := fun w => (HP2 w).mono fun e w' h => ⟨told_dot h.1 hd, h.2⟩
      clear HP2 hd
      go_enter Tryd.func4, Tryd.ntmps4
      go_wp2_with fail
      refine (HP _ hk).mono ?_
      rintro e w1 ⟨rfl, hb1⟩
      have c0 : (w1.alloc (.cells #[.int .i64 r, .int .i64 n] 23)).cell? ⟨w1.heap.size, 0, none⟩ = some (.int .i64 r) := by simp
      have c1 : (w1.alloc (.cells #[.int .i64 r, .int .i64 n] 23)).cell? ⟨w1.heap.size, 1, none⟩ = some (.int .i64 n) := by simp
      have B1 := bchain hb1 (below_new w1 (.cells #[.int .i64 r, .int .i64 n] 23))
      go_wp2_with fail
      refine (HQ _).mono ?_
      rintro e w2 ⟨rfl, hb2⟩
      have d0 := keep_cell (below_new w2 (.cells #[.int .i64 r, .int .i64 n] 23)) (keep_cell hb2 c0)
      have d1 := keep_cell (below_new w2 (.cells #[.int .i64 r, .int .i64 n] 23)) (keep_cell hb2 c1)
      have B2 := bchain (bchain B1 hb2) (below_new w2 (.cells #[.int .i64 r, .int .i64 n] 23))
      go_wp2_with (go_at_call 18; refine (awake_any _ (hk.on B2)).mono ?_; rintro e w3 ⟨rfl, hb3⟩)
      go_ret
      exact ⟨rfl, bchain B2 hb3⟩
    · have HP : ∀ w, Keeps w → Calls Tryd.prog 19 #[.string (s.extract 0 60)] w fun e w' => e = .returned (.tuple #[dotV 0 0, .int .i64 19]) ∧ Below w.heap.size w w' := fun w hk => parse_no _ w hk (by omega) hd
      have HQ : ∀ w, Calls Tryd.prog 20 #[.string (s.extract 0 60)] w fun e w' => (∃ r n : Int, e = .returned (.tuple #[dotV r n, .bool false])) ∧ Below w.heap.size w w' := fun w => (HP2 w).mono fun e w' h => ⟨told_none h.1 hd, h.2⟩
      clear HP2 hd
      go_enter Tryd.func4, Tryd.ntmps4
      go_wp2_with fail
      refine (HP _ hk).mono ?_
      rintro e w1 ⟨rfl, hb1⟩
      have c0 : (w1.alloc (.cells #[.int .i64 0, .int .i64 0] 23)).cell? ⟨w1.heap.size, 0, none⟩ = some (.int .i64 0) := by simp
      have c1 : (w1.alloc (.cells #[.int .i64 0, .int .i64 0] 23)).cell? ⟨w1.heap.size, 1, none⟩ = some (.int .i64 0) := by simp
      have B1 := bchain hb1 (below_new w1 (.cells #[.int .i64 0, .int .i64 0] 23))
      go_wp2_with fail
      refine (HQ _).mono ?_
      rintro e w2 ⟨⟨r, n, rfl⟩, hb2⟩
      have d0 := keep_cell (below_new w2 (.cells #[.int .i64 r, .int .i64 n] 23)) (keep_cell hb2 c0)
      have d1 := keep_cell (below_new w2 (.cells #[.int .i64 r, .int .i64 n] 23)) (keep_cell hb2 c1)
      have B2 := bchain (bchain B1 hb2) (below_new w2 (.cells #[.int .i64 r, .int .i64 n] 23))
      go_wp2_with (go_at_call 18; refine (awake_any _ (hk.on B2)).mono ?_; rintro e w3 ⟨rfl, hb3⟩)
      go_ret
      exact ⟨rfl, bchain B2 hb3⟩
end Go.Proofs.YtifmmfceihhhlaaDoor
