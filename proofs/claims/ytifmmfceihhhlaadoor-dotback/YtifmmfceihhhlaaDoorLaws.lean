/- The walks of the statements' functions: DotRow, DotBack, DotTells. -/
import Derived.Test.YtifmmfceihhhlaaDoorRead
namespace Go.Proofs.YtifmmfceihhhlaaDoor
open Go.RowKit

theorem comp_turn (r n r' n' : Int) : Dt.comp r' n' r n = -Dt.comp r n r' n' := by
  rcases Dt.comp_cases r n r' n' with ⟨h, e⟩ | ⟨h, h', e⟩ | ⟨h, e⟩ <;> rcases Dt.comp_cases r' n' r n with ⟨k, f⟩ | ⟨k, k', f⟩ | ⟨k, f⟩ <;> rw [e, f] <;> omega
theorem comp_on {r n r' n' r'' n'' : Int} (h : Dt.comp r n r' n' ≤ 0) (k : Dt.comp r' n' r'' n'' ≤ 0) : Dt.comp r n r'' n'' ≤ 0 := by
  rcases Dt.comp_cases r n r' n' with ⟨h1, e⟩ | ⟨h1, h', e⟩ | ⟨h1, e⟩ <;> rcases Dt.comp_cases r' n' r'' n'' with ⟨k1, f⟩ | ⟨k1, k', f⟩ | ⟨k1, f⟩ <;>
    rcases Dt.comp_cases r n r'' n'' with ⟨m, g⟩ | ⟨m, m', g⟩ | ⟨m, g⟩ <;> rw [e] at h <;> rw [f] at k <;> rw [g] <;> omega
theorem comp_bound (r n r' n' : Int) : -1 ≤ Dt.comp r n r' n' ∧ Dt.comp r n r' n' ≤ 1 := by
  rcases Dt.comp_cases r n r' n' with ⟨h, e⟩ | ⟨h, h', e⟩ | ⟨h, e⟩ <;> rw [e] <;> omega
theorem comp_zero (r n r' n' : Int) : Dt.comp r n r' n' = 0 ↔ r = r' ∧ n = n' := by
  rcases Dt.comp_cases r n r' n' with ⟨h, e⟩ | ⟨h, h', e⟩ | ⟨h, e⟩ <;> rw [e] <;> omega

theorem third_cells (w : World) (o p : Obj) (x y : Value) (t : TypeId) : (((w.alloc o).alloc p).alloc (.cells #[x, y] t)).cell? ⟨w.heap.size + 1 + 1, 0, none⟩ = some x ∧ (((w.alloc o).alloc p).alloc (.cells #[x, y] t)).cell? ⟨w.heap.size + 1 + 1, 1, none⟩ = some y := by
  have e : ((w.alloc o).alloc p).heap.size = w.heap.size + 1 + 1 := by simp
  rw [← e]
  generalize (w.alloc o).alloc p = V at *
  simp

set_option maxRecDepth 20000 in
set_option maxHeartbeats 1000000 in
theorem dotRow_walk (r1 n1 r2 n2 r3 n3 : Int) (w : World) (hk : Keeps w) :
    Calls Tryd.prog 7 #[dotV r1 n1, dotV r2 n2, dotV r3 n3] w fun e w' => e = .returned (.bool true) ∧ Below w.heap.size w w' := by
  have HAB : ∀ w, Calls Tryd.prog 14 #[dotV r1 n1, dotV r2 n2] w fun e w' => e = .returned (.int .i64 (Dt.comp r1 n1 r2 n2)) ∧ Below w.heap.size w w' := fun w => comp_any r1 n1 r2 n2 w
  have HBC : ∀ w, Calls Tryd.prog 14 #[dotV r2 n2, dotV r3 n3] w fun e w' => e = .returned (.int .i64 (Dt.comp r2 n2 r3 n3)) ∧ Below w.heap.size w w' := fun w => comp_any r2 n2 r3 n3 w
  have HAC : ∀ w, Calls Tryd.prog 14 #[dotV r1 n1, dotV r3 n3] w fun e w' => e = .returned (.int .i64 (Dt.comp r1 n1 r3 n3)) ∧ Below w.heap.size w w' := fun w => comp_any r1 n1 r3 n3 w
  have HBA : ∀ w, Calls Tryd.prog 14 #[dotV r2 n2, dotV r1 n1] w fun e w' => e = .returned (.int .i64 (-Dt.comp r1 n1 r2 n2)) ∧ Below w.heap.size w w' := fun w => by rw [← comp_turn]; exact comp_any r2 n2 r1 n1 w
  have hb := comp_bound r1 n1 r2 n2
  have hz := comp_zero r1 n1 r2 n2
  have hon : Dt.comp r1 n1 r2 n2 ≤ 0 → Dt.comp r2 n2 r3 n3 ≤ 0 → Dt.comp r1 n1 r3 n3 ≤ 0 := comp_on
  generalize Dt.comp r1 n1 r2 n2 = ab at *
  generalize Dt.comp r2 n2 r3 n3 = bc at *
  generalize Dt.comp r1 n1 r3 n3 = ac at *
  have hw : IntKind.i64.wrap (-ab) = -ab := wrap_i64 (by omega) (by omega)
  have t0 := third_cells w (.cells #[.int .i64 r1, .int .i64 n1] 23) (.cells #[.int .i64 r2, .int .i64 n2] 23) (.int .i64 r3) (.int .i64 n3) 23
  go_enter Tryd.func7, Tryd.ntmps7
  go_wp2_with fail
  go_region_held3 (fun w' => w'.cell? ⟨w.heap.size, 0, none⟩ = some (.int .i64 r1) ∧ w'.cell? ⟨w.heap.size, 1, none⟩ = some (.int .i64 n1) ∧ w'.cell? ⟨w.heap.size + 1, 0, none⟩ = some (.int .i64 r2) ∧ w'.cell? ⟨w.heap.size + 1, 1, none⟩ = some (.int .i64 n2)
      ∧ w'.cell? ⟨w.heap.size + 1 + 1, 0, none⟩ = some (.int .i64 r3) ∧ w'.cell? ⟨w.heap.size + 1 + 1, 1, none⟩ = some (.int .i64 n3))
    (first | go_keep | (refine ⟨keep_cell hb ?_, keep_cell hb ?_, keep_cell hb ?_, keep_cell hb ?_, keep_cell hb ?_, keep_cell hb ?_⟩ <;> go_keep))
    (first | (go_at_call_of 14 r1; first | (go_at_call_of 14 r2; refine (HAB _).mono ?_; rintro e w1 ⟨rfl, hb⟩; have hb1 := hb) | (go_at_call_of 14 r3; refine (HAC _).mono ?_; rintro e w3 ⟨rfl, hb⟩; have hb3 := hb)) | (go_at_call_of 14 r3; refine (HBC _).mono ?_; rintro e w2 ⟨rfl, hb⟩; have hb2 := hb))
  rename_i hH
  obtain ⟨q0, q1, q2, q3, _, _⟩ := hH
  have hball : Below w.heap.size w w3 := bchain (bchain (bchain (bchain (below_new2 _ _ _) (below_new _ _)).drew hb1) hb2) hb3
  have HK : Hid (Keeps w) := hk
  clear hb hb1 hb2 hb3 hk HAB HBC HAC t0
  go_wp2_with fail
  refine (HBA _).mono ?_
  rintro e w4 ⟨rfl, hb4⟩
  have q0' := keep_cell hb4 q0
  have q1' := keep_cell hb4 q1
  have q2' := keep_cell hb4 q2
  have q3' := keep_cell hb4 q3
  clear q0 q1 q2 q3 HBA
  have HA := awake_any w4 (HK.out.on (bchain hball hb4))
  by_cases h0 : ab = 0
  · obtain ⟨rfl, rfl⟩ := hz.1 h0
    subst h0
    clear hz
    go_wp2_with (go_at_call 18; refine HA.mono ?_; rintro e w5 ⟨rfl, hb5⟩)
    all_goals
      go_ret
      exact ⟨rfl, bchain (bchain hball hb4) hb5⟩
  · have hab : (ab == 0) = false := by simpa using h0
    by_cases hr : r1 = r2
    · subst hr
      have hn : (n1 == n2) = false := by rw [beq_eq_false_iff_ne]; intro e; exact h0 (hz.2 ⟨rfl, e⟩)
      clear hz h0
      by_cases h1 : 0 < ab
      · clear hon
        go_wp2_with (go_at_call 18; refine HA.mono ?_; rintro e w5 ⟨rfl, hb5⟩)
        all_goals
          go_ret
          exact ⟨rfl, bchain (bchain hball hb4) hb5⟩
      · have hon' : bc ≤ 0 → ac ≤ 0 := hon (by omega)
        clear hon
        go_wp2_with (go_at_call 18; refine HA.mono ?_; rintro e w5 ⟨rfl, hb5⟩)
        all_goals
          go_ret
          exact ⟨rfl, bchain (bchain hball hb4) hb5⟩
    · have hr' : (r1 == r2) = false := by rw [beq_eq_false_iff_ne]; exact hr
      clear hz h0 hr
      by_cases h1 : 0 < ab
      · clear hon
        go_wp2_with (go_at_call 18; refine HA.mono ?_; rintro e w5 ⟨rfl, hb5⟩)
        all_goals
          go_ret
          exact ⟨rfl, bchain (bchain hball hb4) hb5⟩
      · have hon' : bc ≤ 0 → ac ≤ 0 := hon (by omega)
        clear hon
        go_wp2_with (go_at_call 18; refine HA.mono ?_; rintro e w5 ⟨rfl, hb5⟩)
        all_goals
          go_ret
          exact ⟨rfl, bchain (bchain hball hb4) hb5⟩

end Go.Proofs.YtifmmfceihhhlaaDoor
