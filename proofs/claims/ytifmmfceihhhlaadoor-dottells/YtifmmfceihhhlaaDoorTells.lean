/- The walk of DotTells' function. -/
import Derived.Test.YtifmmfceihhhlaaDoorRead
namespace Go.Proofs.YtifmmfceihhhlaaDoor
open Go.RowKit

/-- Cells of the third and of the fourth of four new blocks. -/
theorem new3 (w : World) (o p : Obj) (x y z : Value) (t : TypeId) : (((w.alloc o).alloc p).alloc (.cells #[x, y, z] t)).cell? ⟨w.heap.size + 1 + 1, 0, none⟩ = some x
    ∧ (((w.alloc o).alloc p).alloc (.cells #[x, y, z] t)).cell? ⟨w.heap.size + 1 + 1, 1, none⟩ = some y ∧ (((w.alloc o).alloc p).alloc (.cells #[x, y, z] t)).cell? ⟨w.heap.size + 1 + 1, 2, none⟩ = some z := by
  have e : ((w.alloc o).alloc p).heap.size = w.heap.size + 1 + 1 := by simp
  rw [← e]
  generalize (w.alloc o).alloc p = V at *
  simp
theorem new4 (w : World) (o p q : Obj) (x y z : Value) (t : TypeId) : ((((w.alloc o).alloc p).alloc q).alloc (.cells #[x, y, z] t)).cell? ⟨w.heap.size + 1 + 1 + 1, 0, none⟩ = some x
    ∧ ((((w.alloc o).alloc p).alloc q).alloc (.cells #[x, y, z] t)).cell? ⟨w.heap.size + 1 + 1 + 1, 1, none⟩ = some y ∧ ((((w.alloc o).alloc p).alloc q).alloc (.cells #[x, y, z] t)).cell? ⟨w.heap.size + 1 + 1 + 1, 2, none⟩ = some z := by
  have e : (((w.alloc o).alloc p).alloc q).heap.size = w.heap.size + 1 + 1 + 1 := by simp
  rw [← e]
  generalize ((w.alloc o).alloc p).alloc q = V at *
  simp

set_option maxRecDepth 20000 in
set_option maxHeartbeats 4000000 in
theorem dotTells_walk (r1 n1 r2 n2 a b c d e f : Int) (w : World) (hk : Keeps w) (h0 : -9223372036854775808 ≤ r1) (h1 : r1 ≤ 9223372036854775807) (h2 : -9223372036854775808 ≤ n1) (h3 : n1 ≤ 9223372036854775807) :
    Calls Tryd.prog 3 #[dotV r1 n1, dotV r2 n2, refV a b c, refV d e f] w fun e w' => e = .returned (.bool true) ∧ Below w.heap.size w w' := by
  have H8 : ∀ w, Calls Tryd.prog 8 #[dotV r1 n1] w fun e w' => e = .returned (.bool (Dt.right r1 n1)) ∧ Below w.heap.size w w' := fun w => right_any r1 n1 w
  have H9 : ∀ w, Calls Tryd.prog 9 #[dotV r1 n1] w fun e w' => e = .returned (.bool (Dt.right r1 n1)) ∧ Below w.heap.size w w' := fun w => refRight_any r1 n1 w
  have H10 : ∀ w, Keeps w → Calls Tryd.prog 10 #[dotV r1 n1] w fun e w' => e = .returned (.string ⟨(Dt.text r1 n1).toArray⟩) ∧ Below w.heap.size w w' := fun w hk => text_any r1 n1 w hk h0 h1 h2 h3
  have H11 : ∀ w, Calls Tryd.prog 11 #[dotV r1 n1] w fun e w' => e = .returned (.string ⟨(Dt.text r1 n1).toArray⟩) ∧ Below w.heap.size w w' := fun w => refText_any r1 n1 w h0 h1 h2 h3
  have H12 : ∀ w, Calls Tryd.prog 12 #[dotV r1 n1] w fun e w' => e = .returned (.string ⟨(codeL r1 n1).toArray⟩) ∧ Below w.heap.size w w' := fun w => code_any r1 n1 w h0 h1 h2 h3
  have H13 : ∀ w, Calls Tryd.prog 13 #[dotV r1 n1] w fun e w' => e = .returned (.string ⟨(codeL r1 n1).toArray⟩) ∧ Below w.heap.size w w' := fun w => refCode_any r1 n1 w h0 h1 h2 h3
  clear h0 h1 h2 h3
  have t3 := new3 w (.cells #[.int .i64 r1, .int .i64 n1] 23) (.cells #[.int .i64 r2, .int .i64 n2] 23) (.int .i64 a) (.int .i64 b) (.int .i64 c) 25
  have t4 := new4 w (.cells #[.int .i64 r1, .int .i64 n1] 23) (.cells #[.int .i64 r2, .int .i64 n2] 23) (.cells #[.int .i64 a, .int .i64 b, .int .i64 c] 25) (.int .i64 d) (.int .i64 e) (.int .i64 f) 25
  have hB : Below w.heap.size w ((((w.alloc (.cells #[.int .i64 r1, .int .i64 n1] 23)).alloc (.cells #[.int .i64 r2, .int .i64 n2] 23)).alloc (.cells #[.int .i64 a, .int .i64 b, .int .i64 c] 25)).alloc (.cells #[.int .i64 d, .int .i64 e, .int .i64 f] 25)).drew :=
    (bchain (bchain (below_new2 _ _ _) (below_new _ _)) (below_new _ _)).drew
  have hk0 := hk.on hB
  go_enter Tryd.func3, Tryd.ntmps3
  go_wp2_with fail
  go_region_held3 (fun w' => w'.cell? ⟨w.heap.size, 0, none⟩ = some (.int .i64 r1) ∧ w'.cell? ⟨w.heap.size, 1, none⟩ = some (.int .i64 n1) ∧ w'.cell? ⟨w.heap.size + 1, 0, none⟩ = some (.int .i64 r2) ∧ w'.cell? ⟨w.heap.size + 1, 1, none⟩ = some (.int .i64 n2)
      ∧ w'.cell? ⟨w.heap.size + 1 + 1, 0, none⟩ = some (.int .i64 a) ∧ w'.cell? ⟨w.heap.size + 1 + 1, 1, none⟩ = some (.int .i64 b) ∧ w'.cell? ⟨w.heap.size + 1 + 1, 2, none⟩ = some (.int .i64 c)
      ∧ w'.cell? ⟨w.heap.size + 1 + 1 + 1, 0, none⟩ = some (.int .i64 d) ∧ w'.cell? ⟨w.heap.size + 1 + 1 + 1, 1, none⟩ = some (.int .i64 e) ∧ w'.cell? ⟨w.heap.size + 1 + 1 + 1, 2, none⟩ = some (.int .i64 f) ∧ Keeps w' ∧ Below w.heap.size w w')
    (first | go_keep | (refine ⟨keep_cell hb ?_, keep_cell hb ?_, keep_cell hb ?_, keep_cell hb ?_, keep_cell hb ?_, keep_cell hb ?_, keep_cell hb ?_, keep_cell hb ?_, keep_cell hb ?_, keep_cell hb ?_, Keeps.on ?_ hb, bchain ?_ hb⟩ <;> go_keep))
    (first
      | (go_at_call 8; refine (H8 _).mono ?_; rintro e w1 ⟨rfl, hb⟩)
      | (go_at_call 9; refine (H9 _).mono ?_; rintro e w1 ⟨rfl, hb⟩)
      | (go_at_call 10; refine (H10 _ ?_).mono ?_; (go_keep); rintro e w1 ⟨rfl, hb⟩)
      | (go_at_call 11; refine (H11 _).mono ?_; rintro e w1 ⟨rfl, hb⟩)
      | (go_at_call 12; refine (H12 _).mono ?_; rintro e w1 ⟨rfl, hb⟩)
      | (go_at_call 13; refine (H13 _).mono ?_; rintro e w1 ⟨rfl, hb⟩)
      | (go_at_call 14; refine (comp_any _ _ _ _ _).mono ?_; rintro e w1 ⟨rfl, hb⟩)
      | (go_at_call 15; refine (refComp_any _ _ _ _ _).mono ?_; rintro e w1 ⟨rfl, hb⟩)
      | (go_at_call 16; refine (refs_any _ _ _ _ _ _ _).mono ?_; rintro e w1 ⟨rfl, hb⟩)
      | (go_at_call 17; refine (refRefs_any _ _ _ _ _ _ _).mono ?_; rintro e w1 ⟨rfl, hb⟩)
      | (go_at_call 18; refine (awake_any _ ?_).mono ?_; (go_keep); rintro e w1 ⟨rfl, hb⟩))
  rename_i hH
  obtain ⟨_, _, _, _, _, _, _, _, _, _, _, hBel⟩ := hH
  go_wp2
  go_ret
  exact ⟨rfl, hBel⟩
end Go.Proofs.YtifmmfceihhhlaaDoor
