/- The walk of the statement MatrixStable. -/
import Derived.Test.YtmifkfeobdnocaaAwake
namespace Go.Proofs.Ytmifkfeobdnocaa
open Go.RowKit
set_option linter.unusedVariables false

/-- What stands through the walk: a matrix, a dot, the matrix as the program's. -/
abbrev Held3 (w : World) (m : List Int) (r d : Int) (w' : World) : Prop := MatAt 24 w' w.heap.size m ∧ Dots w (w.heap.size + 1) r d w' ∧ MatAt 27 w' (w.heap.size + 1 + 1) m
theorem Held3.on {w W w1 : World} {m : List Int} {r d : Int} (h : Held3 w m r d W) (hb : Below W.heap.size W w1) : Held3 w m r d w1 := ⟨h.1.on hb, h.2.1.on hb, h.2.2.on hb⟩
theorem Held3.drew {w W : World} {m : List Int} {r d : Int} (h : Held3 w m r d W) : Held3 w m r d W.drew := ⟨h.1.drew, ⟨h.2.1.1, h.2.1.2.1, h.2.1.2.2.drew⟩, h.2.2.drew⟩
theorem dots_row {w W : World} {e c : Nat} {r d : Int} (h : Dots w e r d W) (hb : e ≠ c) (hB : w.heap.size ≤ c) (cs : Array Value) : Dots w e r d (W.setRow c cs) := by
  have hk : ∀ k, (W.setRow c cs).cell? ⟨e, k, none⟩ = W.cell? ⟨e, k, none⟩ := fun k => by
    unfold World.cell?
    rw [setRow_other W c e cs hb]
  exact ⟨(hk 0).trans h.1, (hk 1).trans h.2.1, below_setRow h.2.2 hB _⟩

set_option maxRecDepth 20000 in
set_option maxHeartbeats 4000000 in
theorem stable_walk_lo (m : List Int) (hm : m.length = 256) (n : Int) (hn : n < 1) (r d : Int) (w : World) : Calls Try.prog 5 #[vecV m, .int .i64 n, dotV r d] w fun e w' => e = .returned (.bool true) ∧ Below w.heap.size w w' := by
  have k0 := newMatDot 24 w m r d
  have h2 : MatAt 27 (((w.alloc (.cells (ints m).toArray 24)).alloc (.cells #[.int .i64 r, .int .i64 d] 26)).alloc (.cells (ints zeros).toArray 27)) (w.heap.size + 1 + 1) zeros := MatAt.new' (by simp) 27 zeros
  have g0 : MatAt 24 ((w.alloc (.cells (ints m).toArray 24)).alloc (.cells #[.int .i64 r, .int .i64 d] 26)) w.heap.size m := k0.1
  have hS : Held3 w m r d ((((w.alloc (.cells (ints m).toArray 24)).alloc (.cells #[.int .i64 r, .int .i64 d] 26)).alloc (.cells (ints zeros).toArray 27)).setRow (w.heap.size + 1 + 1) (ints m).toArray) := by
    have k1 := k0.on (below_new _ (.cells (ints zeros).toArray 27))
    exact ⟨k1.1.other_row (by omega) _, dots_row k1.2 (by omega) (by omega) _, h2.row m⟩
  clear k0
  have HST := stable_any m hm n r d
  rw [Mx.stable_out r d (by omega)] at HST
  have hz := zero27
  go_enter Try.func5, Try.ntmps5
  go_wp2_with (first | (refine load_mat m24 rfl _ rfl w.heap.size m hm rfl g0 ?_) | (refine store_mat m27 rfl _ _ rfl (w.heap.size + 1 + 1) m zeros hm zeros_length rfl rfl h2 ?_))
  clear hz h2 g0
  go_loopw [8, 9] (fun s i wr => s = .bool false ∧ i = .int .i64 0 ∧ Held3 w m r d wr) (fun _ _ _ => 0)
  case atStart => exact ⟨rfl, rfl, hS⟩
  case round =>
    clear hS
    obtain ⟨rfl, rfl, hS⟩ := hrel
    have hn' : ¬ (0 : Int) < n := by omega
    have hD0 := hS.2.1.1
    have hD1 := hS.2.1.2.1
    have hM := hS.2.2
    have hE := eqb_same false
    go_wp2_with (first | (refine load_mat m27 rfl _ rfl (w.heap.size + 1 + 1) m hm rfl hM ?_) | (go_at_call 12; refine (HST _).mono ?_; rintro e w1 ⟨rfl, hb1⟩) | (go_at_call 17; refine (awake_any _).mono ?_; rintro e w2 ⟨rfl, hb2⟩))
    go_ret
    exact ⟨rfl, bchain (bchain hS.2.1.2.2 hb1) hb2⟩

set_option maxRecDepth 20000 in
set_option maxHeartbeats 4000000 in
theorem stable_walk_hi (m : List Int) (hm : m.length = 256) (n : Int) (hn : 16 < n) (r d : Int) (w : World) : Calls Try.prog 5 #[vecV m, .int .i64 n, dotV r d] w fun e w' => e = .returned (.bool true) ∧ Below w.heap.size w w' := by
  have k0 := newMatDot 24 w m r d
  have h2 : MatAt 27 (((w.alloc (.cells (ints m).toArray 24)).alloc (.cells #[.int .i64 r, .int .i64 d] 26)).alloc (.cells (ints zeros).toArray 27)) (w.heap.size + 1 + 1) zeros := MatAt.new' (by simp) 27 zeros
  have g0 : MatAt 24 ((w.alloc (.cells (ints m).toArray 24)).alloc (.cells #[.int .i64 r, .int .i64 d] 26)) w.heap.size m := k0.1
  have hS : Held3 w m r d ((((w.alloc (.cells (ints m).toArray 24)).alloc (.cells #[.int .i64 r, .int .i64 d] 26)).alloc (.cells (ints zeros).toArray 27)).setRow (w.heap.size + 1 + 1) (ints m).toArray) := by
    have k1 := k0.on (below_new _ (.cells (ints zeros).toArray 27))
    exact ⟨k1.1.other_row (by omega) _, dots_row k1.2 (by omega) (by omega) _, h2.row m⟩
  clear k0
  have HST := stable_any m hm n r d
  rw [Mx.stable_out r d (by omega)] at HST
  have hn1 : 1 ≤ n := by omega
  have hz := zero27
  go_enter Try.func5, Try.ntmps5
  go_wp2_with (first | (refine load_mat m24 rfl _ rfl w.heap.size m hm rfl g0 ?_) | (refine store_mat m27 rfl _ _ rfl (w.heap.size + 1 + 1) m zeros hm zeros_length rfl rfl h2 ?_))
  clear hz h2 g0
  go_loopw [8, 9] (fun s i wr => ∃ k : Nat, k ≤ 16 ∧ s = .bool false ∧ i = .int .i64 k ∧ Held3 w m r d wr) (fun _ i _ => 16 - (intOf i).toNat)
  case atStart => exact ⟨0, by omega, by rw [decide_eq_false (show ¬ n ≤ 16 by omega)], rfl, hS⟩
  case round =>
    clear hS
    obtain ⟨k, hk, rfl, rfl, hS⟩ := hrel
    by_cases hlt : k < 16
    · have hkn : (k : Int) < n := by omega
      go_wp2_with fail
      refine wp_region_held_drew (S := Held3 w m r d) (by kernel_rfl) (hS.drew) (fun hH0 => ?_)
      refine held_take (i := 0) (o := { dst := some 26, op := Op.move (Operand.tmp 8), type := 4, pos := "law.go:55", after := #[], guard := none }) (v := .bool false) (by kernel_rfl) (by kernel_rfl) (by kernel_rfl) (by kernel_rfl) (fun _ _ _ h => h) (by kernel_rfl) (fun _ _ => by kernel_rfl) hH0 ?_
      refine held_take (i := 1) (o := { dst := some 27, op := Op.move (Operand.tmp 26), type := 4, pos := "law.go:55", after := #[{ on := 0, ground := Ground.data }], guard := none }) (v := .bool false) (by kernel_rfl) (by kernel_rfl) (by kernel_rfl) (by kernel_rfl) (fun _ _ _ h => h) (by kernel_rfl) (fun _ _ => by kernel_rfl) hH0 ?_
      refine held_skip (i := 2) (o := { dst := some 28, op := Op.move (Operand.tmp 9), type := 3, pos := "law.go:55", after := #[{ on := 1, ground := Ground.guard }], guard := some (1, true) }) (by kernel_rfl) (by kernel_rfl) (by kernel_rfl) (by kernel_rfl) (fun _ _ _ h => h) (by kernel_rfl) hH0 ?_
      refine held_skip (i := 3) (o := { dst := some 29, op := Op.indexAddr 24 (Operand.tmp 3) (Operand.tmp 28), type := 0, pos := "law.go:55", after := #[{ on := 2, ground := Ground.data }, { on := 1, ground := Ground.guard }], guard := some (1, true) }) (by kernel_rfl) (by kernel_rfl) (by kernel_rfl) (by kernel_rfl) (fun _ _ _ h => h) (by kernel_rfl) hH0 ?_
      refine held_skip (i := 4) (o := { dst := some 30, op := Op.load 23 (Operand.tmp 29), type := 23, pos := "law.go:55", after := #[{ on := 3, ground := Ground.data }, { on := 1, ground := Ground.guard }], guard := some (1, true) }) (by kernel_rfl) (by kernel_rfl) (by kernel_rfl) (by kernel_rfl) (fun _ _ _ h => h) (by kernel_rfl) hH0 ?_
      refine held_skip (i := 5) (o := { dst := some 31, op := Op.load 26 (Operand.tmp 5), type := 26, pos := "law.go:55", after := #[{ on := 1, ground := Ground.guard }], guard := some (1, true) }) (by kernel_rfl) (by kernel_rfl) (by kernel_rfl) (by kernel_rfl) (fun _ _ _ h => h) (by kernel_rfl) hH0 ?_
      refine held_skip (i := 6) (o := { dst := some 32, op := Op.call { callee := Callee.value (Operand.func 13), args := #[Operand.tmp 30, Operand.tmp 31], argTypes := #[23, 26] }, type := 4, pos := "law.go:55", after := #[{ on := 4, ground := Ground.data }, { on := 5, ground := Ground.data }, { on := 1, ground := Ground.chain }, { on := 1, ground := Ground.guard }], guard := some (1, true) }) (by kernel_rfl) (by kernel_rfl) (by kernel_rfl) (by kernel_rfl) (fun _ _ _ h => h) (by kernel_rfl) hH0 ?_
      refine held_take (i := 7) (o := { dst := some 33, op := Op.pick (Operand.tmp 27) (Operand.tmp 32) (Operand.const (Value.bool false)), type := 4, pos := "law.go:55", after := #[{ on := 1, ground := Ground.data }, { on := 6, ground := Ground.data }], guard := none }) (v := .bool false) (by kernel_rfl) (by kernel_rfl) (by kernel_rfl) (by kernel_rfl) (fun _ _ _ h => h) (by kernel_rfl) (fun _ _ => by kernel_rfl) hH0 ?_
      refine held_do (i := 8) (o := { dst := some 8, op := Op.assign (Operand.tmp 33), type := 4, pos := "law.go:55", after := #[{ on := 7, ground := Ground.data }, { on := 6, ground := Ground.chain }, { on := 0, ground := Ground.phase }, { on := 1, ground := Ground.phase }, { on := 2, ground := Ground.phase }, { on := 3, ground := Ground.phase }, { on := 4, ground := Ground.phase }, { on := 5, ground := Ground.phase }, { on := 6, ground := Ground.phase }, { on := 7, ground := Ground.phase }], guard := none }) (v := .bool false) (by kernel_rfl) (by kernel_rfl) (by kernel_rfl) (by kernel_rfl) hH0 ?_
      refine wpAnyH_done (by kernel_rfl) ?_ _
      simp only [Act.put, List.setIfInBounds_toArray, List.set_cons_zero, List.set_cons_succ]
      go_wp2
      go_roundw
      case rel => exact ⟨k + 1, by omega, rfl, by go_num, hH0⟩
      case measure => simp [intOf]; omega
    · obtain rfl : k = 16 := by omega
      have hD0 := hS.2.1.1
      have hD1 := hS.2.1.2.1
      have hM := hS.2.2
      have hE := eqb_same false
      go_wp2_with (first | (refine load_mat m27 rfl _ rfl (w.heap.size + 1 + 1) m hm rfl hM ?_) | (go_at_call 12; refine (HST _).mono ?_; rintro e w1 ⟨rfl, hb1⟩) | (go_at_call 17; refine (awake_any _).mono ?_; rintro e w2 ⟨rfl, hb2⟩))
      go_ret
      exact ⟨rfl, bchain (bchain hS.2.1.2.2 hb1) hb2⟩

set_option maxRecDepth 20000 in
set_option maxHeartbeats 4000000 in
theorem stable_walk_mid (m : List Int) (hm : m.length = 256) (p : Nat) (hp1 : 1 ≤ p) (hp : p ≤ 16) (r d : Int) (w : World) : Calls Try.prog 5 #[vecV m, .int .i64 (p : Int), dotV r d] w fun e w' => e = .returned (.bool true) ∧ Below w.heap.size w w' := by
  have k0 := newMatDot 24 w m r d
  have h2 : MatAt 27 (((w.alloc (.cells (ints m).toArray 24)).alloc (.cells #[.int .i64 r, .int .i64 d] 26)).alloc (.cells (ints zeros).toArray 27)) (w.heap.size + 1 + 1) zeros := MatAt.new' (by simp) 27 zeros
  have g0 : MatAt 24 ((w.alloc (.cells (ints m).toArray 24)).alloc (.cells #[.int .i64 r, .int .i64 d] 26)) w.heap.size m := k0.1
  have hS : Held3 w m r d ((((w.alloc (.cells (ints m).toArray 24)).alloc (.cells #[.int .i64 r, .int .i64 d] 26)).alloc (.cells (ints zeros).toArray 27)).setRow (w.heap.size + 1 + 1) (ints m).toArray) := by
    have k1 := k0.on (below_new _ (.cells (ints zeros).toArray 27))
    exact ⟨k1.1.other_row (by omega) _, dots_row k1.2 (by omega) (by omega) _, h2.row m⟩
  clear k0
  have HST := stable_any m hm (p : Int) r d
  rw [Mx.stable_in hm r d hp1 hp] at HST
  have a1 : (1 : Int) ≤ (p : Int) := by omega
  have a2 : (p : Int) ≤ 16 := by omega
  have hz := zero27
  go_enter Try.func5, Try.ntmps5
  go_wp2_with (first | (refine load_mat m24 rfl _ rfl w.heap.size m hm rfl g0 ?_) | (refine store_mat m27 rfl _ _ rfl (w.heap.size + 1 + 1) m zeros hm zeros_length rfl rfl h2 ?_))
  clear hz h2 g0
  go_loopw [8, 9] (fun s i wr => ∃ k : Nat, k ≤ p ∧ s = .bool (Mx.allHave m r d k) ∧ i = .int .i64 k ∧ Held3 w m r d wr) (fun _ i _ => p - (intOf i).toNat)
  case atStart => exact ⟨0, by omega, rfl, rfl, hS⟩
  case round =>
    clear hS
    obtain ⟨k, hk, rfl, rfl, hS⟩ := hrel
    by_cases hkp : k < p
    · have hkn : (k : Int) < (p : Int) := by omega
      have hlt : k < 16 := by omega
      have HA : Hid (Mx.allHave m r d (k + 1) = (Mx.allHave m r d k && Vc.has (Mx.row m k) r d)) := by
        have h : Mx.allHave m r d (k + 1) = (Mx.allHave m r d k && Vc.has (Mx.row m k) r d) := rfl
        exact h
      have HR := refHas_vec (Mx.row m k) (Mx.row_length hm hlt) r d
      cases hb : Mx.allHave m r d k
      · rw [hb] at HA
        clear hb
        go_wp2_with fail
        refine wp_region_held_drew (S := Held3 w m r d) (by kernel_rfl) (hS.drew) (fun hH0 => ?_)
        refine held_take (i := 0) (o := { dst := some 26, op := Op.move (Operand.tmp 8), type := 4, pos := "law.go:55", after := #[], guard := none }) (v := .bool false) (by kernel_rfl) (by kernel_rfl) (by kernel_rfl) (by kernel_rfl) (fun _ _ _ h => h) (by kernel_rfl) (fun _ _ => by kernel_rfl) hH0 ?_
        refine held_take (i := 1) (o := { dst := some 27, op := Op.move (Operand.tmp 26), type := 4, pos := "law.go:55", after := #[{ on := 0, ground := Ground.data }], guard := none }) (v := .bool false) (by kernel_rfl) (by kernel_rfl) (by kernel_rfl) (by kernel_rfl) (fun _ _ _ h => h) (by kernel_rfl) (fun _ _ => by kernel_rfl) hH0 ?_
        refine held_skip (i := 2) (o := { dst := some 28, op := Op.move (Operand.tmp 9), type := 3, pos := "law.go:55", after := #[{ on := 1, ground := Ground.guard }], guard := some (1, true) }) (by kernel_rfl) (by kernel_rfl) (by kernel_rfl) (by kernel_rfl) (fun _ _ _ h => h) (by kernel_rfl) hH0 ?_
        refine held_skip (i := 3) (o := { dst := some 29, op := Op.indexAddr 24 (Operand.tmp 3) (Operand.tmp 28), type := 0, pos := "law.go:55", after := #[{ on := 2, ground := Ground.data }, { on := 1, ground := Ground.guard }], guard := some (1, true) }) (by kernel_rfl) (by kernel_rfl) (by kernel_rfl) (by kernel_rfl) (fun _ _ _ h => h) (by kernel_rfl) hH0 ?_
        refine held_skip (i := 4) (o := { dst := some 30, op := Op.load 23 (Operand.tmp 29), type := 23, pos := "law.go:55", after := #[{ on := 3, ground := Ground.data }, { on := 1, ground := Ground.guard }], guard := some (1, true) }) (by kernel_rfl) (by kernel_rfl) (by kernel_rfl) (by kernel_rfl) (fun _ _ _ h => h) (by kernel_rfl) hH0 ?_
        refine held_skip (i := 5) (o := { dst := some 31, op := Op.load 26 (Operand.tmp 5), type := 26, pos := "law.go:55", after := #[{ on := 1, ground := Ground.guard }], guard := some (1, true) }) (by kernel_rfl) (by kernel_rfl) (by kernel_rfl) (by kernel_rfl) (fun _ _ _ h => h) (by kernel_rfl) hH0 ?_
        refine held_skip (i := 6) (o := { dst := some 32, op := Op.call { callee := Callee.value (Operand.func 13), args := #[Operand.tmp 30, Operand.tmp 31], argTypes := #[23, 26] }, type := 4, pos := "law.go:55", after := #[{ on := 4, ground := Ground.data }, { on := 5, ground := Ground.data }, { on := 1, ground := Ground.chain }, { on := 1, ground := Ground.guard }], guard := some (1, true) }) (by kernel_rfl) (by kernel_rfl) (by kernel_rfl) (by kernel_rfl) (fun _ _ _ h => h) (by kernel_rfl) hH0 ?_
        refine held_take (i := 7) (o := { dst := some 33, op := Op.pick (Operand.tmp 27) (Operand.tmp 32) (Operand.const (Value.bool false)), type := 4, pos := "law.go:55", after := #[{ on := 1, ground := Ground.data }, { on := 6, ground := Ground.data }], guard := none }) (v := .bool false) (by kernel_rfl) (by kernel_rfl) (by kernel_rfl) (by kernel_rfl) (fun _ _ _ h => h) (by kernel_rfl) (fun _ _ => by kernel_rfl) hH0 ?_
        refine held_do (i := 8) (o := { dst := some 8, op := Op.assign (Operand.tmp 33), type := 4, pos := "law.go:55", after := #[{ on := 7, ground := Ground.data }, { on := 6, ground := Ground.chain }, { on := 0, ground := Ground.phase }, { on := 1, ground := Ground.phase }, { on := 2, ground := Ground.phase }, { on := 3, ground := Ground.phase }, { on := 4, ground := Ground.phase }, { on := 5, ground := Ground.phase }, { on := 6, ground := Ground.phase }, { on := 7, ground := Ground.phase }], guard := none }) (v := .bool false) (by kernel_rfl) (by kernel_rfl) (by kernel_rfl) (by kernel_rfl) hH0 ?_
        refine wpAnyH_done (by kernel_rfl) ?_ _
        simp only [Act.put, List.setIfInBounds_toArray, List.set_cons_zero, List.set_cons_succ]
        go_wp2
        go_roundw
        case rel => exact ⟨k + 1, by omega, by rw [HA.out, Bool.false_and], by go_num, hH0⟩
        case measure => simp [intOf]; omega
      · rw [hb] at HA
        clear hb
        go_wp2_with fail
        refine wp_region_held_drew (S := Held3 w m r d) (by kernel_rfl) (hS.drew) (fun hH0 => ?_)
        refine held_take (i := 0) (o := { dst := some 26, op := Op.move (Operand.tmp 8), type := 4, pos := "law.go:55", after := #[], guard := none }) (v := .bool true) (by kernel_rfl) (by kernel_rfl) (by kernel_rfl) (by kernel_rfl) (fun _ _ _ h => h) (by kernel_rfl) (fun _ _ => by kernel_rfl) hH0 ?_
        refine held_take (i := 1) (o := { dst := some 27, op := Op.move (Operand.tmp 26), type := 4, pos := "law.go:55", after := #[{ on := 0, ground := Ground.data }], guard := none }) (v := .bool true) (by kernel_rfl) (by kernel_rfl) (by kernel_rfl) (by kernel_rfl) (fun _ _ _ h => h) (by kernel_rfl) (fun _ _ => by kernel_rfl) hH0 ?_
        refine held_take (i := 2) (o := { dst := some 28, op := Op.move (Operand.tmp 9), type := 3, pos := "law.go:55", after := #[{ on := 1, ground := Ground.guard }], guard := some (1, true) }) (v := .int .i64 (k : Int)) (by kernel_rfl) (by kernel_rfl) (by kernel_rfl) (by kernel_rfl) (fun _ _ _ h => h) (by kernel_rfl) (fun _ _ => by kernel_rfl) hH0 ?_
        refine held_take (i := 3) (o := { dst := some 29, op := Op.indexAddr 24 (Operand.tmp 3) (Operand.tmp 28), type := 0, pos := "law.go:55", after := #[{ on := 2, ground := Ground.data }, { on := 1, ground := Ground.guard }], guard := some (1, true) }) (v := .pointer (some ⟨w.heap.size, k * 16, none⟩)) (by kernel_rfl) (by kernel_rfl) (by kernel_rfl) (by kernel_rfl) (fun _ _ _ h => h) (by kernel_rfl) (fun W _ => exec_rowAt m24 rfl (by kernel_rfl) (by kernel_rfl) hlt W) hH0 ?_
        refine held_take (i := 4) (o := { dst := some 30, op := Op.load 23 (Operand.tmp 29), type := 23, pos := "law.go:55", after := #[{ on := 3, ground := Ground.data }, { on := 1, ground := Ground.guard }], guard := some (1, true) }) (v := vecV (Mx.row m k)) (by kernel_rfl) (by kernel_rfl) (by kernel_rfl) (by kernel_rfl) (fun _ _ _ h => h) (by kernel_rfl) (fun _ h => exec_row rfl hm hlt (by kernel_rfl) h.1) hH0 ?_
        refine held_take (i := 5) (o := { dst := some 31, op := Op.load 26 (Operand.tmp 5), type := 26, pos := "law.go:55", after := #[{ on := 1, ground := Ground.guard }], guard := some (1, true) }) (v := dotV r d) (by kernel_rfl) (by kernel_rfl) (by kernel_rfl) (by kernel_rfl) (fun _ _ _ h => h) (by kernel_rfl) (fun _ h => exec_dot rfl (by kernel_rfl) h.2.1.1 h.2.1.2.1) hH0 ?_
        refine held_call (i := 6) (o := { dst := some 32, op := Op.call { callee := Callee.value (Operand.func 13), args := #[Operand.tmp 30, Operand.tmp 31], argTypes := #[23, 26] }, type := 4, pos := "law.go:55", after := #[{ on := 4, ground := Ground.data }, { on := 5, ground := Ground.data }, { on := 1, ground := Ground.chain }, { on := 1, ground := Ground.guard }], guard := some (1, true) }) (F := 13) (vs := #[vecV (Mx.row m k), dotV r d]) (v := .bool (Vc.has (Mx.row m k) r d)) (by kernel_rfl) (by kernel_rfl) (by kernel_rfl) (fun _ => by kernel_rfl) (HR) (fun _ hb => hH0.on hb) (fun w1 hH1 => ?_)
        clear hH0
        refine held_take (i := 7) (o := { dst := some 33, op := Op.pick (Operand.tmp 27) (Operand.tmp 32) (Operand.const (Value.bool false)), type := 4, pos := "law.go:55", after := #[{ on := 1, ground := Ground.data }, { on := 6, ground := Ground.data }], guard := none }) (v := .bool (Vc.has (Mx.row m k) r d)) (by kernel_rfl) (by kernel_rfl) (by kernel_rfl) (by kernel_rfl) (fun _ _ _ h => h) (by kernel_rfl) (fun _ _ => by kernel_rfl) hH1 ?_
        refine held_do (i := 8) (o := { dst := some 8, op := Op.assign (Operand.tmp 33), type := 4, pos := "law.go:55", after := #[{ on := 7, ground := Ground.data }, { on := 6, ground := Ground.chain }, { on := 0, ground := Ground.phase }, { on := 1, ground := Ground.phase }, { on := 2, ground := Ground.phase }, { on := 3, ground := Ground.phase }, { on := 4, ground := Ground.phase }, { on := 5, ground := Ground.phase }, { on := 6, ground := Ground.phase }, { on := 7, ground := Ground.phase }], guard := none }) (v := .bool (Vc.has (Mx.row m k) r d)) (by kernel_rfl) (by kernel_rfl) (by kernel_rfl) (by kernel_rfl) hH1 ?_
        refine wpAnyH_done (by kernel_rfl) ?_ _
        simp only [Act.put, List.setIfInBounds_toArray, List.set_cons_zero, List.set_cons_succ]
        go_wp2
        go_roundw
        case rel => exact ⟨k + 1, by omega, by rw [HA.out, Bool.true_and], by go_num, hH1⟩
        case measure => simp [intOf]; omega
    · obtain rfl : k = p := by omega
      clear hkp hk
      generalize Mx.allHave m r d k = X at *
      by_cases h16 : k < 16
      · have hkn : ¬ (k : Int) < (k : Int) := by omega
        have hD0 := hS.2.1.1
        have hD1 := hS.2.1.2.1
        have hM := hS.2.2
        have hE := eqb_same X
        go_wp2_with (first | (refine load_mat m27 rfl _ rfl (w.heap.size + 1 + 1) m hm rfl hM ?_) | (go_at_call 12; refine (HST _).mono ?_; rintro e w1 ⟨rfl, hb1⟩) | (go_at_call 17; refine (awake_any _).mono ?_; rintro e w2 ⟨rfl, hb2⟩))
        go_ret
        exact ⟨rfl, bchain (bchain hS.2.1.2.2 hb1) hb2⟩
      · obtain rfl : k = 16 := by omega
        have hD0 := hS.2.1.1
        have hD1 := hS.2.1.2.1
        have hM := hS.2.2
        have hE := eqb_same X
        go_wp2_with (first | (refine load_mat m27 rfl _ rfl (w.heap.size + 1 + 1) m hm rfl hM ?_) | (go_at_call 12; refine (HST _).mono ?_; rintro e w1 ⟨rfl, hb1⟩) | (go_at_call 17; refine (awake_any _).mono ?_; rintro e w2 ⟨rfl, hb2⟩))
        go_ret
        exact ⟨rfl, bchain (bchain hS.2.1.2.2 hb1) hb2⟩

theorem matrixStable_walk (m : List Int) (n r d : Int) (hm : m.length = 256) (w : World) : Calls Try.prog 5 #[vecV m, .int .i64 n, dotV r d] w fun e w' => e = .returned (.bool true) ∧ Below w.heap.size w w' := by
  by_cases h1 : n < 1
  · exact stable_walk_lo m hm n h1 r d w
  · by_cases h2 : 16 < n
    · exact stable_walk_hi m hm n h2 r d w
    · obtain ⟨p, rfl⟩ : ∃ p : Nat, n = (p : Int) := ⟨n.toNat, by omega⟩
      exact stable_walk_mid m hm p (by omega) (by omega) r d w
end Go.Proofs.Ytmifkfeobdnocaa
