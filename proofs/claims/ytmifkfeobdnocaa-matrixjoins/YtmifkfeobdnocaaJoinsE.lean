/- The walk of the statement MatrixJoins: the replica is not among the first. -/
import Derived.Test.YtmifkfeobdnocaaHeldJ
namespace Go.Proofs.Ytmifkfeobdnocaa
open Go.RowKit
set_option linter.unusedVariables false

set_option maxRecDepth 20000 in
set_option maxHeartbeats 8000000 in
theorem joins_E (a b : List Int) (n i : Int) (ha : a.length = 256) (hb0 : b.length = 256) (hR : Mx.rights a 16 = true) (h1 : 1 ≤ n) (h2 : n ≤ 16) (h3 : 0 ≤ i) (h4 : n ≤ i) (w : World) : Calls Try.prog 6 #[vecV a, vecV b, .int .i64 n, .int .i64 i] w fun e w' => e = .returned (.bool true) ∧ Below w.heap.size w w' := by
  have hZ := Mx.joins_length (o := b) ha 16 (by omega)
  go_enter Try.func6, Try.ntmps6
  iterate 3 go_step
  refine take_box 24 a w.heap.size rfl rfl _ rfl (by kernel_rfl) ?_
  refine take_box 24 b (w.heap.size + 1) (by simp) rfl _ rfl (by kernel_rfl) ?_
  refine list_take (v := .bool false) (by kernel_rfl) (by kernel_rfl) ?_
  refine wpList_nil ?_
  simp only [Act.put, List.setIfInBounds_toArray, List.set_cons_zero, List.set_cons_succ]
  have h0 : HeldB w a b ((w.alloc (.cells (ints a).toArray 24)).alloc (.cells (ints b).toArray 24)) := ⟨(MatAt.new 24 w a).alloc _, MatAt.new' (by simp) 24 b, below_new2 _ _ _⟩
  have sz : (((w.alloc (.cells (ints a).toArray 24)).alloc (.cells (ints b).toArray 24))).heap.size = w.heap.size + 1 + 1 := by simp
  generalize ((w.alloc (.cells (ints a).toArray 24)).alloc (.cells (ints b).toArray 24)) = U at *
  go_wp2_with fail
  refine wp_region_held_drew (S := HeldB w a b) (by kernel_rfl) h0.drew (fun hH0 => ?_)
  refine held_take (i := 0) (o := { dst := some 14, op := Op.load 24 (Operand.tmp 4), type := 24, pos := "law.go:62", after := #[], guard := none }) (v := vecV a) (by kernel_rfl) (by kernel_rfl) (by kernel_rfl) (by kernel_rfl) (fun _ _ _ h => h) (by kernel_rfl) (fun _ h => exec_mat m24 rfl ha (by kernel_rfl) h.1) hH0 ?_
  refine held_take (i := 1) (o := { dst := some 15, op := Op.load 24 (Operand.tmp 5), type := 24, pos := "law.go:62", after := #[{ on := 4, ground := Ground.gcOnly Departure.lateStores }], guard := none }) (v := vecV b) (by kernel_rfl) (by kernel_rfl) (by kernel_rfl) (by kernel_rfl) (fun _ _ _ h => h) (by kernel_rfl) (fun _ h => exec_mat m24 rfl hb0 (by kernel_rfl) h.2.1) hH0 ?_
  refine held_news (i := 2) (j := 3) (o := { dst := some 9, op := Op.alloc 27, type := 0, pos := "law.go:62", after := #[], guard := none }) (o' := { dst := some 10, op := Op.alloc 27, type := 0, pos := "law.go:62", after := #[], guard := none }) (by kernel_rfl) (by kernel_rfl) rfl rfl (by kernel_rfl) (by kernel_rfl) (by kernel_rfl) (by kernel_rfl) (by kernel_rfl) (fun _ => by kernel_rfl) (fun _ => by kernel_rfl) (by kernel_rfl) (fun _ _ => by kernel_rfl) (fun _ hb => hH0.on hb) (fun c d U1 m1 m2 hcd hc hd hb => ?_)
  have hc2 : w.heap.size + 1 + 1 ≤ c := by rw [← sz]; exact hc
  have hd2 : w.heap.size + 1 + 1 ≤ d := by rw [← sz]; exact hd
  have g1 := (hH0.on hb).row hc2 (ints a).toArray
  refine held_storeM (i := 4) (o := { dst := none, op := Op.store 27 (Operand.tmp 9) (Operand.tmp 14), type := 0, pos := "law.go:62", after := #[{ on := 2, ground := Ground.data }, { on := 0, ground := Ground.data }, { on := 0, ground := Ground.phase }, { on := 1, ground := Ground.textOnly Departure.lateStores }, { on := 2, ground := Ground.phase }, { on := 3, ground := Ground.phase }], guard := none }) (by kernel_rfl) (by kernel_rfl) (by kernel_rfl) _ _ rfl c a zeros ha zeros_length (by kernel_rfl) (by kernel_rfl) m1 g1 ?_
  have g2 := g1.row hd2 (ints b).toArray
  refine held_storeM (i := 5) (o := { dst := none, op := Op.store 27 (Operand.tmp 10) (Operand.tmp 15), type := 0, pos := "law.go:62", after := #[{ on := 3, ground := Ground.data }, { on := 1, ground := Ground.data }, { on := 4, ground := Ground.chain }, { on := 0, ground := Ground.phase }, { on := 1, ground := Ground.phase }, { on := 2, ground := Ground.phase }, { on := 3, ground := Ground.phase }, { on := 4, ground := Ground.phase }], guard := none }) (by kernel_rfl) (by kernel_rfl) (by kernel_rfl) _ _ rfl d b zeros hb0 zeros_length (by kernel_rfl) (by kernel_rfl) (m2.other_row (by omega) _) g2 ?_
  have fc := (m1.row a).other_row (c := d) hcd (ints b).toArray
  have fd := (m2.other_row (c := c) (by omega) (ints a).toArray).row b
  refine wpAnyH_done (by kernel_rfl) ?_ _
  simp only [Act.put, List.setIfInBounds_toArray, List.set_cons_zero, List.set_cons_succ]
  clear h0 sz hH0 hc hd hb g1 m1 m2
  generalize (U1.setRow c (ints a).toArray).setRow d (ints b).toArray = U2 at *
  iterate 4 go_step
  refine load_mat m27 rfl _ rfl c a ha (by kernel_rfl) fc ?_
  refine load_mat m27 rfl _ rfl d b hb0 (by kernel_rfl) fd ?_
  simp only [Act.put, List.setIfInBounds_toArray, List.set_cons_zero, List.set_cons_succ]
  refine list_call (F := 19) (vs := #[vecV a, vecV b]) (v := vecV (Mx.joins a b 16)) (by kernel_rfl) (fun _ => by kernel_rfl) (joins_any a b ha hb0) (fun v1 hb1 => ?_)
  refine take_new27 v1.heap.size rfl rfl rfl ?_
  refine store_mat m27 rfl _ _ rfl v1.heap.size (Mx.joins a b 16) zeros hZ zeros_length (by kernel_rfl) (by kernel_rfl) (MatAt.new 27 v1 zeros) ?_
  have hlt1 := (fc.on hb1).lt
  have hlt2 := (fd.on hb1).lt
  have hlt3 := ((g2.on hb1).1).lt
  have hlt4 := ((g2.on hb1).2.1).lt
  have hS : HeldJ w a b c d v1.heap.size (Mx.joins a b 16) ((v1.alloc (.cells (ints zeros).toArray 27)).setRow v1.heap.size (ints (Mx.joins a b 16)).toArray) :=
    ⟨((g2.on hb1).1.alloc _).other_row (by omega) _, ((g2.on hb1).2.1.alloc _).other_row (by omega) _, ((fc.on hb1).alloc _).other_row (by omega) _, ((fd.on hb1).alloc _).other_row (by omega) _, (MatAt.new 27 v1 zeros).row _, below_setRow (bchain (g2.on hb1).2.2 (below_new _ _)) (by omega) _⟩
  refine wpList_nil ?_
  simp only [Act.put, List.setIfInBounds_toArray, List.set_cons_zero, List.set_cons_succ]
  clear hlt1 hlt2 hlt3 hlt4 g2 fc fd hb1 hc2 hd2 hcd
  have J1 := joins_any b a hb0 ha
  rw [← Mx.joins_turn ha hb0] at J1
  have J2 := joins_any (Mx.joins a b 16) a hZ ha
  rw [Mx.joins_again ha hb0] at J2
  have J3 := row_any (Mx.joins a b 16) hZ
  have J4 : ∀ k : Nat, k < 16 → Mx.rowOf (Mx.joins a b 16) k = Vc.join (Mx.row a k) (Mx.row b k) := fun k hk => by rw [Mx.rowOf_in hk, Mx.joins_all ha hk]
  generalize (v1.alloc (.cells (ints zeros).toArray 27)).setRow v1.heap.size (ints (Mx.joins a b 16)).toArray = U3 at *
  generalize v1.heap.size = e at *
  generalize Mx.joins a b 16 = Z at *
  go_wp2_with fail
  refine wp_region_held_drew (S := HeldJ w a b c d e Z) (by kernel_rfl) (hS.drew) (fun hH0 => ?_)
  refine held_take (i := 0) (o := { dst := some 19, op := Op.load 27 (Operand.tmp 11), type := 27, pos := "law.go:64", after := #[], guard := none }) (v := vecV Z) (by kernel_rfl) (by kernel_rfl) (by kernel_rfl) (by kernel_rfl) (fun _ _ _ h => h) (by kernel_rfl) (fun _ h => exec_mat m27 rfl hZ (by kernel_rfl) h.2.2.2.2.1) hH0 ?_
  refine held_take (i := 1) (o := { dst := some 20, op := Op.load 27 (Operand.tmp 10), type := 27, pos := "law.go:64", after := #[], guard := none }) (v := vecV b) (by kernel_rfl) (by kernel_rfl) (by kernel_rfl) (by kernel_rfl) (fun _ _ _ h => h) (by kernel_rfl) (fun _ h => exec_mat m27 rfl hb0 (by kernel_rfl) h.2.2.2.1) hH0 ?_
  refine held_take (i := 2) (o := { dst := some 21, op := Op.load 27 (Operand.tmp 9), type := 27, pos := "law.go:64", after := #[], guard := none }) (v := vecV a) (by kernel_rfl) (by kernel_rfl) (by kernel_rfl) (by kernel_rfl) (fun _ _ _ h => h) (by kernel_rfl) (fun _ h => exec_mat m27 rfl ha (by kernel_rfl) h.2.2.1) hH0 ?_
  refine held_call (i := 3) (o := { dst := some 22, op := Op.call { callee := Callee.value (Operand.func 19), args := #[Operand.tmp 20, Operand.tmp 21], argTypes := #[27, 27] }, type := 27, pos := "law.go:64", after := #[{ on := 1, ground := Ground.data }, { on := 2, ground := Ground.data }], guard := none }) (F := 19) (vs := #[vecV b, vecV a]) (v := vecV Z) (by kernel_rfl) (by kernel_rfl) (by kernel_rfl) (fun _ => by kernel_rfl) (J1) (fun _ hb => hH0.on hb) (fun w1 hH1 => ?_)
  clear hH0
  refine held_take (i := 4) (o := { dst := some 23, op := Op.binOp BinOp.neq 27 (Operand.tmp 19) (Operand.tmp 22) 27, type := 4, pos := "law.go:64", after := #[{ on := 0, ground := Ground.data }, { on := 3, ground := Ground.data }], guard := none }) (v := .bool false) (by kernel_rfl) (by kernel_rfl) (by kernel_rfl) (by kernel_rfl) (fun _ _ _ h => h) (by kernel_rfl) (fun W _ => exec_bin rfl (by kernel_rfl) (by kernel_rfl) (fun _ => by kernel_rfl) (neqm m27 hZ hZ rfl) W) hH1 ?_
  refine held_take (i := 5) (o := { dst := some 24, op := Op.move (Operand.tmp 23), type := 4, pos := "law.go:64", after := #[{ on := 4, ground := Ground.data }, { on := 3, ground := Ground.chain }], guard := none }) (v := .bool false) (by kernel_rfl) (by kernel_rfl) (by kernel_rfl) (by kernel_rfl) (fun _ _ _ h => h) (by kernel_rfl) (fun _ _ => by kernel_rfl) hH1 ?_
  refine held_take (i := 6) (o := { dst := some 25, op := Op.load 27 (Operand.tmp 11), type := 27, pos := "law.go:64", after := #[{ on := 5, ground := Ground.guard }], guard := some (5, false) }) (v := vecV Z) (by kernel_rfl) (by kernel_rfl) (by kernel_rfl) (by kernel_rfl) (fun _ _ _ h => h) (by kernel_rfl) (fun _ h => exec_mat m27 rfl hZ (by kernel_rfl) h.2.2.2.2.1) hH1 ?_
  refine held_take (i := 7) (o := { dst := some 26, op := Op.load 27 (Operand.tmp 9), type := 27, pos := "law.go:64", after := #[{ on := 5, ground := Ground.guard }], guard := some (5, false) }) (v := vecV a) (by kernel_rfl) (by kernel_rfl) (by kernel_rfl) (by kernel_rfl) (fun _ _ _ h => h) (by kernel_rfl) (fun _ h => exec_mat m27 rfl ha (by kernel_rfl) h.2.2.1) hH1 ?_
  refine held_take (i := 9) (o := { dst := some 28, op := Op.load 27 (Operand.tmp 11), type := 27, pos := "law.go:64", after := #[{ on := 5, ground := Ground.guard }], guard := some (5, false) }) (v := vecV Z) (by kernel_rfl) (by kernel_rfl) (by kernel_rfl) (by kernel_rfl) (fun _ _ _ h => h) (by kernel_rfl) (fun _ h => exec_mat m27 rfl hZ (by kernel_rfl) h.2.2.2.2.1) hH1 ?_
  refine held_call (i := 8) (o := { dst := some 27, op := Op.call { callee := Callee.value (Operand.func 19), args := #[Operand.tmp 25, Operand.tmp 26], argTypes := #[27, 27] }, type := 27, pos := "law.go:64", after := #[{ on := 6, ground := Ground.data }, { on := 7, ground := Ground.data }, { on := 5, ground := Ground.chain }, { on := 5, ground := Ground.guard }], guard := some (5, false) }) (F := 19) (vs := #[vecV Z, vecV a]) (v := vecV Z) (by kernel_rfl) (by kernel_rfl) (by kernel_rfl) (fun _ => by kernel_rfl) (J2) (fun _ hb => hH1.on hb) (fun w2 hH2 => ?_)
  clear hH1
  refine held_take (i := 10) (o := { dst := some 29, op := Op.binOp BinOp.neq 27 (Operand.tmp 27) (Operand.tmp 28) 27, type := 4, pos := "law.go:64", after := #[{ on := 8, ground := Ground.data }, { on := 9, ground := Ground.data }, { on := 5, ground := Ground.guard }], guard := some (5, false) }) (v := .bool false) (by kernel_rfl) (by kernel_rfl) (by kernel_rfl) (by kernel_rfl) (fun _ _ _ h => h) (by kernel_rfl) (fun W _ => exec_bin rfl (by kernel_rfl) (by kernel_rfl) (fun _ => by kernel_rfl) (neqm m27 hZ hZ rfl) W) hH2 ?_
  refine held_take (i := 11) (o := { dst := some 30, op := Op.pick (Operand.tmp 24) (Operand.const (Value.bool true)) (Operand.tmp 29), type := 4, pos := "law.go:64", after := #[{ on := 5, ground := Ground.data }, { on := 10, ground := Ground.data }], guard := none }) (v := .bool false) (by kernel_rfl) (by kernel_rfl) (by kernel_rfl) (by kernel_rfl) (fun _ _ _ h => h) (by kernel_rfl) (fun _ _ => by kernel_rfl) hH2 ?_
  refine wpAnyH_done (by kernel_rfl) ?_ _
  simp only [Act.put, List.setIfInBounds_toArray, List.set_cons_zero, List.set_cons_succ]
  replace hS := hH2
  clear J1 J2
  go_wp2
  go_loopw [12] (fun i wr => ∃ k : Nat, k ≤ 16 ∧ i = .int .i64 k ∧ HeldJ w a b c d e Z wr) (fun i _ => 16 - (intOf i).toNat)
  case atStart => exact ⟨0, by omega, rfl, hS⟩
  case round =>
    clear hS
    obtain ⟨k, hk, rfl, hS⟩ := hrel
    by_cases hlt : k < 16
    · have J5 := J3 (k : Int)
      have J6 := ref_join_vec (Mx.row a k) (Mx.row b k) (Mx.row_length ha hlt) (Mx.row_length hb0 hlt)
      rw [← J4 k hlt] at J6
      have hG := Mx.rowOf_length (i := (k : Int)) hZ
      generalize Mx.rowOf Z (k : Int) = G at *
      go_wp2_with fail
      refine wp_region_held_drew (S := HeldJ w a b c d e Z) (by kernel_rfl) (hS.drew) (fun hH0 => ?_)
      refine held_take (i := 0) (o := { dst := some 35, op := Op.load 27 (Operand.tmp 11), type := 27, pos := "law.go:68", after := #[], guard := none }) (v := vecV Z) (by kernel_rfl) (by kernel_rfl) (by kernel_rfl) (by kernel_rfl) (fun _ _ _ h => h) (by kernel_rfl) (fun _ h => exec_mat m27 rfl hZ (by kernel_rfl) h.2.2.2.2.1) hH0 ?_
      refine held_take (i := 1) (o := { dst := some 36, op := Op.move (Operand.tmp 12), type := 3, pos := "law.go:68", after := #[], guard := none }) (v := .int .i64 (k : Int)) (by kernel_rfl) (by kernel_rfl) (by kernel_rfl) (by kernel_rfl) (fun _ _ _ h => h) (by kernel_rfl) (fun _ _ => by kernel_rfl) hH0 ?_
      refine held_take (i := 3) (o := { dst := some 38, op := Op.move (Operand.tmp 12), type := 3, pos := "law.go:68", after := #[], guard := none }) (v := .int .i64 (k : Int)) (by kernel_rfl) (by kernel_rfl) (by kernel_rfl) (by kernel_rfl) (fun _ _ _ h => h) (by kernel_rfl) (fun _ _ => by kernel_rfl) hH0 ?_
      refine held_take (i := 4) (o := { dst := some 39, op := Op.indexAddr 24 (Operand.tmp 4) (Operand.tmp 38), type := 0, pos := "law.go:68", after := #[{ on := 3, ground := Ground.data }], guard := none }) (v := .pointer (some ⟨w.heap.size, k * 16, none⟩)) (by kernel_rfl) (by kernel_rfl) (by kernel_rfl) (by kernel_rfl) (fun _ _ _ h => h) (by kernel_rfl) (fun W _ => exec_rowAt m24 rfl (by kernel_rfl) (by kernel_rfl) hlt W) hH0 ?_
      refine held_take (i := 5) (o := { dst := some 40, op := Op.load 23 (Operand.tmp 39), type := 23, pos := "law.go:68", after := #[{ on := 4, ground := Ground.data }], guard := none }) (v := vecV (Mx.row a k)) (by kernel_rfl) (by kernel_rfl) (by kernel_rfl) (by kernel_rfl) (fun _ _ _ h => h) (by kernel_rfl) (fun _ h => exec_row rfl ha hlt (by kernel_rfl) h.1) hH0 ?_
      refine held_take (i := 6) (o := { dst := some 41, op := Op.move (Operand.tmp 12), type := 3, pos := "law.go:68", after := #[], guard := none }) (v := .int .i64 (k : Int)) (by kernel_rfl) (by kernel_rfl) (by kernel_rfl) (by kernel_rfl) (fun _ _ _ h => h) (by kernel_rfl) (fun _ _ => by kernel_rfl) hH0 ?_
      refine held_take (i := 7) (o := { dst := some 42, op := Op.indexAddr 24 (Operand.tmp 5) (Operand.tmp 41), type := 0, pos := "law.go:68", after := #[{ on := 6, ground := Ground.data }], guard := none }) (v := .pointer (some ⟨w.heap.size + 1, k * 16, none⟩)) (by kernel_rfl) (by kernel_rfl) (by kernel_rfl) (by kernel_rfl) (fun _ _ _ h => h) (by kernel_rfl) (fun W _ => exec_rowAt m24 rfl (by kernel_rfl) (by kernel_rfl) hlt W) hH0 ?_
      refine held_take (i := 8) (o := { dst := some 43, op := Op.load 23 (Operand.tmp 42), type := 23, pos := "law.go:68", after := #[{ on := 7, ground := Ground.data }], guard := none }) (v := vecV (Mx.row b k)) (by kernel_rfl) (by kernel_rfl) (by kernel_rfl) (by kernel_rfl) (fun _ _ _ h => h) (by kernel_rfl) (fun _ h => exec_row rfl hb0 hlt (by kernel_rfl) h.2.1) hH0 ?_
      refine held_call (i := 2) (o := { dst := some 37, op := Op.call { callee := Callee.value (Operand.func 9), args := #[Operand.tmp 35, Operand.tmp 36], argTypes := #[27, 3] }, type := 23, pos := "law.go:68", after := #[{ on := 0, ground := Ground.data }, { on := 1, ground := Ground.data }], guard := none }) (F := 9) (vs := #[vecV Z, .int .i64 (k : Int)]) (v := vecV G) (by kernel_rfl) (by kernel_rfl) (by kernel_rfl) (fun _ => by kernel_rfl) (J5) (fun _ hb => hH0.on hb) (fun w1 hH1 => ?_)
      clear hH0
      refine held_call (i := 9) (o := { dst := some 44, op := Op.call { callee := Callee.value (Operand.func 20), args := #[Operand.tmp 40, Operand.tmp 43], argTypes := #[23, 23] }, type := 23, pos := "law.go:68", after := #[{ on := 5, ground := Ground.data }, { on := 8, ground := Ground.data }, { on := 2, ground := Ground.chain }], guard := none }) (F := 20) (vs := #[vecV (Mx.row a k), vecV (Mx.row b k)]) (v := vecV G) (by kernel_rfl) (by kernel_rfl) (by kernel_rfl) (fun _ => by kernel_rfl) (J6) (fun _ hb => hH1.on hb) (fun w2 hH2 => ?_)
      clear hH1
      refine held_take (i := 10) (o := { dst := some 45, op := Op.binOp BinOp.neq 23 (Operand.tmp 37) (Operand.tmp 44) 23, type := 4, pos := "law.go:68", after := #[{ on := 2, ground := Ground.data }, { on := 9, ground := Ground.data }], guard := none }) (v := .bool false) (by kernel_rfl) (by kernel_rfl) (by kernel_rfl) (by kernel_rfl) (fun _ _ _ h => h) (by kernel_rfl) (fun W _ => exec_bin rfl (by kernel_rfl) (by kernel_rfl) (fun _ => by kernel_rfl) (neqv hG hG rfl) W) hH2 ?_
      refine wpAnyH_done (by kernel_rfl) ?_ _
      simp only [Act.put, List.setIfInBounds_toArray, List.set_cons_zero, List.set_cons_succ]
      go_wp2
      go_roundw
      case rel => exact ⟨k + 1, by omega, by go_num, hH2⟩
      case measure => simp [intOf]; omega
    · obtain rfl : k = 16 := by omega
      have H14 := rights_any a ha
      rw [hR] at H14
      clear J3 J4
      iterate 4 go_step
      refine list_take (v := .int .i64 16) (by kernel_rfl) (by kernel_rfl) ?_
      refine list_take (v := .bool false) (by kernel_rfl) (exec_bin rfl (by kernel_rfl) (by kernel_rfl) (fun _ => by kernel_rfl) (lssb_not (a := 16) (b := 16) (by omega)) _) ?_
      refine wpList_nil ?_
      simp only [Act.put, List.setIfInBounds_toArray, List.set_cons_zero, List.set_cons_succ]
      iterate 11 go_step
      refine list_take (v := vecV a) (by kernel_rfl) (exec_mat m24 rfl ha (by kernel_rfl) hS.1) ?_
      simp only [Act.put, List.setIfInBounds_toArray, List.set_cons_zero, List.set_cons_succ]
      refine list_call (F := 14) (vs := #[vecV a]) (v := .bool true) (by kernel_rfl) (fun _ => by kernel_rfl) (H14) (fun v1 hb1 => ?_)
      have hP1 := hS.on hb1
      simp only [Act.put, List.setIfInBounds_toArray, List.set_cons_zero, List.set_cons_succ]
      refine list_take (v := .bool false) (by kernel_rfl) (exec_un rfl (by kernel_rfl) (not_of true) _) ?_
      simp only [Act.put, List.setIfInBounds_toArray, List.set_cons_zero, List.set_cons_succ]
      refine list_take (v := .bool false) (by kernel_rfl) (by kernel_rfl) ?_
      simp only [Act.put, List.setIfInBounds_toArray, List.set_cons_zero, List.set_cons_succ]
      refine list_take (v := .int .i64 n) (by kernel_rfl) (by kernel_rfl) ?_
      simp only [Act.put, List.setIfInBounds_toArray, List.set_cons_zero, List.set_cons_succ]
      refine list_take (v := .bool false) (by kernel_rfl) (exec_bin rfl (by kernel_rfl) (by kernel_rfl) (fun _ => by kernel_rfl) (lssb_not (a := n) (b := 1) (by omega)) _) ?_
      simp only [Act.put, List.setIfInBounds_toArray, List.set_cons_zero, List.set_cons_succ]
      refine list_take (v := .bool false) (by kernel_rfl) (by kernel_rfl) ?_
      simp only [Act.put, List.setIfInBounds_toArray, List.set_cons_zero, List.set_cons_succ]
      refine list_take (v := .bool false) (by kernel_rfl) (by kernel_rfl) ?_
      simp only [Act.put, List.setIfInBounds_toArray, List.set_cons_zero, List.set_cons_succ]
      refine list_take (v := .int .i64 n) (by kernel_rfl) (by kernel_rfl) ?_
      simp only [Act.put, List.setIfInBounds_toArray, List.set_cons_zero, List.set_cons_succ]
      refine list_take (v := .bool false) (by kernel_rfl) (exec_bin rfl (by kernel_rfl) (by kernel_rfl) (fun _ => by kernel_rfl) (gtrb_not (a := n) (b := 16) (by omega)) _) ?_
      simp only [Act.put, List.setIfInBounds_toArray, List.set_cons_zero, List.set_cons_succ]
      refine list_take (v := .bool false) (by kernel_rfl) (by kernel_rfl) ?_
      simp only [Act.put, List.setIfInBounds_toArray, List.set_cons_zero, List.set_cons_succ]
      refine list_take (v := .bool false) (by kernel_rfl) (by kernel_rfl) ?_
      simp only [Act.put, List.setIfInBounds_toArray, List.set_cons_zero, List.set_cons_succ]
      refine list_take (v := .int .i64 i) (by kernel_rfl) (by kernel_rfl) ?_
      simp only [Act.put, List.setIfInBounds_toArray, List.set_cons_zero, List.set_cons_succ]
      refine list_take (v := .bool false) (by kernel_rfl) (exec_bin rfl (by kernel_rfl) (by kernel_rfl) (fun _ => by kernel_rfl) (lssb_not (a := i) (b := 0) (by omega)) _) ?_
      simp only [Act.put, List.setIfInBounds_toArray, List.set_cons_zero, List.set_cons_succ]
      refine list_take (v := .bool false) (by kernel_rfl) (by kernel_rfl) ?_
      simp only [Act.put, List.setIfInBounds_toArray, List.set_cons_zero, List.set_cons_succ]
      refine list_take (v := .bool false) (by kernel_rfl) (by kernel_rfl) ?_
      simp only [Act.put, List.setIfInBounds_toArray, List.set_cons_zero, List.set_cons_succ]
      refine list_take (v := .int .i64 i) (by kernel_rfl) (by kernel_rfl) ?_
      simp only [Act.put, List.setIfInBounds_toArray, List.set_cons_zero, List.set_cons_succ]
      refine list_take (v := .int .i64 n) (by kernel_rfl) (by kernel_rfl) ?_
      simp only [Act.put, List.setIfInBounds_toArray, List.set_cons_zero, List.set_cons_succ]
      refine list_take (v := .bool true) (by kernel_rfl) (exec_bin rfl (by kernel_rfl) (by kernel_rfl) (fun _ => by kernel_rfl) (geq_yes (a := i) (b := n) (by omega)) _) ?_
      simp only [Act.put, List.setIfInBounds_toArray, List.set_cons_zero, List.set_cons_succ]
      refine list_take (v := .bool true) (by kernel_rfl) (by kernel_rfl) ?_
      simp only [Act.put, List.setIfInBounds_toArray, List.set_cons_zero, List.set_cons_succ]
      refine list_take (v := .bool true) (by kernel_rfl) (by kernel_rfl) ?_
      simp only [Act.put, List.setIfInBounds_toArray, List.set_cons_zero, List.set_cons_succ]
      refine wpList_skip (by kernel_rfl) ?_
      simp only [Act.put, List.setIfInBounds_toArray, List.set_cons_zero, List.set_cons_succ]
      refine wpList_skip (by kernel_rfl) ?_
      simp only [Act.put, List.setIfInBounds_toArray, List.set_cons_zero, List.set_cons_succ]
      refine wpList_skip (by kernel_rfl) ?_
      simp only [Act.put, List.setIfInBounds_toArray, List.set_cons_zero, List.set_cons_succ]
      refine wpList_skip (by kernel_rfl) ?_
      simp only [Act.put, List.setIfInBounds_toArray, List.set_cons_zero, List.set_cons_succ]
      refine wpList_skip (by kernel_rfl) ?_
      simp only [Act.put, List.setIfInBounds_toArray, List.set_cons_zero, List.set_cons_succ]
      refine list_take (v := .bool true) (by kernel_rfl) (by kernel_rfl) ?_
      simp only [Act.put, List.setIfInBounds_toArray, List.set_cons_zero, List.set_cons_succ]
      refine wpList_nil ?_
      have hQ := hP1
      go_wp2_with (go_at_call 17; refine (awake_any _).mono ?_; rintro e v9 ⟨rfl, hb9⟩)
      go_ret
      exact ⟨rfl, bchain hQ.2.2.2.2.2 hb9⟩

end Go.Proofs.Ytmifkfeobdnocaa
