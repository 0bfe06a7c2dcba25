/- The walks of the document's own functions: is a vector right, the join, the meet, is one within another. -/
import Derived.Test.YtmifkfeobdnocaaHas
namespace Go.Proofs.Ytmifkfeobdnocaa
open Go.RowKit

theorem VecAt.new' {V : World} {n : Nat} (h : V.heap.size = n) (l : List Int) : VecAt (V.alloc (.cells (ints l).toArray 23)) n l := by subst h; exact VecAt.new V l
theorem VecAt.other_row {w : World} {b c : Nat} {l : List Int} (h : VecAt w b l) (hb : b ≠ c) (cs : Array Value) : VecAt (w.setRow c cs) b l := (setRow_other w c b cs hb).trans h
theorem gtrb {a b : Int} (h : b < a) (w : World) : (binOp .gtr 3 (.int .i64 a) (.int .i64 b)).run Try.prog w = .ok (.bool true) w := by go_simp
theorem gtrb_not {a b : Int} (h : a ≤ b) (w : World) : (binOp .gtr 3 (.int .i64 a) (.int .i64 b)).run Try.prog w = .ok (.bool false) w := by go_simp
theorem lssb {a b : Int} (h : a < b) (w : World) : (binOp .lss 3 (.int .i64 a) (.int .i64 b)).run Try.prog w = .ok (.bool true) w := by go_simp
theorem lssb_not {a b : Int} (h : b ≤ a) (w : World) : (binOp .lss 3 (.int .i64 a) (.int .i64 b)).run Try.prog w = .ok (.bool false) w := by go_simp
theorem upto_stay (f : Nat → Int → Int) (l : List Int) (k : Nat) (h : k < l.length) (hf : f k (l.getD k 0) = l.getD k 0) : Vc.upto f l (k + 1) = Vc.upto f l k := by
  rw [← Vc.upto_step f l k h, hf]
  apply List.ext_getElem
  · simp
  · intro i h1 h2
    rw [List.getElem_set]
    split
    · rename_i e
      subst e
      have hk : k < (Vc.upto f l k).length := h2
      have : (Vc.upto f l k)[k] = l[k] := by
        simp only [Vc.upto, List.getElem_append, List.length_take, List.length_mapIdx]
        rw [dif_neg (by omega)]
        simp only [List.getElem_drop]
        congr 1
        omega
      rw [this]
      simp [List.getD, h]
    · rfl

set_option maxRecDepth 20000 in
set_option maxHeartbeats 1000000 in
theorem refRight_vec (l : List Int) (hl : l.length = 16) (w : World) : Calls Try.prog 27 #[vecV l] w fun e w' => e = .returned (.bool (Vc.right l)) ∧ Below w.heap.size w w' := by
  have h0 := VecAt.new w l
  have hB : Hid (Below w.heap.size w (w.alloc (.cells (ints l).toArray 23))) := below_new w (.cells (ints l).toArray 23)
  go_enter Try.func27, Try.ntmps27
  go_wp2
  generalize w.alloc (.cells (ints l).toArray 23) = W at *
  go_loop [3] (fun i => ∃ k : Nat, k ≤ 16 ∧ i = .int .i64 k ∧ Hid (∀ j, j < k → 0 ≤ l.getD j 0 ∧ l.getD j 0 ≤ 1048576)) (fun i => 16 - (intOf i).toNat)
  case atStart => exact ⟨0, by omega, rfl, fun j hj => by omega⟩
  case round =>
    obtain ⟨k, hk, rfl, HA⟩ := hrel
    by_cases hlt : k < 16
    · have hc := h0.cell (k := k) (by omega)
      obtain ⟨x, hx⟩ : ∃ x, l.getD k 0 = x := ⟨_, rfl⟩
      rw [hx] at hc
      have HX : Hid (l.getD k 0 = x) := hx
      clear hx h0
      by_cases h1 : x < 0
      · have HR : Hid (Vc.right l = false) := by
          have h : Vc.right l = false := by rw [Bool.eq_false_iff]; intro h; have := Vc.right_iff.1 h k (by omega); rw [HX.out] at this; omega
          exact h
        clear hl
        have hd : decide (x < 0) = true := decide_eq_true h1
        go_wp2
        go_ret
        exact ⟨by rw [HR.out]; rfl, hB.out⟩
      · by_cases h2 : 1048576 < x
        · have HR : Hid (Vc.right l = false) := by
            have h : Vc.right l = false := by rw [Bool.eq_false_iff]; intro h; have := Vc.right_iff.1 h k (by omega); rw [HX.out] at this; omega
            exact h
          clear hl
          have hd : decide (x < 0) = false := decide_eq_false h1
          go_wp2
          go_ret
          exact ⟨by rw [HR.out]; rfl, hB.out⟩
        · have hd : decide (x < 0) = false := decide_eq_false h1
          clear hl
          go_wp2
          go_round
          case rel => exact ⟨k + 1, by omega, by go_num, fun j hj => by
            by_cases e : j = k
            · subst e; rw [HX.out]; omega
            · exact HA.out j (by omega)⟩
          case measure => first | (simp [intOf]; done) | (simp [intOf]; omega)
    · have HR : Hid (Vc.right l = true) := by
        have h : Vc.right l = true := Vc.right_iff.2 fun j hj => HA.out j (by omega)
        exact h
      clear hl h0
      go_wp2
      go_ret
      exact ⟨by rw [HR.out]; rfl, hB.out⟩

set_option maxRecDepth 20000 in
set_option maxHeartbeats 1000000 in
theorem refWithin_vec (l m : List Int) (hl : l.length = 16) (hm : m.length = 16) (w : World) : Calls Try.prog 18 #[vecV l, vecV m] w fun e w' => e = .returned (.bool (Vc.within l m)) ∧ Below w.heap.size w w' := by
  obtain ⟨h0, h1, hB⟩ := new2 w l m
  go_enter Try.func18, Try.ntmps18
  go_wp2
  go_loopw [5] (fun i wr => ∃ k : Nat, k ≤ 16 ∧ i = .int .i64 k ∧ Hid (∀ j, j < k → l.getD j 0 ≤ m.getD j 0) ∧ VecAt wr w.heap.size l ∧ VecAt wr (w.heap.size + 1) m ∧ Below w.heap.size w wr) (fun i _ => 16 - (intOf i).toNat)
  case atStart => exact ⟨0, by omega, rfl, fun j hj => by omega, h0, h1, hB⟩
  case round =>
    clear h0 h1 hB
    obtain ⟨k, hk, rfl, HA, h0, h1, hB⟩ := hrel
    by_cases hlt : k < 16
    · have hc := h0.cell (k := k) (by omega)
      have hd := h1.cell (k := k) (by omega)
      obtain ⟨x, hx⟩ : ∃ x, l.getD k 0 = x := ⟨_, rfl⟩
      obtain ⟨y, hy⟩ : ∃ y, m.getD k 0 = y := ⟨_, rfl⟩
      rw [hx] at hc
      rw [hy] at hd
      have HX : Hid (l.getD k 0 = x ∧ m.getD k 0 = y) := ⟨hx, hy⟩
      clear hx hy
      by_cases hxy : y < x
      · have HR : Hid (Vc.within l m = false) := by
          have h : Vc.within l m = false := by rw [Bool.eq_false_iff]; intro h; have := Vc.within_iff.1 h k (by omega); rw [HX.out.1, HX.out.2] at this; omega
          exact h
        clear hl hm h0 h1
        go_wp2_with fail
        refine wp_region_held_drew (S := fun w' => w'.cell? ⟨w.heap.size, k, none⟩ = some (.int .i64 x) ∧ w'.cell? ⟨w.heap.size + 1, k, none⟩ = some (.int .i64 y)) (by kernel_rfl) (⟨hc, hd⟩) (fun hH0 => ?_)
        refine held_take (i := 0) (o := { dst := some 10, op := Op.move (Operand.tmp 5), type := 3, pos := "ref.go:48", after := #[], guard := none }) (v := .int .i64 (k : Int)) (by kernel_rfl) (by kernel_rfl) (by kernel_rfl) (by kernel_rfl) (fun _ _ _ h => h) (by kernel_rfl) (fun _ _ => by kernel_rfl) hH0 ?_
        refine held_take (i := 1) (o := { dst := some 11, op := Op.indexAddr 23 (Operand.tmp 2) (Operand.tmp 10), type := 0, pos := "ref.go:48", after := #[{ on := 0, ground := Ground.data }], guard := none }) (v := .pointer (some ⟨w.heap.size, k, none⟩)) (by kernel_rfl) (by kernel_rfl) (by kernel_rfl) (by kernel_rfl) (fun _ _ _ h => h) (by kernel_rfl) (fun W _ => exec_at rfl (by kernel_rfl) (by kernel_rfl) hlt W) hH0 ?_
        refine held_take (i := 2) (o := { dst := some 12, op := Op.load 3 (Operand.tmp 11), type := 3, pos := "ref.go:48", after := #[{ on := 1, ground := Ground.data }], guard := none }) (v := .int .i64 x) (by kernel_rfl) (by kernel_rfl) (by kernel_rfl) (by kernel_rfl) (fun _ _ _ h => h) (by kernel_rfl) (fun _ h => exec_int rfl (by kernel_rfl) (h.1)) hH0 ?_
        refine held_take (i := 3) (o := { dst := some 13, op := Op.move (Operand.tmp 5), type := 3, pos := "ref.go:48", after := #[], guard := none }) (v := .int .i64 (k : Int)) (by kernel_rfl) (by kernel_rfl) (by kernel_rfl) (by kernel_rfl) (fun _ _ _ h => h) (by kernel_rfl) (fun _ _ => by kernel_rfl) hH0 ?_
        refine held_take (i := 4) (o := { dst := some 14, op := Op.indexAddr 23 (Operand.tmp 3) (Operand.tmp 13), type := 0, pos := "ref.go:48", after := #[{ on := 3, ground := Ground.data }], guard := none }) (v := .pointer (some ⟨w.heap.size + 1, k, none⟩)) (by kernel_rfl) (by kernel_rfl) (by kernel_rfl) (by kernel_rfl) (fun _ _ _ h => h) (by kernel_rfl) (fun W _ => exec_at rfl (by kernel_rfl) (by kernel_rfl) hlt W) hH0 ?_
        refine held_take (i := 5) (o := { dst := some 15, op := Op.load 3 (Operand.tmp 14), type := 3, pos := "ref.go:48", after := #[{ on := 4, ground := Ground.data }], guard := none }) (v := .int .i64 y) (by kernel_rfl) (by kernel_rfl) (by kernel_rfl) (by kernel_rfl) (fun _ _ _ h => h) (by kernel_rfl) (fun _ h => exec_int rfl (by kernel_rfl) (h.2)) hH0 ?_
        refine held_take (i := 6) (o := { dst := some 16, op := Op.binOp BinOp.gtr 3 (Operand.tmp 12) (Operand.tmp 15) 3, type := 4, pos := "ref.go:48", after := #[{ on := 2, ground := Ground.data }, { on := 5, ground := Ground.data }], guard := none }) (v := .bool true) (by kernel_rfl) (by kernel_rfl) (by kernel_rfl) (by kernel_rfl) (fun _ _ _ h => h) (by kernel_rfl) (fun W _ => exec_bin rfl (by kernel_rfl) (by kernel_rfl) (fun _ => by kernel_rfl) (gtrb hxy) W) hH0 ?_
        refine wpAnyH_done (by kernel_rfl) ?_ _
        simp only [Act.put, List.setIfInBounds_toArray, List.set_cons_zero, List.set_cons_succ]
        go_wp2
        go_ret
        exact ⟨by rw [HR.out]; rfl, hB.drew⟩
      · go_wp2_with fail
        refine wp_region_held_drew (S := fun w' => w'.cell? ⟨w.heap.size, k, none⟩ = some (.int .i64 x) ∧ w'.cell? ⟨w.heap.size + 1, k, none⟩ = some (.int .i64 y)) (by kernel_rfl) (⟨hc, hd⟩) (fun hH0 => ?_)
        refine held_take (i := 0) (o := { dst := some 10, op := Op.move (Operand.tmp 5), type := 3, pos := "ref.go:48", after := #[], guard := none }) (v := .int .i64 (k : Int)) (by kernel_rfl) (by kernel_rfl) (by kernel_rfl) (by kernel_rfl) (fun _ _ _ h => h) (by kernel_rfl) (fun _ _ => by kernel_rfl) hH0 ?_
        refine held_take (i := 1) (o := { dst := some 11, op := Op.indexAddr 23 (Operand.tmp 2) (Operand.tmp 10), type := 0, pos := "ref.go:48", after := #[{ on := 0, ground := Ground.data }], guard := none }) (v := .pointer (some ⟨w.heap.size, k, none⟩)) (by kernel_rfl) (by kernel_rfl) (by kernel_rfl) (by kernel_rfl) (fun _ _ _ h => h) (by kernel_rfl) (fun W _ => exec_at rfl (by kernel_rfl) (by kernel_rfl) hlt W) hH0 ?_
        refine held_take (i := 2) (o := { dst := some 12, op := Op.load 3 (Operand.tmp 11), type := 3, pos := "ref.go:48", after := #[{ on := 1, ground := Ground.data }], guard := none }) (v := .int .i64 x) (by kernel_rfl) (by kernel_rfl) (by kernel_rfl) (by kernel_rfl) (fun _ _ _ h => h) (by kernel_rfl) (fun _ h => exec_int rfl (by kernel_rfl) (h.1)) hH0 ?_
        refine held_take (i := 3) (o := { dst := some 13, op := Op.move (Operand.tmp 5), type := 3, pos := "ref.go:48", after := #[], guard := none }) (v := .int .i64 (k : Int)) (by kernel_rfl) (by kernel_rfl) (by kernel_rfl) (by kernel_rfl) (fun _ _ _ h => h) (by kernel_rfl) (fun _ _ => by kernel_rfl) hH0 ?_
        refine held_take (i := 4) (o := { dst := some 14, op := Op.indexAddr 23 (Operand.tmp 3) (Operand.tmp 13), type := 0, pos := "ref.go:48", after := #[{ on := 3, ground := Ground.data }], guard := none }) (v := .pointer (some ⟨w.heap.size + 1, k, none⟩)) (by kernel_rfl) (by kernel_rfl) (by kernel_rfl) (by kernel_rfl) (fun _ _ _ h => h) (by kernel_rfl) (fun W _ => exec_at rfl (by kernel_rfl) (by kernel_rfl) hlt W) hH0 ?_
        refine held_take (i := 5) (o := { dst := some 15, op := Op.load 3 (Operand.tmp 14), type := 3, pos := "ref.go:48", after := #[{ on := 4, ground := Ground.data }], guard := none }) (v := .int .i64 y) (by kernel_rfl) (by kernel_rfl) (by kernel_rfl) (by kernel_rfl) (fun _ _ _ h => h) (by kernel_rfl) (fun _ h => exec_int rfl (by kernel_rfl) (h.2)) hH0 ?_
        refine held_take (i := 6) (o := { dst := some 16, op := Op.binOp BinOp.gtr 3 (Operand.tmp 12) (Operand.tmp 15) 3, type := 4, pos := "ref.go:48", after := #[{ on := 2, ground := Ground.data }, { on := 5, ground := Ground.data }], guard := none }) (v := .bool false) (by kernel_rfl) (by kernel_rfl) (by kernel_rfl) (by kernel_rfl) (fun _ _ _ h => h) (by kernel_rfl) (fun W _ => exec_bin rfl (by kernel_rfl) (by kernel_rfl) (fun _ => by kernel_rfl) (gtrb_not hxy) W) hH0 ?_
        refine wpAnyH_done (by kernel_rfl) ?_ _
        simp only [Act.put, List.setIfInBounds_toArray, List.set_cons_zero, List.set_cons_succ]
        go_wp2
        go_roundw
        case rel => exact ⟨k + 1, by omega, by go_num, fun j hj => by
          by_cases e : j = k
          · subst e; rw [HX.out.1, HX.out.2]; omega
          · exact HA.out j (by omega), h0.drew, h1.drew, hB.drew⟩
        case measure => first | (simp [intOf]; done) | (simp [intOf]; omega)
    · have HR : Hid (Vc.within l m = true) := by
        have h : Vc.within l m = true := Vc.within_iff.2 fun j hj => HA.out j (by omega)
        exact h
      clear hl h0 h1
      go_wp2
      go_ret
      exact ⟨by rw [HR.out]; rfl, hB⟩

set_option maxRecDepth 20000 in
set_option maxHeartbeats 2000000 in
theorem ref_join_vec (l m : List Int) (hl : l.length = 16) (hm : m.length = 16) (w : World) : Calls Try.prog 20 #[vecV l, vecV m] w fun e w' => e = .returned (vecV (Vc.join l m)) ∧ Below w.heap.size w w' := by
  have h2 := VecAt.new' (V := (w.alloc (.cells (ints l).toArray 23)).alloc (.cells (ints m).toArray 23)) (n := w.heap.size + 1 + 1) (by simp) noughts
  have h3 := VecAt.new' (V := ((w.alloc (.cells (ints l).toArray 23)).alloc (.cells (ints m).toArray 23)).alloc (.cells (ints noughts).toArray 23)) (n := w.heap.size + 1 + 1 + 1) (by simp) noughts
  obtain ⟨h0, h1, hB⟩ := new2 w l m
  have hB4 := bchain (bchain hB (below_new _ (.cells (ints noughts).toArray 23))) (below_new _ (.cells (ints noughts).toArray 23))
  have g0 := h0.alloc (.cells (ints noughts).toArray 23)
  have e0 := (g0.alloc (.cells (ints noughts).toArray 23)).other_row (c := w.heap.size + 1 + 1 + 1) (by omega) (ints l).toArray
  have e1 := ((h1.alloc (.cells (ints noughts).toArray 23)).alloc (.cells (ints noughts).toArray 23)).other_row (c := w.heap.size + 1 + 1 + 1) (by omega) (ints l).toArray
  have e2 := (h2.alloc (.cells (ints noughts).toArray 23)).other_row (c := w.heap.size + 1 + 1 + 1) (by omega) (ints l).toArray
  have e3 := h3.row l
  have eB := below_setRow hB4 (b := w.heap.size + 1 + 1 + 1) (by omega) (ints l).toArray
  clear h0 h1 h2 hB hB4
  obtain ⟨f, hf⟩ : ∃ f : Nat → Int → Int, f = fun i x => max x (m.getD i 0) := ⟨_, rfl⟩
  have HF : Hid (f = fun i x => max x (m.getD i 0)) := hf
  clear hf
  go_enter Try.func20, Try.ntmps20
  go_wp2_with (first | (refine load_vec rfl _ rfl w.heap.size l hl rfl g0 ?_) | (refine store_vec rfl _ _ rfl (w.heap.size + 1 + 1 + 1) l noughts hl noughts_length rfl rfl h3 ?_))
  go_loopw [6] (fun i wr => ∃ k : Nat, k ≤ 16 ∧ i = .int .i64 k ∧ VecAt wr w.heap.size l ∧ VecAt wr (w.heap.size + 1) m ∧ VecAt wr (w.heap.size + 1 + 1) noughts ∧ VecAt wr (w.heap.size + 1 + 1 + 1) (Vc.upto f l k) ∧ Below w.heap.size w wr) (fun i _ => 16 - (intOf i).toNat)
  case atStart => exact ⟨0, by omega, rfl, e0, e1, e2, by rw [Vc.upto_zero]; exact e3, eB⟩
  case round =>
    clear g0 h3 e0 e1 e2 e3 eB
    obtain ⟨k, hk, rfl, h0, h1, h2, h3, hB⟩ := hrel
    by_cases hlt : k < 16
    · have hc := h0.cell (k := k) (by omega)
      have hd := h1.cell (k := k) (by omega)
      obtain ⟨x, hx⟩ : ∃ x, l.getD k 0 = x := ⟨_, rfl⟩
      obtain ⟨y, hy⟩ : ∃ y, m.getD k 0 = y := ⟨_, rfl⟩
      rw [hx] at hc
      rw [hy] at hd
      by_cases hxy : x < y
      · have hst := Vc.upto_step f l k (by omega)
        rw [show f k (l.getD k 0) = y by rw [HF.out, hx, ← hy]; show max x (m.getD k 0) = _; rw [hy]; omega] at hst
        have ho := h3.cell (k := k) (by rw [Vc.upto_length]; omega)
        generalize (Vc.upto f l k).getD k 0 = z at ho
        have hfz := h3.frozen k
        have HR : Hid (VecAt (wr.drew.setCell ⟨w.heap.size + 1 + 1 + 1, k, none⟩ (.int .i64 y)) (w.heap.size + 1 + 1 + 1) (Vc.upto f l (k + 1)) ∧ VecAt (wr.drew.setCell ⟨w.heap.size + 1 + 1 + 1, k, none⟩ (.int .i64 y)) w.heap.size l
            ∧ VecAt (wr.drew.setCell ⟨w.heap.size + 1 + 1 + 1, k, none⟩ (.int .i64 y)) (w.heap.size + 1) m ∧ VecAt (wr.drew.setCell ⟨w.heap.size + 1 + 1 + 1, k, none⟩ (.int .i64 y)) (w.heap.size + 1 + 1) noughts
            ∧ Below w.heap.size w (wr.drew.setCell ⟨w.heap.size + 1 + 1 + 1, k, none⟩ (.int .i64 y))) := by
          refine (⟨?_, ?_, ?_, ?_, ?_⟩ : _ ∧ _ ∧ _ ∧ _ ∧ _)
          · rw [← hst]; exact h3.drew.set k y
          · exact h0.drew.other _ _ (by show _ ≠ w.heap.size + 1 + 1 + 1; omega)
          · exact h1.drew.other _ _ (by show _ ≠ w.heap.size + 1 + 1 + 1; omega)
          · exact h2.drew.other _ _ (by show _ ≠ w.heap.size + 1 + 1 + 1; omega)
          · exact hB.drew.setCell (p := ⟨w.heap.size + 1 + 1 + 1, k, none⟩) (by simp; omega) _
        clear hst h0 h1 h2 h3 hB hx hy hl hm
        go_wp2_with fail
        refine wp_region_held_drew (S := fun w' => w'.cell? ⟨w.heap.size, k, none⟩ = some (.int .i64 x) ∧ w'.cell? ⟨w.heap.size + 1, k, none⟩ = some (.int .i64 y)) (by kernel_rfl) (⟨hc, hd⟩) (fun hH0 => ?_)
        refine held_take (i := 0) (o := { dst := some 12, op := Op.move (Operand.tmp 6), type := 3, pos := "ref.go:27", after := #[], guard := none }) (v := .int .i64 (k : Int)) (by kernel_rfl) (by kernel_rfl) (by kernel_rfl) (by kernel_rfl) (fun _ _ _ h => h) (by kernel_rfl) (fun _ _ => by kernel_rfl) hH0 ?_
        refine held_take (i := 1) (o := { dst := some 13, op := Op.indexAddr 23 (Operand.tmp 3) (Operand.tmp 12), type := 0, pos := "ref.go:27", after := #[{ on := 0, ground := Ground.data }], guard := none }) (v := .pointer (some ⟨w.heap.size + 1, k, none⟩)) (by kernel_rfl) (by kernel_rfl) (by kernel_rfl) (by kernel_rfl) (fun _ _ _ h => h) (by kernel_rfl) (fun W _ => exec_at rfl (by kernel_rfl) (by kernel_rfl) hlt W) hH0 ?_
        refine held_take (i := 2) (o := { dst := some 14, op := Op.load 3 (Operand.tmp 13), type := 3, pos := "ref.go:27", after := #[{ on := 1, ground := Ground.data }], guard := none }) (v := .int .i64 y) (by kernel_rfl) (by kernel_rfl) (by kernel_rfl) (by kernel_rfl) (fun _ _ _ h => h) (by kernel_rfl) (fun _ h => exec_int rfl (by kernel_rfl) (h.2)) hH0 ?_
        refine held_take (i := 3) (o := { dst := some 15, op := Op.move (Operand.tmp 6), type := 3, pos := "ref.go:27", after := #[], guard := none }) (v := .int .i64 (k : Int)) (by kernel_rfl) (by kernel_rfl) (by kernel_rfl) (by kernel_rfl) (fun _ _ _ h => h) (by kernel_rfl) (fun _ _ => by kernel_rfl) hH0 ?_
        refine held_take (i := 4) (o := { dst := some 16, op := Op.indexAddr 23 (Operand.tmp 2) (Operand.tmp 15), type := 0, pos := "ref.go:27", after := #[{ on := 3, ground := Ground.data }], guard := none }) (v := .pointer (some ⟨w.heap.size, k, none⟩)) (by kernel_rfl) (by kernel_rfl) (by kernel_rfl) (by kernel_rfl) (fun _ _ _ h => h) (by kernel_rfl) (fun W _ => exec_at rfl (by kernel_rfl) (by kernel_rfl) hlt W) hH0 ?_
        refine held_take (i := 5) (o := { dst := some 17, op := Op.load 3 (Operand.tmp 16), type := 3, pos := "ref.go:27", after := #[{ on := 4, ground := Ground.data }], guard := none }) (v := .int .i64 x) (by kernel_rfl) (by kernel_rfl) (by kernel_rfl) (by kernel_rfl) (fun _ _ _ h => h) (by kernel_rfl) (fun _ h => exec_int rfl (by kernel_rfl) (h.1)) hH0 ?_
        refine held_take (i := 6) (o := { dst := some 18, op := Op.binOp BinOp.gtr 3 (Operand.tmp 14) (Operand.tmp 17) 3, type := 4, pos := "ref.go:27", after := #[{ on := 2, ground := Ground.data }, { on := 5, ground := Ground.data }], guard := none }) (v := .bool true) (by kernel_rfl) (by kernel_rfl) (by kernel_rfl) (by kernel_rfl) (fun _ _ _ h => h) (by kernel_rfl) (fun W _ => exec_bin rfl (by kernel_rfl) (by kernel_rfl) (fun _ => by kernel_rfl) (gtrb hxy) W) hH0 ?_
        refine wpAnyH_done (by kernel_rfl) ?_ _
        simp only [Act.put, List.setIfInBounds_toArray, List.set_cons_zero, List.set_cons_succ]
        go_wp2
        go_roundw
        case rel => exact ⟨k + 1, by omega, by go_num, HR.out.2.1, HR.out.2.2.1, HR.out.2.2.2.1, HR.out.1, HR.out.2.2.2.2⟩
        case measure => first | (simp [intOf]; done) | (simp [intOf]; omega)
      · have hst := upto_stay f l k (by omega) (by rw [HF.out, hx]; show max x (m.getD k 0) = _; rw [hy]; omega)
        rw [← hst] at h3
        clear hst hx hy hl hm
        go_wp2_with fail
        refine wp_region_held_drew (S := fun w' => w'.cell? ⟨w.heap.size, k, none⟩ = some (.int .i64 x) ∧ w'.cell? ⟨w.heap.size + 1, k, none⟩ = some (.int .i64 y)) (by kernel_rfl) (⟨hc, hd⟩) (fun hH0 => ?_)
        refine held_take (i := 0) (o := { dst := some 12, op := Op.move (Operand.tmp 6), type := 3, pos := "ref.go:27", after := #[], guard := none }) (v := .int .i64 (k : Int)) (by kernel_rfl) (by kernel_rfl) (by kernel_rfl) (by kernel_rfl) (fun _ _ _ h => h) (by kernel_rfl) (fun _ _ => by kernel_rfl) hH0 ?_
        refine held_take (i := 1) (o := { dst := some 13, op := Op.indexAddr 23 (Operand.tmp 3) (Operand.tmp 12), type := 0, pos := "ref.go:27", after := #[{ on := 0, ground := Ground.data }], guard := none }) (v := .pointer (some ⟨w.heap.size + 1, k, none⟩)) (by kernel_rfl) (by kernel_rfl) (by kernel_rfl) (by kernel_rfl) (fun _ _ _ h => h) (by kernel_rfl) (fun W _ => exec_at rfl (by kernel_rfl) (by kernel_rfl) hlt W) hH0 ?_
        refine held_take (i := 2) (o := { dst := some 14, op := Op.load 3 (Operand.tmp 13), type := 3, pos := "ref.go:27", after := #[{ on := 1, ground := Ground.data }], guard := none }) (v := .int .i64 y) (by kernel_rfl) (by kernel_rfl) (by kernel_rfl) (by kernel_rfl) (fun _ _ _ h => h) (by kernel_rfl) (fun _ h => exec_int rfl (by kernel_rfl) (h.2)) hH0 ?_
        refine held_take (i := 3) (o := { dst := some 15, op := Op.move (Operand.tmp 6), type := 3, pos := "ref.go:27", after := #[], guard := none }) (v := .int .i64 (k : Int)) (by kernel_rfl) (by kernel_rfl) (by kernel_rfl) (by kernel_rfl) (fun _ _ _ h => h) (by kernel_rfl) (fun _ _ => by kernel_rfl) hH0 ?_
        refine held_take (i := 4) (o := { dst := some 16, op := Op.indexAddr 23 (Operand.tmp 2) (Operand.tmp 15), type := 0, pos := "ref.go:27", after := #[{ on := 3, ground := Ground.data }], guard := none }) (v := .pointer (some ⟨w.heap.size, k, none⟩)) (by kernel_rfl) (by kernel_rfl) (by kernel_rfl) (by kernel_rfl) (fun _ _ _ h => h) (by kernel_rfl) (fun W _ => exec_at rfl (by kernel_rfl) (by kernel_rfl) hlt W) hH0 ?_
        refine held_take (i := 5) (o := { dst := some 17, op := Op.load 3 (Operand.tmp 16), type := 3, pos := "ref.go:27", after := #[{ on := 4, ground := Ground.data }], guard := none }) (v := .int .i64 x) (by kernel_rfl) (by kernel_rfl) (by kernel_rfl) (by kernel_rfl) (fun _ _ _ h => h) (by kernel_rfl) (fun _ h => exec_int rfl (by kernel_rfl) (h.1)) hH0 ?_
        refine held_take (i := 6) (o := { dst := some 18, op := Op.binOp BinOp.gtr 3 (Operand.tmp 14) (Operand.tmp 17) 3, type := 4, pos := "ref.go:27", after := #[{ on := 2, ground := Ground.data }, { on := 5, ground := Ground.data }], guard := none }) (v := .bool false) (by kernel_rfl) (by kernel_rfl) (by kernel_rfl) (by kernel_rfl) (fun _ _ _ h => h) (by kernel_rfl) (fun W _ => exec_bin rfl (by kernel_rfl) (by kernel_rfl) (fun _ => by kernel_rfl) (gtrb_not hxy) W) hH0 ?_
        refine wpAnyH_done (by kernel_rfl) ?_ _
        simp only [Act.put, List.setIfInBounds_toArray, List.set_cons_zero, List.set_cons_succ]
        go_wp2
        go_roundw
        case rel => exact ⟨k + 1, by omega, by go_num, h0.drew, h1.drew, h2.drew, h3.drew, hB.drew⟩
        case measure => first | (simp [intOf]; done) | (simp [intOf]; omega)
    · obtain rfl : k = 16 := by omega
      rw [Vc.upto_all f l 16 (by omega)] at h3
      have hmm : (l.mapIdx f).length = 16 := by simp [hl]
      have HE : Hid (l.mapIdx f = Vc.join l m) := by
        have h : l.mapIdx f = Vc.join l m := by rw [HF.out]; rfl
        exact h
      generalize l.mapIdx f = q at *
      clear h0 h1
      go_wp2_with (first | (refine load_vec rfl _ rfl (w.heap.size + 1 + 1 + 1) q hmm rfl h3 ?_) | (refine store_vec rfl _ _ rfl (w.heap.size + 1 + 1) q noughts hmm noughts_length rfl rfl h2 ?_))
      refine bodyPost_ret (ret_vec rfl _ hmm rfl (h2.row q)) rfl ⟨by rw [HE.out], below_setRow hB (by omega) _⟩

end Go.Proofs.Ytmifkfeobdnocaa
