/- The walks of Next and Count, the program's and the document's. -/
import Derived.Test.YtenfbjlmfdiniaaWithin
import Derived.Test.YtenfbjlmfdiniaaBins
namespace Go.Proofs.Ytenfbjlmfdiniaa
open Go.RowKit Go.Shelf

/-- The last number of a replica, of the first ones behind gaps. -/
def lastTo (l : List Int) (ds : List D) (q : Nat) : Nat → Int
  | 0 => l.getD q 0
  | k + 1 => if (ds.getD k (0, 0)).1 = (q : Int) then (ds.getD k (0, 0)).2 else lastTo l ds q k
theorem lastTo_lt {l : List Int} {ds : List D} {q : Nat} (h : St.Std l ds) {k : Nat} (hk : k < ds.length) (hr : (ds[k]).1 = (q : Int)) : ∀ j, j ≤ k → lastTo l ds q j < (ds[k]).2
  | 0, _ => by
    have hg := (h.gap _ (List.getElem_mem hk)).2
    simp only [St.at', hr, Int.toNat_natCast] at hg
    show l.getD q 0 < _
    omega
  | j + 1, hj => by
    have h1 := lastTo_lt h hk hr j (by omega)
    have hj' : j < ds.length := by omega
    have e : ds.getD j (0, 0) = ds[j] := by simp [List.getD, hj']
    unfold lastTo
    rw [e]
    split
    · next e1 =>
      have h2 := List.pairwise_iff_getElem.1 h.row j k hj' hk (by omega)
      unfold St.lt at h2
      omega
    · exact h1
theorem lastTo_bound {l : List Int} {ds : List D} {q : Nat} (h : St.Std l ds) (hq : q < 16) : ∀ k, k ≤ ds.length → 0 ≤ lastTo l ds q k ∧ lastTo l ds q k ≤ 1048576
  | 0, _ => Vc.right_iff.1 h.vec q (by rw [h.len]; exact hq)
  | k + 1, hk => by
    have h1 := lastTo_bound h hq k (by omega)
    have hk' : k < ds.length := by omega
    have e : ds.getD k (0, 0) = ds[k] := by simp [List.getD, hk']
    have hr := St.right_at (h.gap _ (List.getElem_mem hk')).1
    unfold lastTo
    rw [e]
    split
    · omega
    · exact h1
/-- The number of a replica's first dot behind all. -/
def nextOf (l : List Int) (ds : List D) (r : Int) : Int := if 0 ≤ r ∧ r < 16 then lastTo l ds r.toNat ds.length + 1 else 0

set_option maxRecDepth 20000 in
set_option maxHeartbeats 400000 in
theorem next_any (l : List Int) (v : Value) (ds : List D) (r : Int) (w : World) (hs : St.Std l ds) (hd : dotsIn w v ds) (hn : ds.length ≤ 1000000) :
    Calls Try.prog 17 #[setV l v, .int .i64 r] w fun e w' => e = .returned (.int .i64 (nextOf l ds r)) ∧ Below w.heap.size w w' := by
  have hl := hs.len
  obtain ⟨W0, hW0⟩ : ∃ W0, W0 = w.alloc (.cells (setC l v).toArray 26) := ⟨_, rfl⟩
  have hB0 : Below w.heap.size w W0 := by rw [hW0]; exact below_new _ _
  have hA0 : SetAt W0 w.heap.size l v := by rw [hW0]; exact SetAt.new w l v
  by_cases h0 : 0 ≤ r ∧ r < 16
  rotate_left
  · have e : nextOf l ds r = 0 := if_neg h0
    rw [e]
    rw [hW0] at hB0
    by_cases h1 : r < 0
    · clear hW0 hA0 e h0
      go_enter Try.func17, Try.ntmps17
      go_wp2
      go_ret
      exact ⟨rfl, hB0⟩
    · have h2 : r ≥ 16 := by omega
      clear hW0 hA0 e h0
      go_enter Try.func17, Try.ntmps17
      go_wp2
      go_ret
      exact ⟨rfl, hB0⟩
  obtain ⟨q, rfl⟩ : ∃ q : Nat, r = (q : Int) := ⟨r.toNat, by omega⟩
  have hq16 : q < 16 := by omega
  have e : nextOf l ds (q : Int) = lastTo l ds q ds.length + 1 := by rw [nextOf, if_pos h0, Int.toNat_natCast]
  rw [e]
  obtain ⟨ao, ca, rfl, _, hc⟩ := hd.on hB0
  have HC : Hid (∀ k (h : k < ds.length), ∃ ad, ao = some ad ∧ W0.cell? (ad.add (k * 2)) = some (.int .i64 (ds[k]).1) ∧ W0.cell? ⟨(ad.add (k * 2)).block, (ad.add (k * 2)).off + 1, none⟩ = some (.int .i64 (ds[k]).2)) := hc
  have HB : Hid (Below w.heap.size w W0) := hB0
  have HS : Hid (St.Std l ds) := hs
  obtain ⟨n, hn0⟩ : ∃ n, n = ds.length := ⟨_, rfl⟩
  have HN : Hid (n = ds.length) := hn0
  have hW0' := hW0
  rw [← hn0] at hn hA0 hW0' ⊢
  have hcq := hA0.cell (k := q) (by omega)
  have m0 := hA0.more hl
  have hix := indexAt_vec w.heap.size q hq16
  have hlow : w.heap.size < W0.heap.size := by rw [hW0]; simp
  have hq0' : ¬ (q : Int) < 0 := by omega
  have hq1' : ¬ (q : Int) ≥ 16 := by omega
  clear hd hB0 hc hA0 hW0 hs hn0 e h0
  obtain ⟨x0, hx0⟩ : ∃ x0, x0 = l.getD q 0 := ⟨_, rfl⟩
  have HX : Hid (x0 = l.getD q 0) := hx0
  rw [← hx0] at hcq
  clear hx0
  rw [hW0'] at hcq m0
  go_enter Try.func17, Try.ntmps17
  go_wp2
  rw [← hW0']
  clear hcq m0 hix hW0'
  go_loopw [5, 7, 21] (fun a _ i wr => ∃ k : Nat, k ≤ n ∧ i = .int .i64 k ∧ a = .int .i64 (lastTo l ds q k) ∧ Below W0.heap.size W0 wr) (fun _ _ i _ => n - (intOf i).toNat)
  case atStart => exact ⟨0, by omega, rfl, by rw [lastTo, ← HX.out], Below.refl _ _⟩
  case round =>
    obtain ⟨k, hk, rfl, rfl, hbw⟩ := hrel
    by_cases hlt : k < n
    · have hkd : k < ds.length := by have := HN.out; omega
      obtain ⟨ad, rfl, c0, c1⟩ := HC.out k hkd
      have c0 := keep_cell hbw c0
      have c1 := keep_cell hbw c1
      have eg : ds.getD k (0, 0) = ds[k] := by simp [List.getD, hkd]
      have hi0 : (0 : Int) ≤ (k : Int) := by omega
      have hi1 : (k : Int) < (n : Int) := by omega
      have hbx : ∀ b, Below W0.heap.size W0 (wr.alloc b) := fun b => bchain hbw (below_new _ _)
      by_cases hz : (ds[k]).1 = (q : Int)
      · have HL : Hid (lastTo l ds q (k + 1) = (ds[k]).2) := by
          have h : lastTo l ds q (k + 1) = (ds[k]).2 := by rw [lastTo, eg, if_pos hz]
          exact h
        rw [hz] at c0
        clear eg hz
        generalize (ds[k]).2 = z2 at *
        go_wp2
        go_roundw
        case rel => exact ⟨k + 1, by omega, by go_num, by rw [HL.out], hbx _⟩
        case measure => simp [intOf]; omega
      · have HL : Hid (lastTo l ds q (k + 1) = lastTo l ds q k) := by
          have h : lastTo l ds q (k + 1) = lastTo l ds q k := by rw [lastTo, eg, if_neg hz]
          exact h
        clear eg
        generalize (ds[k]).2 = z2 at *
        generalize (ds[k]).1 = z1 at *
        generalize lastTo l ds q k = a at *
        go_wp2
        go_roundw
        case rel => exact ⟨k + 1, by omega, by go_num, by rw [HL.out], hbx _⟩
        case measure => simp [intOf]; omega
    · obtain rfl : k = n := by omega
      have hb := lastTo_bound (q := q) HS.out hq16 k (by have := HN.out; omega)
      go_wp2
      go_ret
      exact ⟨by go_num, bchain HB.out hbw⟩

set_option maxRecDepth 20000 in
set_option maxHeartbeats 400000 in
theorem refNext_any (l : List Int) (v : Value) (ds : List D) (r : Int) (w : World) (hs : St.Std l ds) (hd : dotsIn w v ds) (hn : ds.length ≤ 1000000) :
    Calls Try.prog 18 #[setV l v, .int .i64 r] w fun e w' => e = .returned (.int .i64 (nextOf l ds r)) ∧ Below w.heap.size w w' := by
  have hl := hs.len
  obtain ⟨W0, hW0⟩ : ∃ W0, W0 = w.alloc (.cells (setC l v).toArray 26) := ⟨_, rfl⟩
  have hB0 : Below w.heap.size w W0 := by rw [hW0]; exact below_new _ _
  have hA0 : SetAt W0 w.heap.size l v := by rw [hW0]; exact SetAt.new w l v
  by_cases h0 : 0 ≤ r ∧ r < 16
  rotate_left
  · have e : nextOf l ds r = 0 := if_neg h0
    rw [e]
    rw [hW0] at hB0
    by_cases h1 : r < 0
    · clear hW0 hA0 e h0
      go_enter Try.func18, Try.ntmps18
      go_wp2
      go_ret
      exact ⟨rfl, hB0⟩
    · have h2 : r > 15 := by omega
      clear hW0 hA0 e h0
      go_enter Try.func18, Try.ntmps18
      go_wp2
      go_ret
      exact ⟨rfl, hB0⟩
  obtain ⟨q, rfl⟩ : ∃ q : Nat, r = (q : Int) := ⟨r.toNat, by omega⟩
  have hq16 : q < 16 := by omega
  have e : nextOf l ds (q : Int) = lastTo l ds q ds.length + 1 := by rw [nextOf, if_pos h0, Int.toNat_natCast]
  rw [e]
  obtain ⟨ao, ca, rfl, _, hc⟩ := hd.on hB0
  have HC : Hid (∀ k (h : k < ds.length), ∃ ad, ao = some ad ∧ W0.cell? (ad.add (k * 2)) = some (.int .i64 (ds[k]).1) ∧ W0.cell? ⟨(ad.add (k * 2)).block, (ad.add (k * 2)).off + 1, none⟩ = some (.int .i64 (ds[k]).2)) := hc
  have HB : Hid (Below w.heap.size w W0) := hB0
  have HS : Hid (St.Std l ds) := hs
  obtain ⟨n, hn0⟩ : ∃ n, n = ds.length := ⟨_, rfl⟩
  have HN : Hid (n = ds.length) := hn0
  have hW0' := hW0
  rw [← hn0] at hn hA0 hW0' ⊢
  have hcq := hA0.cell (k := q) (by omega)
  have m0 := hA0.more hl
  have hix := indexAt_vec w.heap.size q hq16
  have hq0' : ¬ (q : Int) < 0 := by omega
  have hq1' : ¬ (q : Int) > 15 := by omega
  clear hd hB0 hc hA0 hW0 hs hn0 e h0
  obtain ⟨x0, hx0⟩ : ∃ x0, x0 = l.getD q 0 := ⟨_, rfl⟩
  have HX : Hid (x0 = l.getD q 0) := hx0
  have M0 : Hid (W0.cell? ⟨w.heap.size, 16, none⟩ = some (.slice ao n ca)) := m0
  rw [← hx0] at hcq
  clear hx0
  rw [hW0'] at hcq
  clear m0
  go_enter Try.func18, Try.ntmps18
  go_wp2
  rw [← hW0']
  clear hcq hix hW0'
  go_loopw [5, 6] (fun a i wr => ∃ k : Nat, k ≤ n ∧ i = .int .i64 k ∧ a = .int .i64 (lastTo l ds q k) ∧ Below W0.heap.size W0 wr) (fun _ i _ => n - (intOf i).toNat)
  case atStart => exact ⟨0, by omega, rfl, by rw [lastTo, ← HX.out], Below.refl _ _⟩
  case round =>
    obtain ⟨k, hk, rfl, rfl, hbw⟩ := hrel
    have m0 := keep_cell hbw M0.out
    by_cases hlt : k < n
    · have hkd : k < ds.length := by have := HN.out; omega
      obtain ⟨ad, rfl, c0, c1⟩ := HC.out k hkd
      have c0 := keep_cell hbw c0
      have c1 := keep_cell hbw c1
      have eg : ds.getD k (0, 0) = ds[k] := by simp [List.getD, hkd]
      have hi0 : (0 : Int) ≤ (k : Int) := by omega
      have hi1 : (k : Int) < (n : Int) := by omega
      by_cases hz : (ds[k]).1 = (q : Int)
      · have HL : Hid (lastTo l ds q (k + 1) = (ds[k]).2) := by
          have h : lastTo l ds q (k + 1) = (ds[k]).2 := by rw [lastTo, eg, if_pos hz]
          exact h
        have hgt := lastTo_lt HS.out hkd hz k (Nat.le_refl _)
        rw [hz] at c0
        clear eg hz
        generalize (ds[k]).2 = z2 at *
        generalize lastTo l ds q k = a at *
        have hgt' : z2 > a := hgt
        go_wp2
        go_roundw
        case rel => exact ⟨k + 1, by omega, by go_num, by rw [HL.out], hbw⟩
        case measure => simp [intOf]; omega
      · have HL : Hid (lastTo l ds q (k + 1) = lastTo l ds q k) := by
          have h : lastTo l ds q (k + 1) = lastTo l ds q k := by rw [lastTo, eg, if_neg hz]
          exact h
        clear eg
        generalize (ds[k]).2 = z2 at *
        generalize (ds[k]).1 = z1 at *
        generalize lastTo l ds q k = a at *
        go_wp2
        go_roundw
        case rel => exact ⟨k + 1, by omega, by go_num, by rw [HL.out], hbw⟩
        case measure => simp [intOf]; omega
    · obtain rfl : k = n := by omega
      have hb := lastTo_bound (q := q) HS.out hq16 k (by have := HN.out; omega)
      go_wp2
      go_ret
      exact ⟨by go_num, bchain HB.out hbw⟩

set_option maxRecDepth 20000 in
set_option maxHeartbeats 400000 in
theorem countSet_any (l : List Int) (v : Value) (ds : List D) (w : World) (hl : l.length = 16) (hr : Vc.right l = true) (hd : dotsIn w v ds) (hn : ds.length ≤ 1000000) :
    Calls Try.prog 19 #[setV l v] w fun e w' => e = .returned (.int .i64 (Vc.count l 16 + (ds.length : Int))) ∧ Below w.heap.size w w' := by
  obtain ⟨W0, hW0⟩ : ∃ W0, W0 = w.alloc (.cells (setC l v).toArray 26) := ⟨_, rfl⟩
  have hB0 : Below w.heap.size w W0 := by rw [hW0]; exact below_new _ _
  have hA0 : SetAt W0 w.heap.size l v := by rw [hW0]; exact SetAt.new w l v
  have HC := fun W => count_vec l hl hr W
  have hb := Vc.count_bound hr 16 (by omega)
  obtain ⟨ao, ca, rfl, _, hcx⟩ := hd
  clear hcx
  generalize Vc.count l 16 = c at *
  generalize ds.length = n at *
  have hUS : (fun W => SetAt W w.heap.size l (.slice ao n ca) ∧ Below w.heap.size w W) W0.drew := ⟨hA0.drew, hB0.drew⟩
  clear hA0 hB0
  go_enter Try.func19, Try.ntmps19
  go_wp2
  rw [← hW0]
  clear hW0
  refine wp_region_held_drew (S := fun W => SetAt W w.heap.size l (.slice ao n ca) ∧ Below w.heap.size w W) (by kernel_rfl) (hUS) (fun hH0 => ?_)
  refine held_take (i := 0) (o := { dst := some 3, op := Op.fieldAddr 26 (Operand.tmp 1) 0, type := 0, pos := "dots.go:72", after := #[], guard := none }) (v := .pointer (some ⟨w.heap.size, 0, none⟩)) (by kernel_rfl) (by kernel_rfl) (by kernel_rfl) (by kernel_rfl) (fun _ _ _ h => h) (by kernel_rfl) (fun _ _ => by kernel_rfl) hH0 ?_
  refine held_take (i := 1) (o := { dst := some 4, op := Op.load 23 (Operand.tmp 3), type := 23, pos := "dots.go:72", after := #[{ on := 0, ground := Ground.data }], guard := none }) (v := vecV l) (by kernel_rfl) (by kernel_rfl) (by kernel_rfl) (by kernel_rfl) (fun _ _ _ h => h) (by kernel_rfl) (fun _ h => exec_setVec rfl hl (by kernel_rfl) h.1) hH0 ?_
  refine held_take (i := 3) (o := { dst := some 6, op := Op.fieldAddr 26 (Operand.tmp 1) 1, type := 0, pos := "dots.go:72", after := #[], guard := none }) (v := .pointer (some ⟨w.heap.size, 16, none⟩)) (by kernel_rfl) (by kernel_rfl) (by kernel_rfl) (by kernel_rfl) (fun _ _ _ h => h) (by kernel_rfl) (fun _ _ => by kernel_rfl) hH0 ?_
  refine held_take (i := 4) (o := { dst := some 7, op := Op.load 24 (Operand.tmp 6), type := 24, pos := "dots.go:72", after := #[{ on := 3, ground := Ground.data }], guard := none }) (v := .slice ao n ca) (by kernel_rfl) (by kernel_rfl) (by kernel_rfl) (by kernel_rfl) (fun _ _ _ h => h) (by kernel_rfl) (fun _ h => exec_more rfl (by kernel_rfl) (h.1.more hl)) hH0 ?_
  refine held_take (i := 5) (o := { dst := some 8, op := Op.call { callee := Callee.builtin Builtin.len, args := #[Operand.tmp 7], argTypes := #[24] }, type := 3, pos := "dots.go:72", after := #[{ on := 4, ground := Ground.data }], guard := none }) (v := .int .i64 (n : Int)) (by kernel_rfl) (by kernel_rfl) (by kernel_rfl) (by kernel_rfl) (fun _ _ _ h => h) (by kernel_rfl) (fun _ _ => by kernel_rfl) hH0 ?_
  refine held_callX (i := 2) (o := { dst := some 5, op := Op.call { callee := Callee.value (Operand.func 55), args := #[Operand.tmp 4], argTypes := #[23] }, type := 3, pos := "dots.go:72", after := #[{ on := 1, ground := Ground.data }], guard := none }) (F := 55) (vs := #[vecV l]) (by kernel_rfl) (by kernel_rfl) (by kernel_rfl) (fun _ => by kernel_rfl) (HC _) ?_
  rintro e w1 ⟨rfl, hb1⟩
  have hH1 := And.intro (hH0.1.on hb1) (bchain hH0.2 hb1)
  refine ⟨.int .i64 c, rfl, hH1, ?_⟩
  refine held_take (i := 6) (o := { dst := some 9, op := Op.binOp BinOp.add 3 (Operand.tmp 5) (Operand.tmp 8) 3, type := 3, pos := "dots.go:72", after := #[{ on := 2, ground := Ground.data }, { on := 5, ground := Ground.data }], guard := none }) (v := .int .i64 (c + (n : Int))) (by kernel_rfl) (by kernel_rfl) (by kernel_rfl) (by kernel_rfl) (fun _ _ _ h => h) (by kernel_rfl) (fun W _ => exec_bin rfl (by kernel_rfl) (by kernel_rfl) (fun _ => by kernel_rfl) (add_i (x := c) (y := (n : Int)) (z := c + (n : Int)) (by omega) (by omega) rfl) W) hH1 ?_
  refine held_do (i := 7) (o := { dst := some 2, op := Op.assign (Operand.tmp 9), type := 3, pos := "dots.go:72", after := #[{ on := 6, ground := Ground.data }, { on := 2, ground := Ground.chain }, { on := 0, ground := Ground.phase }, { on := 1, ground := Ground.phase }, { on := 2, ground := Ground.phase }, { on := 3, ground := Ground.phase }, { on := 4, ground := Ground.phase }, { on := 5, ground := Ground.phase }, { on := 6, ground := Ground.phase }], guard := none }) (v := .int .i64 (c + (n : Int))) (by kernel_rfl) (by kernel_rfl) (by kernel_rfl) (by kernel_rfl) hH1 ?_
  refine wpAnyH_done (by kernel_rfl) ?_ _
  simp only [Act.put, List.setIfInBounds_toArray, List.set_cons_zero, List.set_cons_succ]
  go_wp2
  go_ret
  exact ⟨by go_num, hH1.2⟩

set_option maxRecDepth 20000 in
set_option maxHeartbeats 400000 in
theorem refCount_any (l : List Int) (v : Value) (ds : List D) (w : World) (hl : l.length = 16) (hr : Vc.right l = true) (hd : dotsIn w v ds) (hn : ds.length ≤ 1000000) :
    Calls Try.prog 20 #[setV l v] w fun e w' => e = .returned (.int .i64 (Vc.count l 16 + (ds.length : Int))) ∧ Below w.heap.size w w' := by
  obtain ⟨W0, hW0⟩ : ∃ W0, W0 = w.alloc (.cells (setC l v).toArray 26) := ⟨_, rfl⟩
  have hB0 : Below w.heap.size w W0 := by rw [hW0]; exact below_new _ _
  have hA0 : SetAt W0 w.heap.size l v := by rw [hW0]; exact SetAt.new w l v
  obtain ⟨ao, ca, rfl, _, hcx⟩ := hd
  clear hcx
  generalize ds.length = n at *
  have m0 := hA0.more hl
  have HA : Hid (SetAt W0 w.heap.size l (.slice ao n ca)) := hA0
  have HB : Hid (Below w.heap.size w W0) := hB0
  have hW0' := hW0
  rw [hW0] at m0
  clear hA0 hB0 hW0
  go_enter Try.func20, Try.ntmps20
  go_wp2
  rw [← hW0']
  clear hW0' m0
  go_loopw [3, 4] (fun a i wr => ∃ k : Nat, k ≤ 16 ∧ i = .int .i64 k ∧ a = .int .i64 (Vc.count l k + (n : Int)) ∧ Below W0.heap.size W0 wr) (fun _ i _ => 16 - (intOf i).toNat)
  case atStart => exact ⟨0, by omega, rfl, by rw [Vc.count]; go_num, Below.refl _ _⟩
  case round =>
    obtain ⟨k, hk, rfl, rfl, hbw⟩ := hrel
    by_cases hlt : k < 16
    · have hcq := (HA.out.on hbw).cell (k := k) (by omega)
      have hix := indexAt_vec w.heap.size k hlt
      have hb := Vc.count_bound hr k (by omega)
      have hx := Vc.right_iff.1 hr k (by omega)
      have hc : Vc.count l (k + 1) = Vc.count l k + l.getD k 0 := by rw [Vc.count]; omega
      have HL : Hid (Vc.count l (k + 1) = Vc.count l k + l.getD k 0) := hc
      clear hc
      generalize Vc.count l k = c at *
      generalize l.getD k 0 = x at *
      have hk' : (k : Int) < 16 := by omega
      go_wp2
      go_roundw
      case rel => exact ⟨k + 1, by omega, by go_num, by rw [HL.out]; go_num, hbw⟩
      case measure => simp [intOf]; omega
    · obtain rfl : k = 16 := by omega
      go_wp2
      go_ret
      exact ⟨rfl, bchain HB.out hbw⟩
end Go.Proofs.Ytenfbjlmfdiniaa
