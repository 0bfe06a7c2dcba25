/- The walks of cmp.Compare of texts, of slices.Compare, Compare and the document's Compare · The walks of live's At and Under. -/
import Derived.Test.YthlhopdlkkeohaaGreatDoorThinsAll
import Derived.Test.YthlhopdlkkeohaaGreatDoorAllPAll
import Derived.WalkLawsBesides
import Derived.Test.YthlhopdlkkeohaaGreatDoorOpWrapAll
/- The walks of cmp.Compare of texts, of slices.Compare, Compare and the document's Compare. -/
namespace Go.Proofs.YthlhopdlkkeohaaGreatDoor.U
open Go.RowKit

/-- How far two paths are alike. -/
def stand (xs ys : List (List UInt8)) (k : Nat) : Prop := k ≤ xs.length ∧ k ≤ ys.length ∧ Pt.comp xs ys = Pt.comp (xs.drop k) (ys.drop k)
theorem stand_zero (xs ys : List (List UInt8)) : stand xs ys 0 := ⟨by omega, by omega, by simp⟩
theorem stand_succ {xs ys : List (List UInt8)} {k : Nat} (h : stand xs ys k) (h1 : k < xs.length) (h2 : k < ys.length) (e : Lib.compareBytes xs[k] ys[k] = 0) : stand xs ys (k + 1) := by
  refine ⟨by omega, by omega, ?_⟩
  rw [h.2.2, List.drop_eq_getElem_cons h1, List.drop_eq_getElem_cons h2]
  simp only [Pt.comp]
  rw [if_pos e]
theorem stand_diff {xs ys : List (List UInt8)} {k : Nat} (h : stand xs ys k) (h1 : k < xs.length) (h2 : k < ys.length) (e : Lib.compareBytes xs[k] ys[k] ≠ 0) : Pt.comp xs ys = Lib.compareBytes xs[k] ys[k] := by
  rw [h.2.2, List.drop_eq_getElem_cons h1, List.drop_eq_getElem_cons h2]
  simp only [Pt.comp]
  rw [if_neg e]
theorem drop_all {xs : List (List UInt8)} {k : Nat} (h : ¬ k < xs.length) : xs.drop k = [] := List.drop_eq_nil_of_le (by omega)
theorem stand_more {xs ys : List (List UInt8)} {k : Nat} (h : stand xs ys k) (h1 : k < xs.length) (h2 : ¬ k < ys.length) : Pt.comp xs ys = 1 := by
  rw [h.2.2, List.drop_eq_getElem_cons h1, drop_all h2]; rfl
theorem stand_less {xs ys : List (List UInt8)} {k : Nat} (h : stand xs ys k) (h1 : ¬ k < xs.length) (h2 : k < ys.length) : Pt.comp xs ys = -1 := by
  rw [h.2.2, List.drop_eq_getElem_cons h2, drop_all h1]; rfl
theorem stand_same {xs ys : List (List UInt8)} {k : Nat} (h : stand xs ys k) (h1 : ¬ k < xs.length) (h2 : ¬ k < ys.length) : Pt.comp xs ys = 0 := by
  rw [h.2.2, drop_all h1, drop_all h2]; rfl

theorem ret_int {a b : Int} (h : a = b) : Ending.returned (.int .i64 a) = .returned (.int .i64 b) := by rw [h]

/-- Two texts lie in memory. -/
structure Two (w : World) (p q : Addr) (x y : List UInt8) (W : World) : Prop where
  a : W.cell? p = some (.string ⟨x.toArray⟩)
  b : W.cell? q = some (.string ⟨y.toArray⟩)
  below : Below w.heap.size w W
theorem Two.on {w W W' : World} {p q : Addr} {x y : List UInt8} (h : Two w p q x y W) (hb : Below W.heap.size W W') : Two w p q x y W' :=
  ⟨(hb.cell (World.block_lt_of_cell? _ _ h.a)).trans h.a, (hb.cell (World.block_lt_of_cell? _ _ h.b)).trans h.b, h.below.trans (hb.mono h.below.size)⟩
theorem Two.drew {w W : World} {p q : Addr} {x y : List UInt8} (h : Two w p q x y W) : Two w p q x y W.drew := ⟨h.a, h.b, h.below.drew⟩
theorem Two.parts {w W : World} {p q : Addr} {x y : List UInt8} (h : Two w p q x y W) : W.cell? p = some (.string ⟨x.toArray⟩) ∧ W.cell? q = some (.string ⟨y.toArray⟩) ∧ Below w.heap.size w W := ⟨h.a, h.b, h.below⟩

set_option maxRecDepth 20000 in
set_option maxHeartbeats 2000000 in
theorem refCompare_any (va vb : Value) (xs ys : List (List UInt8)) (w : World) (hx : xs.length ≤ 2000000) (_hy : ys.length ≤ 2000000) (hz : ∀ x ∈ xs, x.length ≤ 2000000) (ha : strsAt w va xs) (hb : strsAt w vb ys) :
    Calls Tryz.prog 22 #[va, vb] w fun e w' => e = .returned (.int .i64 (Pt.comp xs ys)) ∧ Below w.heap.size w w' := by
  obtain ⟨ao, ca, rfl, _, hca⟩ := ha
  obtain ⟨bo, cb, rfl, _, hcb⟩ := hb
  go_enter Tryz.func22, Tryz.ntmps22
  go_wp2
  go_loopw [5] (fun i wr => ∃ k : Nat, i = .int .i64 k ∧ stand xs ys k ∧ Below w.heap.size w wr) (fun i _ => xs.length - (intOf i).toNat)
  case atStart => exact ⟨0, rfl, stand_zero _ _, Below.refl _ w⟩
  case round =>
    obtain ⟨k, rfl, hS, hbw⟩ := hrel
    have hk1 := hS.1
    have hk2 := hS.2.1
    by_cases h1 : k < xs.length
    · by_cases h2 : k < ys.length
      · obtain ⟨ad, rfl, hA⟩ := hca k h1
        obtain ⟨bd, rfl, hB⟩ := hcb k h2
        have hA2 : ∀ W, Below w.heap.size w W → W.cell? (ad.add k) = some (.string ⟨(xs[k]).toArray⟩) := fun W hW => (hW.cell (World.block_lt_of_cell? _ _ hA)).trans hA
        have hB2 : ∀ W, Below w.heap.size w W → W.cell? (bd.add k) = some (.string ⟨(ys[k]).toArray⟩) := fun W hW => (hW.cell (World.block_lt_of_cell? _ _ hB)).trans hB
        have a1 := hA2 wr hbw
        have b1 := hB2 wr hbw
        clear hca hA hcb hB hA2 hB2
        have HC := fun W => refTexts_list xs[k] ys[k] W (hz _ (List.getElem_mem h1))
        clear hz
        by_cases he : Lib.compareBytes xs[k] ys[k] = 0
        · have HS : Hid (stand xs ys (k + 1)) := stand_succ hS h1 h2 he
          rw [he] at HC
          clear hS he
          generalize xs[k] = x at *
          generalize ys[k] = y at *
          go_wp2_with fail
          go_region_held3 (fun W => W.cell? (ad.add k) = some (.string ⟨x.toArray⟩) ∧ W.cell? (bd.add k) = some (.string ⟨y.toArray⟩) ∧ Below w.heap.size w W) (first | exact ⟨a1, b1, hbw⟩ | exact (Two.drew ⟨a1, b1, hbw⟩).parts | exact ((Two.drew ⟨a1, b1, hbw⟩).on hb1).parts) (first | (go_at_call 58; (refine (HC _).mono ?_); rintro e w1 ⟨rfl, hb1⟩))
          all_goals
            go_wp2
            go_roundw
            case rel => exact ⟨k + 1, by go_num, HS.out, (by first | exact hbw.drew.trans (hb1.mono hbw.drew.size) | exact (hbw.drew.trans (hb1.mono hbw.drew.size)).drew)⟩
            case measure => simp [intOf]; omega
        · have HL : Hid (Lib.compareBytes xs[k] ys[k] = Pt.comp xs ys) := (stand_diff hS h1 h2 he).symm
          have hc := Pt.cb_cases xs[k] ys[k]
          have hn : (Lib.compareBytes xs[k] ys[k] != 0) = true := by simpa using he
          clear hS
          generalize xs[k] = x at *
          generalize ys[k] = y at *
          generalize Lib.compareBytes x y = c at *
          go_wp2_with fail
          go_region_held3 (fun W => W.cell? (ad.add k) = some (.string ⟨x.toArray⟩) ∧ W.cell? (bd.add k) = some (.string ⟨y.toArray⟩) ∧ Below w.heap.size w W) (first | exact ⟨a1, b1, hbw⟩ | exact (Two.drew ⟨a1, b1, hbw⟩).parts | exact ((Two.drew ⟨a1, b1, hbw⟩).on hb1).parts) (first | (go_at_call 58; (refine (HC _).mono ?_); rintro e w1 ⟨rfl, hb1⟩))
          all_goals
            go_wp2
            go_ret
            exact ⟨ret_int HL.out, (by first | exact hbw.drew.trans (hb1.mono hbw.drew.size) | exact (hbw.drew.trans (hb1.mono hbw.drew.size)).drew)⟩
      · have HL : Hid (Pt.comp xs ys = 1) := stand_more hS h1 h2
        clear hS hcb hca hz
        go_wp2
        go_ret
        exact ⟨ret_int HL.out.symm, hbw⟩
    · by_cases h2 : k < ys.length
      · have HL : Hid (Pt.comp xs ys = -1) := stand_less hS h1 h2
        clear hS hcb hca hz
        go_wp2
        go_ret
        exact ⟨ret_int HL.out.symm, hbw⟩
      · have HL : Hid (Pt.comp xs ys = 0) := stand_same hS h1 h2
        clear hS hcb hca hz
        go_wp2
        go_ret
        exact ⟨ret_int HL.out.symm, hbw⟩

end Go.Proofs.YthlhopdlkkeohaaGreatDoor.U
/- The walks of live's At and Under. -/
namespace Go.Proofs.YthlhopdlkkeohaaGreatDoor.O
open Go.RowKit

/-- An item in a variable, a leaf and a path in boxes. -/
structure AtS (w W0 : World) (x : IE) (lb : Nat) (leaf : Int) (pb : Nat) (pq : Value) (W : World) : Prop where
  px : IcAt W ⟨w.heap.size, 0, none⟩ x
  lf : W.cell? ⟨lb, 0, none⟩ = some (.int .i64 leaf)
  pb : W.cell? ⟨pb, 0, none⟩ = some pq
  below : Below W0.heap.size W0 W
theorem AtS.on {w W0 : World} {x : IE} {lb : Nat} {leaf : Int} {pb : Nat} {pq : Value} {W W' : World} (h : AtS w W0 x lb leaf pb pq W) (hb : Below W.heap.size W W') : AtS w W0 x lb leaf pb pq W' := ⟨h.px.on hb, keep_cell hb h.lf, keep_cell hb h.pb, bchain h.below hb⟩
def isAt (p : List (List UInt8)) (leaf : Int) (x : Lv.Item) : Bool := decide (Os.leaf x.o.k = leaf ∧ x.o.p = p)

set_option maxRecDepth 20000 in
set_option maxHeartbeats 1000000 in
theorem notAt_any (x : IE) (lb pb : Nat) (leaf : Int) (p : List (List UInt8)) (pq : Value) (w : World) (hsh : Os.short x.1.o = true) (hx : IOk w x) (hl : w.cell? ⟨lb, 0, none⟩ = some (.int .i64 leaf)) (hq : w.cell? ⟨pb, 0, none⟩ = some pq) (hp : U.strsAt w pq p) :
    Calls Tryz.prog 153 #[.agg (icell x).toArray, .pointer (some ⟨lb, 0, none⟩), .pointer (some ⟨pb, 0, none⟩)] w fun e w' => e = .returned (.bool (!isAt p leaf x.1)) ∧ Below w.heap.size w w' := by
  obtain ⟨it, pv, sv⟩ := x
  obtain ⟨pa, pn, pc, rfl⟩ := strs_slice hx.1
  obtain ⟨sa, sn, sc, rfl⟩ := refs_slice hx.2
  obtain ⟨qa, qn, qc, rfl⟩ := strs_slice hp
  obtain ⟨W0, hW0⟩ : ∃ W0, W0 = w.alloc (.cells (icell (it, .slice pa pn pc, .slice sa sn sc)).toArray 76) := ⟨_, rfl⟩
  have B0 : Below w.heap.size w W0 := by rw [hW0]; exact below_new _ _
  have X0 : IcAt W0 ⟨w.heap.size, 0, none⟩ (it, .slice pa pn pc, .slice sa sn sc) := by rw [hW0]; exact IcAt.new w _ 76
  have HLf : ∀ W, Calls Tryz.prog 72 #[.int .i64 it.o.k] W fun e w' => e = .returned (.int .i64 (Os.leaf it.o.k)) ∧ Below W.heap.size W w' := fun W => (leaf_any it.o.k W).mono fun e w' ⟨h1, h2⟩ => ⟨h1, by rw [h2]; exact Below.refl _ _⟩
  have hsh : Os.short it.o = true := hsh
  have hlen : it.o.p.length ≤ 2000000 := by have := (short_parts hsh).1.1; omega
  have HPs := fun W (hb : Below W0.heap.size W0 W) => U.psame_any (.slice pa pn pc) (.slice qa qn qc) it.o.p p W hlen (hx.on (bchain B0 hb)).1 (U.strsAt_below hp (bchain B0 hb) (Nat.le_refl _))
  have hAS : AtS w W0 (it, .slice pa pn pc, .slice sa sn sc) lb leaf pb (.slice qa qn qc) W0.drew := ⟨X0.on (Below.refl _ _).drew, keep_cell (bchain B0 (Below.refl _ _).drew) hl, keep_cell (bchain B0 (Below.refl _ _).drew) hq, (Below.refl _ _).drew⟩
  show Calls Tryz.prog 153 #[.agg #[.int .i64 it.x.1.1, .int .i64 it.x.1.2, .int .i64 it.x.2, .int .i64 it.o.k, .slice pa pn pc, .int .i64 it.o.vk, .int .i64 it.o.vn, .string ⟨it.o.vs.toArray⟩, .int .i64 it.o.n, .slice sa sn sc, .int .i64 it.t], .pointer (some ⟨lb, 0, none⟩), .pointer (some ⟨pb, 0, none⟩)] w fun e w' => e = .returned (.bool (!decide (Os.leaf it.o.k = leaf ∧ it.o.p = p))) ∧ Below w.heap.size w w'
  clear hx hp X0 hsh hlen hl hq
  subst hW0
  by_cases hlf : Os.leaf it.o.k = leaf
  · by_cases hsm : it.o.p = p
    · rw [decide_eq_true (⟨hlf, hsm⟩ : Os.leaf it.o.k = leaf ∧ it.o.p = p)]
      simp only [hsm, decide_true] at HPs
      go_enter Tryz.func153, Tryz.ntmps153
      go_wp2
      refine wp_region_held_drew (S := fun W => AtS w (w.alloc (.cells (icell (it, .slice pa pn pc, .slice sa sn sc)).toArray 76)) (it, .slice pa pn pc, .slice sa sn sc) lb leaf pb (.slice qa qn qc) W) (by kernel_rfl) (hAS) (fun hH0 => ?_)
      refine held_take (i := 0) (o := { dst := some 5, op := Op.fieldAddr 76 (Operand.tmp 3) 1, type := 0, pos := "live.go:63", after := #[], guard := none }) (v := .pointer (some ⟨w.heap.size, 0 + 3, none⟩)) (by kernel_rfl) (by kernel_rfl) (by kernel_rfl) (by kernel_rfl) (fun _ _ _ h => h) (by kernel_rfl) (fun W _ => ex_f_item_1 (p := ⟨w.heap.size, 0, none⟩) rfl (by kernel_rfl) W) hH0 ?_
      refine held_take (i := 1) (o := { dst := some 6, op := Op.fieldAddr 65 (Operand.tmp 5) 0, type := 0, pos := "live.go:63", after := #[{ on := 0, ground := Ground.data }], guard := none }) (v := .pointer (some ⟨w.heap.size, 0 + 3, none⟩)) (by kernel_rfl) (by kernel_rfl) (by kernel_rfl) (by kernel_rfl) (fun _ _ _ h => h) (by kernel_rfl) (fun W _ => ex_f_op_0 (p := ⟨w.heap.size, 0 + 3, none⟩) rfl (by kernel_rfl) W) hH0 ?_
      refine held_take (i := 2) (o := { dst := some 7, op := Op.load 3 (Operand.tmp 6), type := 3, pos := "live.go:63", after := #[{ on := 1, ground := Ground.data }], guard := none }) (v := .int .i64 it.o.k) (by kernel_rfl) (by kernel_rfl) (by kernel_rfl) (by kernel_rfl) (fun _ _ _ h => h) (by kernel_rfl) (fun _ h => ex_l1_int (p := ⟨w.heap.size, 0 + 3, none⟩) rfl (by kernel_rfl) (h.px.c3)) hH0 ?_
      refine held_take (i := 4) (o := { dst := some 9, op := Op.load 3 (Operand.tmp 1), type := 3, pos := "live.go:63", after := #[], guard := none }) (v := .int .i64 leaf) (by kernel_rfl) (by kernel_rfl) (by kernel_rfl) (by kernel_rfl) (fun _ _ _ h => h) (by kernel_rfl) (fun _ h => ex_l1_int (p := ⟨lb, 0, none⟩) rfl (by kernel_rfl) (h.lf)) hH0 ?_
      refine held_callX (i := 3) (o := { dst := some 8, op := Op.call { callee := Callee.value (Operand.func 72), args := #[Operand.tmp 7], argTypes := #[3] }, type := 3, pos := "live.go:63", after := #[{ on := 2, ground := Ground.data }], guard := none }) (F := 72) (vs := #[.int .i64 it.o.k]) (by kernel_rfl) (by kernel_rfl) (by kernel_rfl) (fun _ => by kernel_rfl) (HLf _) ?_
      rintro e w1 ⟨rfl, hb1⟩
      have hH1 := hH0.on hb1
      refine ⟨.int .i64 (Os.leaf it.o.k), rfl, hH1, ?_⟩
      refine held_take (i := 5) (o := { dst := some 10, op := Op.binOp BinOp.neq 3 (Operand.tmp 8) (Operand.tmp 9) 3, type := 4, pos := "live.go:63", after := #[{ on := 3, ground := Ground.data }, { on := 4, ground := Ground.data }], guard := none }) (v := .bool false) (by kernel_rfl) (by kernel_rfl) (by kernel_rfl) (by kernel_rfl) (fun _ _ _ h => h) (by kernel_rfl) (fun W _ => exec_bin rfl (by kernel_rfl) (by kernel_rfl) (fun _ => by kernel_rfl) (neqi_no hlf) W) hH1 ?_
      refine held_take (i := 6) (o := { dst := some 11, op := Op.move (Operand.tmp 10), type := 4, pos := "live.go:63", after := #[{ on := 5, ground := Ground.data }, { on := 3, ground := Ground.chain }], guard := none }) (v := .bool false) (by kernel_rfl) (by kernel_rfl) (by kernel_rfl) (by kernel_rfl) (fun _ _ _ h => h) (by kernel_rfl) (fun _ _ => by kernel_rfl) hH1 ?_
      refine held_take (i := 7) (o := { dst := some 12, op := Op.fieldAddr 76 (Operand.tmp 3) 1, type := 0, pos := "live.go:63", after := #[{ on := 6, ground := Ground.guard }], guard := some (6, false) }) (v := .pointer (some ⟨w.heap.size, 0 + 3, none⟩)) (by kernel_rfl) (by kernel_rfl) (by kernel_rfl) (by kernel_rfl) (fun _ _ _ h => h) (by kernel_rfl) (fun W _ => ex_f_item_1 (p := ⟨w.heap.size, 0, none⟩) rfl (by kernel_rfl) W) hH1 ?_
      refine held_take (i := 8) (o := { dst := some 13, op := Op.fieldAddr 65 (Operand.tmp 12) 1, type := 0, pos := "live.go:63", after := #[{ on := 7, ground := Ground.data }, { on := 6, ground := Ground.guard }], guard := some (6, false) }) (v := .pointer (some ⟨w.heap.size, 0 + 4, none⟩)) (by kernel_rfl) (by kernel_rfl) (by kernel_rfl) (by kernel_rfl) (fun _ _ _ h => h) (by kernel_rfl) (fun W _ => ex_f_op_1 (p := ⟨w.heap.size, 0 + 3, none⟩) rfl (by kernel_rfl) W) hH1 ?_
      refine held_take (i := 9) (o := { dst := some 14, op := Op.load 24 (Operand.tmp 13), type := 24, pos := "live.go:63", after := #[{ on := 8, ground := Ground.data }, { on := 6, ground := Ground.guard }], guard := some (6, false) }) (v := .slice pa pn pc) (by kernel_rfl) (by kernel_rfl) (by kernel_rfl) (by kernel_rfl) (fun _ _ _ h => h) (by kernel_rfl) (fun _ h => ex_l1_strs (p := ⟨w.heap.size, 0 + 4, none⟩) rfl (by kernel_rfl) (h.px.c4)) hH1 ?_
      refine held_take (i := 10) (o := { dst := some 15, op := Op.load 24 (Operand.tmp 2), type := 24, pos := "live.go:63", after := #[{ on := 6, ground := Ground.guard }], guard := some (6, false) }) (v := .slice qa qn qc) (by kernel_rfl) (by kernel_rfl) (by kernel_rfl) (by kernel_rfl) (fun _ _ _ h => h) (by kernel_rfl) (fun _ h => ex_l1_strs (p := ⟨pb, 0, none⟩) rfl (by kernel_rfl) (h.pb)) hH1 ?_
      refine held_callX (i := 11) (o := { dst := some 16, op := Op.call { callee := Callee.value (Operand.func 77), args := #[Operand.tmp 14, Operand.tmp 15], argTypes := #[24, 24] }, type := 4, pos := "live.go:63", after := #[{ on := 9, ground := Ground.data }, { on := 10, ground := Ground.data }, { on := 6, ground := Ground.chain }, { on := 6, ground := Ground.guard }], guard := some (6, false) }) (F := 77) (vs := #[.slice pa pn pc, .slice qa qn qc]) (by kernel_rfl) (by kernel_rfl) (by kernel_rfl) (fun _ => by kernel_rfl) (HPs _ hH1.below) ?_
      rintro e w2 ⟨rfl, hb2⟩
      have hH2 := hH1.on hb2
      refine ⟨.bool true, rfl, hH2, ?_⟩
      refine held_take (i := 12) (o := { dst := some 17, op := Op.unOp UnOp.not 4 (Operand.tmp 16), type := 4, pos := "live.go:63", after := #[{ on := 11, ground := Ground.data }, { on := 6, ground := Ground.guard }], guard := some (6, false) }) (v := .bool false) (by kernel_rfl) (by kernel_rfl) (by kernel_rfl) (by kernel_rfl) (fun _ _ _ h => h) (by kernel_rfl) (fun W _ => exec_un rfl (by kernel_rfl) (not_of true) W) hH2 ?_
      refine held_take (i := 13) (o := { dst := some 18, op := Op.pick (Operand.tmp 11) (Operand.const (Value.bool true)) (Operand.tmp 17), type := 4, pos := "live.go:63", after := #[{ on := 6, ground := Ground.data }, { on := 12, ground := Ground.data }], guard := none }) (v := .bool false) (by kernel_rfl) (by kernel_rfl) (by kernel_rfl) (by kernel_rfl) (fun _ _ _ h => h) (by kernel_rfl) (fun _ _ => by kernel_rfl) hH2 ?_
      refine held_do (i := 14) (o := { dst := some 4, op := Op.assign (Operand.tmp 18), type := 4, pos := "live.go:63", after := #[{ on := 13, ground := Ground.data }, { on := 11, ground := Ground.chain }, { on := 0, ground := Ground.phase }, { on := 1, ground := Ground.phase }, { on := 2, ground := Ground.phase }, { on := 3, ground := Ground.phase }, { on := 4, ground := Ground.phase }, { on := 5, ground := Ground.phase }, { on := 6, ground := Ground.phase }, { on := 7, ground := Ground.phase }, { on := 8, ground := Ground.phase }, { on := 9, ground := Ground.phase }, { on := 10, ground := Ground.phase }, { on := 11, ground := Ground.phase }, { on := 12, ground := Ground.phase }, { on := 13, ground := Ground.phase }], guard := none }) (v := .bool false) (by kernel_rfl) (by kernel_rfl) (by kernel_rfl) (by kernel_rfl) hH2 ?_
      refine wpAnyH_done (by kernel_rfl) ?_ _
      simp only [Act.put, List.setIfInBounds_toArray, List.set_cons_zero, List.set_cons_succ]
      go_wp2
      go_ret
      exact ⟨rfl, bchain B0 hH2.below⟩
    · rw [decide_eq_false (fun q : Os.leaf it.o.k = leaf ∧ it.o.p = p => hsm q.2)]
      simp only [hsm, decide_false] at HPs
      go_enter Tryz.func153, Tryz.ntmps153
      go_wp2
      refine wp_region_held_drew (S := fun W => AtS w (w.alloc (.cells (icell (it, .slice pa pn pc, .slice sa sn sc)).toArray 76)) (it, .slice pa pn pc, .slice sa sn sc) lb leaf pb (.slice qa qn qc) W) (by kernel_rfl) (hAS) (fun hH0 => ?_)
      refine held_take (i := 0) (o := { dst := some 5, op := Op.fieldAddr 76 (Operand.tmp 3) 1, type := 0, pos := "live.go:63", after := #[], guard := none }) (v := .pointer (some ⟨w.heap.size, 0 + 3, none⟩)) (by kernel_rfl) (by kernel_rfl) (by kernel_rfl) (by kernel_rfl) (fun _ _ _ h => h) (by kernel_rfl) (fun W _ => ex_f_item_1 (p := ⟨w.heap.size, 0, none⟩) rfl (by kernel_rfl) W) hH0 ?_
      refine held_take (i := 1) (o := { dst := some 6, op := Op.fieldAddr 65 (Operand.tmp 5) 0, type := 0, pos := "live.go:63", after := #[{ on := 0, ground := Ground.data }], guard := none }) (v := .pointer (some ⟨w.heap.size, 0 + 3, none⟩)) (by kernel_rfl) (by kernel_rfl) (by kernel_rfl) (by kernel_rfl) (fun _ _ _ h => h) (by kernel_rfl) (fun W _ => ex_f_op_0 (p := ⟨w.heap.size, 0 + 3, none⟩) rfl (by kernel_rfl) W) hH0 ?_
      refine held_take (i := 2) (o := { dst := some 7, op := Op.load 3 (Operand.tmp 6), type := 3, pos := "live.go:63", after := #[{ on := 1, ground := Ground.data }], guard := none }) (v := .int .i64 it.o.k) (by kernel_rfl) (by kernel_rfl) (by kernel_rfl) (by kernel_rfl) (fun _ _ _ h => h) (by kernel_rfl) (fun _ h => ex_l1_int (p := ⟨w.heap.size, 0 + 3, none⟩) rfl (by kernel_rfl) (h.px.c3)) hH0 ?_
      refine held_take (i := 4) (o := { dst := some 9, op := Op.load 3 (Operand.tmp 1), type := 3, pos := "live.go:63", after := #[], guard := none }) (v := .int .i64 leaf) (by kernel_rfl) (by kernel_rfl) (by kernel_rfl) (by kernel_rfl) (fun _ _ _ h => h) (by kernel_rfl) (fun _ h => ex_l1_int (p := ⟨lb, 0, none⟩) rfl (by kernel_rfl) (h.lf)) hH0 ?_
      refine held_callX (i := 3) (o := { dst := some 8, op := Op.call { callee := Callee.value (Operand.func 72), args := #[Operand.tmp 7], argTypes := #[3] }, type := 3, pos := "live.go:63", after := #[{ on := 2, ground := Ground.data }], guard := none }) (F := 72) (vs := #[.int .i64 it.o.k]) (by kernel_rfl) (by kernel_rfl) (by kernel_rfl) (fun _ => by kernel_rfl) (HLf _) ?_
      rintro e w1 ⟨rfl, hb1⟩
      have hH1 := hH0.on hb1
      refine ⟨.int .i64 (Os.leaf it.o.k), rfl, hH1, ?_⟩
      refine held_take (i := 5) (o := { dst := some 10, op := Op.binOp BinOp.neq 3 (Operand.tmp 8) (Operand.tmp 9) 3, type := 4, pos := "live.go:63", after := #[{ on := 3, ground := Ground.data }, { on := 4, ground := Ground.data }], guard := none }) (v := .bool false) (by kernel_rfl) (by kernel_rfl) (by kernel_rfl) (by kernel_rfl) (fun _ _ _ h => h) (by kernel_rfl) (fun W _ => exec_bin rfl (by kernel_rfl) (by kernel_rfl) (fun _ => by kernel_rfl) (neqi_no hlf) W) hH1 ?_
      refine held_take (i := 6) (o := { dst := some 11, op := Op.move (Operand.tmp 10), type := 4, pos := "live.go:63", after := #[{ on := 5, ground := Ground.data }, { on := 3, ground := Ground.chain }], guard := none }) (v := .bool false) (by kernel_rfl) (by kernel_rfl) (by kernel_rfl) (by kernel_rfl) (fun _ _ _ h => h) (by kernel_rfl) (fun _ _ => by kernel_rfl) hH1 ?_
      refine held_take (i := 7) (o := { dst := some 12, op := Op.fieldAddr 76 (Operand.tmp 3) 1, type := 0, pos := "live.go:63", after := #[{ on := 6, ground := Ground.guard }], guard := some (6, false) }) (v := .pointer (some ⟨w.heap.size, 0 + 3, none⟩)) (by kernel_rfl) (by kernel_rfl) (by kernel_rfl) (by kernel_rfl) (fun _ _ _ h => h) (by kernel_rfl) (fun W _ => ex_f_item_1 (p := ⟨w.heap.size, 0, none⟩) rfl (by kernel_rfl) W) hH1 ?_
      refine held_take (i := 8) (o := { dst := some 13, op := Op.fieldAddr 65 (Operand.tmp 12) 1, type := 0, pos := "live.go:63", after := #[{ on := 7, ground := Ground.data }, { on := 6, ground := Ground.guard }], guard := some (6, false) }) (v := .pointer (some ⟨w.heap.size, 0 + 4, none⟩)) (by kernel_rfl) (by kernel_rfl) (by kernel_rfl) (by kernel_rfl) (fun _ _ _ h => h) (by kernel_rfl) (fun W _ => ex_f_op_1 (p := ⟨w.heap.size, 0 + 3, none⟩) rfl (by kernel_rfl) W) hH1 ?_
      refine held_take (i := 9) (o := { dst := some 14, op := Op.load 24 (Operand.tmp 13), type := 24, pos := "live.go:63", after := #[{ on := 8, ground := Ground.data }, { on := 6, ground := Ground.guard }], guard := some (6, false) }) (v := .slice pa pn pc) (by kernel_rfl) (by kernel_rfl) (by kernel_rfl) (by kernel_rfl) (fun _ _ _ h => h) (by kernel_rfl) (fun _ h => ex_l1_strs (p := ⟨w.heap.size, 0 + 4, none⟩) rfl (by kernel_rfl) (h.px.c4)) hH1 ?_
      refine held_take (i := 10) (o := { dst := some 15, op := Op.load 24 (Operand.tmp 2), type := 24, pos := "live.go:63", after := #[{ on := 6, ground := Ground.guard }], guard := some (6, false) }) (v := .slice qa qn qc) (by kernel_rfl) (by kernel_rfl) (by kernel_rfl) (by kernel_rfl) (fun _ _ _ h => h) (by kernel_rfl) (fun _ h => ex_l1_strs (p := ⟨pb, 0, none⟩) rfl (by kernel_rfl) (h.pb)) hH1 ?_
      refine held_callX (i := 11) (o := { dst := some 16, op := Op.call { callee := Callee.value (Operand.func 77), args := #[Operand.tmp 14, Operand.tmp 15], argTypes := #[24, 24] }, type := 4, pos := "live.go:63", after := #[{ on := 9, ground := Ground.data }, { on := 10, ground := Ground.data }, { on := 6, ground := Ground.chain }, { on := 6, ground := Ground.guard }], guard := some (6, false) }) (F := 77) (vs := #[.slice pa pn pc, .slice qa qn qc]) (by kernel_rfl) (by kernel_rfl) (by kernel_rfl) (fun _ => by kernel_rfl) (HPs _ hH1.below) ?_
      rintro e w2 ⟨rfl, hb2⟩
      have hH2 := hH1.on hb2
      refine ⟨.bool false, rfl, hH2, ?_⟩
      refine held_take (i := 12) (o := { dst := some 17, op := Op.unOp UnOp.not 4 (Operand.tmp 16), type := 4, pos := "live.go:63", after := #[{ on := 11, ground := Ground.data }, { on := 6, ground := Ground.guard }], guard := some (6, false) }) (v := .bool true) (by kernel_rfl) (by kernel_rfl) (by kernel_rfl) (by kernel_rfl) (fun _ _ _ h => h) (by kernel_rfl) (fun W _ => exec_un rfl (by kernel_rfl) (not_of false) W) hH2 ?_
      refine held_take (i := 13) (o := { dst := some 18, op := Op.pick (Operand.tmp 11) (Operand.const (Value.bool true)) (Operand.tmp 17), type := 4, pos := "live.go:63", after := #[{ on := 6, ground := Ground.data }, { on := 12, ground := Ground.data }], guard := none }) (v := .bool true) (by kernel_rfl) (by kernel_rfl) (by kernel_rfl) (by kernel_rfl) (fun _ _ _ h => h) (by kernel_rfl) (fun _ _ => by kernel_rfl) hH2 ?_
      refine held_do (i := 14) (o := { dst := some 4, op := Op.assign (Operand.tmp 18), type := 4, pos := "live.go:63", after := #[{ on := 13, ground := Ground.data }, { on := 11, ground := Ground.chain }, { on := 0, ground := Ground.phase }, { on := 1, ground := Ground.phase }, { on := 2, ground := Ground.phase }, { on := 3, ground := Ground.phase }, { on := 4, ground := Ground.phase }, { on := 5, ground := Ground.phase }, { on := 6, ground := Ground.phase }, { on := 7, ground := Ground.phase }, { on := 8, ground := Ground.phase }, { on := 9, ground := Ground.phase }, { on := 10, ground := Ground.phase }, { on := 11, ground := Ground.phase }, { on := 12, ground := Ground.phase }, { on := 13, ground := Ground.phase }], guard := none }) (v := .bool true) (by kernel_rfl) (by kernel_rfl) (by kernel_rfl) (by kernel_rfl) hH2 ?_
      refine wpAnyH_done (by kernel_rfl) ?_ _
      simp only [Act.put, List.setIfInBounds_toArray, List.set_cons_zero, List.set_cons_succ]
      go_wp2
      go_ret
      exact ⟨rfl, bchain B0 hH2.below⟩
  · rw [decide_eq_false (fun q : Os.leaf it.o.k = leaf ∧ it.o.p = p => hlf q.1)]
    go_enter Tryz.func153, Tryz.ntmps153
    go_wp2
    refine wp_region_held_drew (S := fun W => AtS w (w.alloc (.cells (icell (it, .slice pa pn pc, .slice sa sn sc)).toArray 76)) (it, .slice pa pn pc, .slice sa sn sc) lb leaf pb (.slice qa qn qc) W) (by kernel_rfl) (hAS) (fun hH0 => ?_)
    refine held_take (i := 0) (o := { dst := some 5, op := Op.fieldAddr 76 (Operand.tmp 3) 1, type := 0, pos := "live.go:63", after := #[], guard := none }) (v := .pointer (some ⟨w.heap.size, 0 + 3, none⟩)) (by kernel_rfl) (by kernel_rfl) (by kernel_rfl) (by kernel_rfl) (fun _ _ _ h => h) (by kernel_rfl) (fun W _ => ex_f_item_1 (p := ⟨w.heap.size, 0, none⟩) rfl (by kernel_rfl) W) hH0 ?_
    refine held_take (i := 1) (o := { dst := some 6, op := Op.fieldAddr 65 (Operand.tmp 5) 0, type := 0, pos := "live.go:63", after := #[{ on := 0, ground := Ground.data }], guard := none }) (v := .pointer (some ⟨w.heap.size, 0 + 3, none⟩)) (by kernel_rfl) (by kernel_rfl) (by kernel_rfl) (by kernel_rfl) (fun _ _ _ h => h) (by kernel_rfl) (fun W _ => ex_f_op_0 (p := ⟨w.heap.size, 0 + 3, none⟩) rfl (by kernel_rfl) W) hH0 ?_
    refine held_take (i := 2) (o := { dst := some 7, op := Op.load 3 (Operand.tmp 6), type := 3, pos := "live.go:63", after := #[{ on := 1, ground := Ground.data }], guard := none }) (v := .int .i64 it.o.k) (by kernel_rfl) (by kernel_rfl) (by kernel_rfl) (by kernel_rfl) (fun _ _ _ h => h) (by kernel_rfl) (fun _ h => ex_l1_int (p := ⟨w.heap.size, 0 + 3, none⟩) rfl (by kernel_rfl) (h.px.c3)) hH0 ?_
    refine held_take (i := 4) (o := { dst := some 9, op := Op.load 3 (Operand.tmp 1), type := 3, pos := "live.go:63", after := #[], guard := none }) (v := .int .i64 leaf) (by kernel_rfl) (by kernel_rfl) (by kernel_rfl) (by kernel_rfl) (fun _ _ _ h => h) (by kernel_rfl) (fun _ h => ex_l1_int (p := ⟨lb, 0, none⟩) rfl (by kernel_rfl) (h.lf)) hH0 ?_
    refine held_callX (i := 3) (o := { dst := some 8, op := Op.call { callee := Callee.value (Operand.func 72), args := #[Operand.tmp 7], argTypes := #[3] }, type := 3, pos := "live.go:63", after := #[{ on := 2, ground := Ground.data }], guard := none }) (F := 72) (vs := #[.int .i64 it.o.k]) (by kernel_rfl) (by kernel_rfl) (by kernel_rfl) (fun _ => by kernel_rfl) (HLf _) ?_
    rintro e w1 ⟨rfl, hb1⟩
    have hH1 := hH0.on hb1
    refine ⟨.int .i64 (Os.leaf it.o.k), rfl, hH1, ?_⟩
    refine held_take (i := 5) (o := { dst := some 10, op := Op.binOp BinOp.neq 3 (Operand.tmp 8) (Operand.tmp 9) 3, type := 4, pos := "live.go:63", after := #[{ on := 3, ground := Ground.data }, { on := 4, ground := Ground.data }], guard := none }) (v := .bool true) (by kernel_rfl) (by kernel_rfl) (by kernel_rfl) (by kernel_rfl) (fun _ _ _ h => h) (by kernel_rfl) (fun W _ => exec_bin rfl (by kernel_rfl) (by kernel_rfl) (fun _ => by kernel_rfl) (neqi_yes hlf) W) hH1 ?_
    refine held_take (i := 6) (o := { dst := some 11, op := Op.move (Operand.tmp 10), type := 4, pos := "live.go:63", after := #[{ on := 5, ground := Ground.data }, { on := 3, ground := Ground.chain }], guard := none }) (v := .bool true) (by kernel_rfl) (by kernel_rfl) (by kernel_rfl) (by kernel_rfl) (fun _ _ _ h => h) (by kernel_rfl) (fun _ _ => by kernel_rfl) hH1 ?_
    refine held_skip (i := 7) (o := { dst := some 12, op := Op.fieldAddr 76 (Operand.tmp 3) 1, type := 0, pos := "live.go:63", after := #[{ on := 6, ground := Ground.guard }], guard := some (6, false) }) (by kernel_rfl) (by kernel_rfl) (by kernel_rfl) (by kernel_rfl) (fun _ _ _ h => h) (by kernel_rfl) hH1 ?_
    refine held_skip (i := 8) (o := { dst := some 13, op := Op.fieldAddr 65 (Operand.tmp 12) 1, type := 0, pos := "live.go:63", after := #[{ on := 7, ground := Ground.data }, { on := 6, ground := Ground.guard }], guard := some (6, false) }) (by kernel_rfl) (by kernel_rfl) (by kernel_rfl) (by kernel_rfl) (fun _ _ _ h => h) (by kernel_rfl) hH1 ?_
    refine held_skip (i := 9) (o := { dst := some 14, op := Op.load 24 (Operand.tmp 13), type := 24, pos := "live.go:63", after := #[{ on := 8, ground := Ground.data }, { on := 6, ground := Ground.guard }], guard := some (6, false) }) (by kernel_rfl) (by kernel_rfl) (by kernel_rfl) (by kernel_rfl) (fun _ _ _ h => h) (by kernel_rfl) hH1 ?_
    refine held_skip (i := 10) (o := { dst := some 15, op := Op.load 24 (Operand.tmp 2), type := 24, pos := "live.go:63", after := #[{ on := 6, ground := Ground.guard }], guard := some (6, false) }) (by kernel_rfl) (by kernel_rfl) (by kernel_rfl) (by kernel_rfl) (fun _ _ _ h => h) (by kernel_rfl) hH1 ?_
    refine held_skip (i := 11) (o := { dst := some 16, op := Op.call { callee := Callee.value (Operand.func 77), args := #[Operand.tmp 14, Operand.tmp 15], argTypes := #[24, 24] }, type := 4, pos := "live.go:63", after := #[{ on := 9, ground := Ground.data }, { on := 10, ground := Ground.data }, { on := 6, ground := Ground.chain }, { on := 6, ground := Ground.guard }], guard := some (6, false) }) (by kernel_rfl) (by kernel_rfl) (by kernel_rfl) (by kernel_rfl) (fun _ _ _ h => h) (by kernel_rfl) hH1 ?_
    refine held_skip (i := 12) (o := { dst := some 17, op := Op.unOp UnOp.not 4 (Operand.tmp 16), type := 4, pos := "live.go:63", after := #[{ on := 11, ground := Ground.data }, { on := 6, ground := Ground.guard }], guard := some (6, false) }) (by kernel_rfl) (by kernel_rfl) (by kernel_rfl) (by kernel_rfl) (fun _ _ _ h => h) (by kernel_rfl) hH1 ?_
    refine held_take (i := 13) (o := { dst := some 18, op := Op.pick (Operand.tmp 11) (Operand.const (Value.bool true)) (Operand.tmp 17), type := 4, pos := "live.go:63", after := #[{ on := 6, ground := Ground.data }, { on := 12, ground := Ground.data }], guard := none }) (v := .bool true) (by kernel_rfl) (by kernel_rfl) (by kernel_rfl) (by kernel_rfl) (fun _ _ _ h => h) (by kernel_rfl) (fun _ _ => by kernel_rfl) hH1 ?_
    refine held_do (i := 14) (o := { dst := some 4, op := Op.assign (Operand.tmp 18), type := 4, pos := "live.go:63", after := #[{ on := 13, ground := Ground.data }, { on := 11, ground := Ground.chain }, { on := 0, ground := Ground.phase }, { on := 1, ground := Ground.phase }, { on := 2, ground := Ground.phase }, { on := 3, ground := Ground.phase }, { on := 4, ground := Ground.phase }, { on := 5, ground := Ground.phase }, { on := 6, ground := Ground.phase }, { on := 7, ground := Ground.phase }, { on := 8, ground := Ground.phase }, { on := 9, ground := Ground.phase }, { on := 10, ground := Ground.phase }, { on := 11, ground := Ground.phase }, { on := 12, ground := Ground.phase }, { on := 13, ground := Ground.phase }], guard := none }) (v := .bool true) (by kernel_rfl) (by kernel_rfl) (by kernel_rfl) (by kernel_rfl) hH1 ?_
    refine wpAnyH_done (by kernel_rfl) ?_ _
    simp only [Act.put, List.setIfInBounds_toArray, List.set_cons_zero, List.set_cons_succ]
    go_wp2
    go_ret
    exact ⟨rfl, bchain B0 hH1.below⟩

end Go.Proofs.YthlhopdlkkeohaaGreatDoor.O
