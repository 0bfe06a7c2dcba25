/- The walks of the program's Compare and of the document's · The walks of cmp.Compare of texts, of slices.Compare, Compare and the document's Compare · The walks of live's At and Under · The walks of slices.Clone over items, of live's At and Under · The calls of the library that the program makes and that lie proved over any program: the builder's String: laid at this program. -/
import Derived.Test.YthlhopdlkkeohaaGreatDoorPlainAllAll
import Derived.Deep.RegionHeld3
import Derived.Lib.Small
import Derived.Test.YthlhopdlkkeohaaGreatDoorEqualsAllAll
import Derived.WalkLawsBesides
import Derived.Test.YthlhopdlkkeohaaGreatDoorOpWrapAllAll
import Derived.Test.YthlhopdlkkeohaaGreatDoorKeysAllAll
import Derived.Shelf.Strings.BuilderK
import Derived.Test.YthlhopdlkkeohaaGreatDoorChecked
import Derived.WalkKit
/- The walks of the program's Compare and of the document's · The walks of cmp.Compare of texts, of slices.Compare, Compare and the document's Compare. -/
/- The walks of the program's Compare and of the document's. -/
namespace Go.Proofs.YthlhopdlkkeohaaGreatDoor.U
open Go.RowKit

theorem wrap_i64 {e : Int} (h : -9223372036854775808 ≤ e) (h' : e < 9223372036854775808) : IntKind.i64.wrap e = e := by
  simp [IntKind.wrap, IntKind.signed, IntKind.bits]; try split
  all_goals omega
/-! ### The document's -/
theorem ints_any (x y : Int) (w : World) : Calls Tryz.prog 96 #[.int .i64 x, .int .i64 y] w fun e w' => e = .returned (.int .i64 (Lib.compareInt x y)) ∧ w' = w := by
  by_cases h : x < y
  · rw [show Lib.compareInt x y = -1 by unfold Lib.compareInt; rw [if_pos h]]
    go_enter Tryz.func96, Tryz.ntmps96
    go_wp2
    go_ret
    exact ⟨rfl, rfl⟩
  · by_cases h' : y < x
    · rw [show Lib.compareInt x y = 1 by unfold Lib.compareInt; rw [if_neg h, if_pos h']]
      go_enter Tryz.func96, Tryz.ntmps96
      go_wp2
      go_ret
      exact ⟨rfl, rfl⟩
    · rw [show Lib.compareInt x y = 0 by unfold Lib.compareInt; rw [if_neg h, if_neg h']]
      go_enter Tryz.func96, Tryz.ntmps96
      go_wp2
      go_ret
      exact ⟨rfl, rfl⟩

theorem drop_cons {s : ByteArray} {pos : Nat} (h : pos < s.size) : s.data.toList.drop pos = s[pos] :: s.data.toList.drop (pos + 1) := by
  rw [List.drop_eq_getElem_cons (by rw [size_len]; exact h)]
  rfl
/-- How far two texts are alike. -/
def likeTo (a b : List UInt8) (k : Nat) : Prop := k ≤ a.length ∧ k ≤ b.length ∧ Lib.compareBytes a b = Lib.compareBytes (a.drop k) (b.drop k)
theorem likeTo_zero (a b : List UInt8) : likeTo a b 0 := ⟨by omega, by omega, by simp⟩
theorem likeTo_succ {s t : ByteArray} {k : Nat} (h : likeTo s.data.toList t.data.toList k) (h1 : k < s.size) (h2 : k < t.size) (e : s[k] = t[k]) : likeTo s.data.toList t.data.toList (k + 1) := by
  refine ⟨by rw [size_len]; omega, by rw [size_len]; omega, ?_⟩
  rw [h.2.2, drop_cons h1, drop_cons h2, e]
  simp [Lib.compareBytes]
theorem likeTo_diff {s t : ByteArray} {k : Nat} (h : likeTo s.data.toList t.data.toList k) (h1 : k < s.size) (h2 : k < t.size) (e : s[k] ≠ t[k]) : Lib.compareBytes s.data.toList t.data.toList = Lib.compareInt (s[k].toNat : Int) (t[k].toNat : Int) := by
  rw [h.2.2, drop_cons h1, drop_cons h2]
  have : s[k].toNat ≠ t[k].toNat := fun x => e (UInt8.toNat_inj.1 x)
  simp only [Lib.compareBytes, Lib.compareInt, UInt8.lt_iff_toNat_lt]
  by_cases h3 : s[k].toNat < t[k].toNat
  · rw [if_pos h3, if_pos (by omega)]
  · rw [if_neg h3, if_pos (by omega), if_neg (by omega), if_pos (by omega)]
theorem likeTo_end {s t : ByteArray} {k : Nat} (h : likeTo s.data.toList t.data.toList k) (hk : ¬ (k < s.size ∧ k < t.size)) : Lib.compareBytes s.data.toList t.data.toList = Lib.compareInt (s.size : Int) (t.size : Int) := by
  obtain ⟨h1, h2, h3⟩ := h
  rw [size_len] at h1 h2
  rw [h3]
  by_cases e : k < s.size
  · have e2 : k = t.size := by omega
    rw [drop_cons e, show t.data.toList.drop k = [] from List.drop_eq_nil_of_le (by rw [size_len]; omega)]
    simp only [Lib.compareBytes, Lib.compareInt]
    rw [if_neg (by omega), if_pos (by omega)]
  · rw [show s.data.toList.drop k = [] from List.drop_eq_nil_of_le (by rw [size_len]; omega)]
    by_cases e2 : k < t.size
    · rw [drop_cons e2]
      simp only [Lib.compareBytes, Lib.compareInt]
      rw [if_pos (by omega)]
    · rw [show t.data.toList.drop k = [] from List.drop_eq_nil_of_le (by rw [size_len]; omega)]
      simp only [Lib.compareBytes, Lib.compareInt]
      rw [if_neg (by omega), if_neg (by omega)]

set_option maxRecDepth 20000 in
set_option maxHeartbeats 2000000 in
theorem refTexts_any (s t : ByteArray) (w : World) (hs : s.size ≤ 2000000) :
    Calls Tryz.prog 58 #[.string s, .string t] w fun e w' => e = .returned (.int .i64 (Lib.compareBytes s.data.toList t.data.toList)) ∧ Below w.heap.size w w' := by
  go_enter Tryz.func58, Tryz.ntmps58
  go_wp2
  go_loopw [5] (fun i wr => ∃ k : Nat, i = .int .i64 k ∧ likeTo s.data.toList t.data.toList k ∧ Below w.heap.size w wr) (fun i _ => s.size - (intOf i).toNat)
  case atStart => exact ⟨0, rfl, likeTo_zero _ _, Below.refl _ w⟩
  case round =>
    obtain ⟨k, rfl, hR, hbw⟩ := hrel
    have hl1 := hR.1
    have hl2 := hR.2.1
    rw [size_len] at hl1 hl2
    by_cases h1 : k < s.size
    · by_cases h2 : k < t.size
      · by_cases e : s[k] = t[k]
        · have HR : Hid (likeTo s.data.toList t.data.toList (k + 1)) := by
            have h := likeTo_succ hR h1 h2 e
            exact h
          have en : (((s[k]).toNat : Int) != ((t[k]).toNat : Int)) = false := by rw [e]; simp
          clear hR e
          go_wp2
          go_region
          all_goals
            go_wp2
            go_roundw
            case rel => exact ⟨k + 1, by go_num, HR.out, hbw.drew⟩
            case measure => simp [intOf]; omega
        · have HL : Hid (Lib.compareBytes s.data.toList t.data.toList = Lib.compareInt (s[k].toNat : Int) (t[k].toNat : Int)) := by
            have h := likeTo_diff hR h1 h2 e
            exact h
          have hn : s[k].toNat ≠ t[k].toNat := fun x => e (UInt8.toNat_inj.1 x)
          have en : (((s[k]).toNat : Int) != ((t[k]).toNat : Int)) = true := by simp; omega
          have hw1 : IntKind.i64.wrap (s[k].toNat : Int) = (s[k].toNat : Int) := wrap_i64 (by omega) (by have := s[k].toNat_lt; omega)
          have hw2 : IntKind.i64.wrap (t[k].toNat : Int) = (t[k].toNat : Int) := wrap_i64 (by omega) (by have := t[k].toNat_lt; omega)
          have HC : ∀ W, Calls Tryz.prog 96 #[.int .i64 (IntKind.i64.wrap (s[k].toNat : Int)), .int .i64 (IntKind.i64.wrap (t[k].toNat : Int))] W fun e w' => e = .returned (.int .i64 (Lib.compareBytes s.data.toList t.data.toList)) ∧ w' = W := fun W => by
            rw [hw1, hw2, HL.out]; exact ints_any _ _ W
          clear hR e hw1 hw2 HL
          go_wp2
          go_region
          all_goals
            go_wp2_with fail
            go_region_held3 (fun _ => True) (trivial) (first | (go_at_call 96; refine (HC _).mono ?_; rintro e w1 ⟨rfl, rfl⟩))
            all_goals first
              | (go_ret; exact ⟨rfl, hbw.drew.drew⟩)
              | (go_wp2; go_ret; exact ⟨rfl, hbw.drew.drew⟩)
              | (go_wp2; all_goals (go_ret; exact ⟨rfl, hbw.drew.drew⟩))
      · have HL : Hid (Lib.compareBytes s.data.toList t.data.toList = Lib.compareInt (s.size : Int) (t.size : Int)) := by
          have h := likeTo_end hR (by omega)
          exact h
        clear hR
        go_wp2_with (go_at_call 96; refine (ints_any _ _ _).mono ?_; rintro e w1 ⟨rfl, rfl⟩)
        go_ret
        exact ⟨by rw [HL.out]; rfl, hbw⟩
    · have HL : Hid (Lib.compareBytes s.data.toList t.data.toList = Lib.compareInt (s.size : Int) (t.size : Int)) := by
        have h := likeTo_end hR (by omega)
        exact h
      clear hR
      go_wp2_with (go_at_call 96; refine (ints_any _ _ _).mono ?_; rintro e w1 ⟨rfl, rfl⟩)
      go_ret
      exact ⟨by rw [HL.out]; rfl, hbw⟩

theorem refTexts_list (a b : List UInt8) (w : World) (ha : a.length ≤ 2000000) : Calls Tryz.prog 58 #[.string ⟨a.toArray⟩, .string ⟨b.toArray⟩] w fun e w' => e = .returned (.int .i64 (Lib.compareBytes a b)) ∧ Below w.heap.size w w' :=
  refTexts_any ⟨a.toArray⟩ ⟨b.toArray⟩ w (by rw [mk_size]; exact ha)

end Go.Proofs.YthlhopdlkkeohaaGreatDoor.U
/- The walks of cmp.Compare of texts, of slices.Compare, Compare and the document's Compare. -/
namespace Go.Proofs.YthlhopdlkkeohaaGreatDoor.U
open Go.RowKit

/-- How far two paths are alike. -/
def stand (xs ys : List (List UInt8)) (k : Nat) : Prop := k ≤ xs.length ∧ k ≤ ys.length ∧ Pt.comp xs ys = Pt.comp (xs.drop k) (ys.drop k)
theorem stand_zero (xs ys : List (List UInt8)) : stand xs ys 0 := ⟨by omega, by omega, by simp⟩
theorem stand_succ {xs ys : List (List UInt8)} {k : Nat} (h : stand xs ys k) (h1 : k < xs.length) (h2 : k < ys.length) (e : Lib.compareBytes xs[k] ys[k] = 0) : stand xs ys (k + 1) := by
  refine ⟨by omega, by omega, ?_⟩
  rw [h.2.2, List.drop_eq_getElem_cons h1, List.drop_eq_getElem_cons h2]
  simp only [Pt.comp]
  rw [if_pos e]
theorem stand_diff {xs ys : List (List UInt8)} {k : Nat} (h : stand xs ys k) (h1 : k < xs.length) (h2 : k < ys.length) (e : Lib.compareBytes xs[k] ys[k] ≠ 0) : Pt.comp xs ys = Lib.compareBytes xs[k] ys[k] := by
  rw [h.2.2, List.drop_eq_getElem_cons h1, List.drop_eq_getElem_cons h2]
  simp only [Pt.comp]
  rw [if_neg e]
theorem drop_all {xs : List (List UInt8)} {k : Nat} (h : ¬ k < xs.length) : xs.drop k = [] := List.drop_eq_nil_of_le (by omega)
theorem stand_more {xs ys : List (List UInt8)} {k : Nat} (h : stand xs ys k) (h1 : k < xs.length) (h2 : ¬ k < ys.length) : Pt.comp xs ys = 1 := by
  rw [h.2.2, List.drop_eq_getElem_cons h1, drop_all h2]; rfl
theorem stand_less {xs ys : List (List UInt8)} {k : Nat} (h : stand xs ys k) (h1 : ¬ k < xs.length) (h2 : k < ys.length) : Pt.comp xs ys = -1 := by
  rw [h.2.2, List.drop_eq_getElem_cons h2, drop_all h1]; rfl
theorem stand_same {xs ys : List (List UInt8)} {k : Nat} (h : stand xs ys k) (h1 : ¬ k < xs.length) (h2 : ¬ k < ys.length) : Pt.comp xs ys = 0 := by
  rw [h.2.2, drop_all h1, drop_all h2]; rfl

theorem ret_int {a b : Int} (h : a = b) : Ending.returned (.int .i64 a) = .returned (.int .i64 b) := by rw [h]

/-- Two texts lie in memory. -/
structure Two (w : World) (p q : Addr) (x y : List UInt8) (W : World) : Prop where
  a : W.cell? p = some (.string ⟨x.toArray⟩)
  b : W.cell? q = some (.string ⟨y.toArray⟩)
  below : Below w.heap.size w W
theorem Two.on {w W W' : World} {p q : Addr} {x y : List UInt8} (h : Two w p q x y W) (hb : Below W.heap.size W W') : Two w p q x y W' :=
  ⟨(hb.cell (World.block_lt_of_cell? _ _ h.a)).trans h.a, (hb.cell (World.block_lt_of_cell? _ _ h.b)).trans h.b, h.below.trans (hb.mono h.below.size)⟩
theorem Two.drew {w W : World} {p q : Addr} {x y : List UInt8} (h : Two w p q x y W) : Two w p q x y W.drew := ⟨h.a, h.b, h.below.drew⟩
theorem Two.parts {w W : World} {p q : Addr} {x y : List UInt8} (h : Two w p q x y W) : W.cell? p = some (.string ⟨x.toArray⟩) ∧ W.cell? q = some (.string ⟨y.toArray⟩) ∧ Below w.heap.size w W := ⟨h.a, h.b, h.below⟩

end Go.Proofs.YthlhopdlkkeohaaGreatDoor.U
/- The walks of live's At and Under. -/
namespace Go.Proofs.YthlhopdlkkeohaaGreatDoor.O
open Go.RowKit

/-- An item in a variable, a leaf and a path in boxes. -/
structure AtS (w W0 : World) (x : IE) (lb : Nat) (leaf : Int) (pb : Nat) (pq : Value) (W : World) : Prop where
  px : IcAt W ⟨w.heap.size, 0, none⟩ x
  lf : W.cell? ⟨lb, 0, none⟩ = some (.int .i64 leaf)
  pb : W.cell? ⟨pb, 0, none⟩ = some pq
  below : Below W0.heap.size W0 W
theorem AtS.on {w W0 : World} {x : IE} {lb : Nat} {leaf : Int} {pb : Nat} {pq : Value} {W W' : World} (h : AtS w W0 x lb leaf pb pq W) (hb : Below W.heap.size W W') : AtS w W0 x lb leaf pb pq W' := ⟨h.px.on hb, keep_cell hb h.lf, keep_cell hb h.pb, bchain h.below hb⟩
def isAt (p : List (List UInt8)) (leaf : Int) (x : Lv.Item) : Bool := decide (Os.leaf x.o.k = leaf ∧ x.o.p = p)

set_option maxRecDepth 20000 in
set_option maxHeartbeats 1000000 in
theorem notAt_any (x : IE) (lb pb : Nat) (leaf : Int) (p : List (List UInt8)) (pq : Value) (w : World) (hsh : Os.short x.1.o = true) (hx : IOk w x) (hl : w.cell? ⟨lb, 0, none⟩ = some (.int .i64 leaf)) (hq : w.cell? ⟨pb, 0, none⟩ = some pq) (hp : U.strsAt w pq p) :
    Calls Tryz.prog 153 #[.agg (icell x).toArray, .pointer (some ⟨lb, 0, none⟩), .pointer (some ⟨pb, 0, none⟩)] w fun e w' => e = .returned (.bool (!isAt p leaf x.1)) ∧ Below w.heap.size w w' := by
  obtain ⟨it, pv, sv⟩ := x
  obtain ⟨pa, pn, pc, rfl⟩ := strs_slice hx.1
  obtain ⟨sa, sn, sc, rfl⟩ := refs_slice hx.2
  obtain ⟨qa, qn, qc, rfl⟩ := strs_slice hp
  obtain ⟨W0, hW0⟩ : ∃ W0, W0 = w.alloc (.cells (icell (it, .slice pa pn pc, .slice sa sn sc)).toArray 76) := ⟨_, rfl⟩
  have B0 : Below w.heap.size w W0 := by rw [hW0]; exact below_new _ _
  have X0 : IcAt W0 ⟨w.heap.size, 0, none⟩ (it, .slice pa pn pc, .slice sa sn sc) := by rw [hW0]; exact IcAt.new w _ 76
  have HLf : ∀ W, Calls Tryz.prog 72 #[.int .i64 it.o.k] W fun e w' => e = .returned (.int .i64 (Os.leaf it.o.k)) ∧ Below W.heap.size W w' := fun W => (leaf_any it.o.k W).mono fun e w' ⟨h1, h2⟩ => ⟨h1, by rw [h2]; exact Below.refl _ _⟩
  have hsh : Os.short it.o = true := hsh
  have hlen : it.o.p.length ≤ 2000000 := by have := (short_parts hsh).1.1; omega
  have HPs := fun W (hb : Below W0.heap.size W0 W) => U.psame_any (.slice pa pn pc) (.slice qa qn qc) it.o.p p W hlen (hx.on (bchain B0 hb)).1 (U.strsAt_below hp (bchain B0 hb) (Nat.le_refl _))
  have hAS : AtS w W0 (it, .slice pa pn pc, .slice sa sn sc) lb leaf pb (.slice qa qn qc) W0.drew := ⟨X0.on (Below.refl _ _).drew, keep_cell (bchain B0 (Below.refl _ _).drew) hl, keep_cell (bchain B0 (Below.refl _ _).drew) hq, (Below.refl _ _).drew⟩
  show Calls Tryz.prog 153 #[.agg #[.int .i64 it.x.1.1, .int .i64 it.x.1.2, .int .i64 it.x.2, .int .i64 it.o.k, .slice pa pn pc, .int .i64 it.o.vk, .int .i64 it.o.vn, .string ⟨it.o.vs.toArray⟩, .int .i64 it.o.n, .slice sa sn sc, .int .i64 it.t], .pointer (some ⟨lb, 0, none⟩), .pointer (some ⟨pb, 0, none⟩)] w fun e w' => e = .returned (.bool (!decide (Os.leaf it.o.k = leaf ∧ it.o.p = p))) ∧ Below w.heap.size w w'
  clear hx hp X0 hsh hlen hl hq
  subst hW0
  by_cases hlf : Os.leaf it.o.k = leaf
  · by_cases hsm : it.o.p = p
    · rw [decide_eq_true (⟨hlf, hsm⟩ : Os.leaf it.o.k = leaf ∧ it.o.p = p)]
      simp only [hsm, decide_true] at HPs
      go_enter Tryz.func153, Tryz.ntmps153
      go_wp2
      refine wp_region_held_drew (S := fun W => AtS w (w.alloc (.cells (icell (it, .slice pa pn pc, .slice sa sn sc)).toArray 76)) (it, .slice pa pn pc, .slice sa sn sc) lb leaf pb (.slice qa qn qc) W) (by kernel_rfl) (hAS) (fun hH0 => ?_)
      refine held_take (i := 0) (o := { dst := some 5, op := Op.fieldAddr 76 (Operand.tmp 3) 1, type := 0, pos := "live.go:63", after := #[], guard := none }) (v := .pointer (some ⟨w.heap.size, 0 + 3, none⟩)) (by kernel_rfl) (by kernel_rfl) (by kernel_rfl) (by kernel_rfl) (fun _ _ _ h => h) (by kernel_rfl) (fun W _ => ex_f_item_1 (p := ⟨w.heap.size, 0, none⟩) rfl (by kernel_rfl) W) hH0 ?_
      refine held_take (i := 1) (o := { dst := some 6, op := Op.fieldAddr 65 (Operand.tmp 5) 0, type := 0, pos := "live.go:63", after := #[{ on := 0, ground := Ground.data }], guard := none }) (v := .pointer (some ⟨w.heap.size, 0 + 3, none⟩)) (by kernel_rfl) (by kernel_rfl) (by kernel_rfl) (by kernel_rfl) (fun _ _ _ h => h) (by kernel_rfl) (fun W _ => ex_f_op_0 (p := ⟨w.heap.size, 0 + 3, none⟩) rfl (by kernel_rfl) W) hH0 ?_
      refine held_take (i := 2) (o := { dst := some 7, op := Op.load 3 (Operand.tmp 6), type := 3, pos := "live.go:63", after := #[{ on := 1, ground := Ground.data }], guard := none }) (v := .int .i64 it.o.k) (by kernel_rfl) (by kernel_rfl) (by kernel_rfl) (by kernel_rfl) (fun _ _ _ h => h) (by kernel_rfl) (fun _ h => ex_l1_int (p := ⟨w.heap.size, 0 + 3, none⟩) rfl (by kernel_rfl) (h.px.c3)) hH0 ?_
      refine held_take (i := 4) (o := { dst := some 9, op := Op.load 3 (Operand.tmp 1), type := 3, pos := "live.go:63", after := #[], guard := none }) (v := .int .i64 leaf) (by kernel_rfl) (by kernel_rfl) (by kernel_rfl) (by kernel_rfl) (fun _ _ _ h => h) (by kernel_rfl) (fun _ h => ex_l1_int (p := ⟨lb, 0, none⟩) rfl (by kernel_rfl) (h.lf)) hH0 ?_
      refine held_callX (i := 3) (o := { dst := some 8, op := Op.call { callee := Callee.value (Operand.func 72), args := #[Operand.tmp 7], argTypes := #[3] }, type := 3, pos := "live.go:63", after := #[{ on := 2, ground := Ground.data }], guard := none }) (F := 72) (vs := #[.int .i64 it.o.k]) (by kernel_rfl) (by kernel_rfl) (by kernel_rfl) (fun _ => by kernel_rfl) (HLf _) ?_
      rintro e w1 ⟨rfl, hb1⟩
      have hH1 := hH0.on hb1
      refine ⟨.int .i64 (Os.leaf it.o.k), rfl, hH1, ?_⟩
      refine held_take (i := 5) (o := { dst := some 10, op := Op.binOp BinOp.neq 3 (Operand.tmp 8) (Operand.tmp 9) 3, type := 4, pos := "live.go:63", after := #[{ on := 3, ground := Ground.data }, { on := 4, ground := Ground.data }], guard := none }) (v := .bool false) (by kernel_rfl) (by kernel_rfl) (by kernel_rfl) (by kernel_rfl) (fun _ _ _ h => h) (by kernel_rfl) (fun W _ => exec_bin rfl (by kernel_rfl) (by kernel_rfl) (fun _ => by kernel_rfl) (neqi_no hlf) W) hH1 ?_
      refine held_take (i := 6) (o := { dst := some 11, op := Op.move (Operand.tmp 10), type := 4, pos := "live.go:63", after := #[{ on := 5, ground := Ground.data }, { on := 3, ground := Ground.chain }], guard := none }) (v := .bool false) (by kernel_rfl) (by kernel_rfl) (by kernel_rfl) (by kernel_rfl) (fun _ _ _ h => h) (by kernel_rfl) (fun _ _ => by kernel_rfl) hH1 ?_
      refine held_take (i := 7) (o := { dst := some 12, op := Op.fieldAddr 76 (Operand.tmp 3) 1, type := 0, pos := "live.go:63", after := #[{ on := 6, ground := Ground.guard }], guard := some (6, false) }) (v := .pointer (some ⟨w.heap.size, 0 + 3, none⟩)) (by kernel_rfl) (by kernel_rfl) (by kernel_rfl) (by kernel_rfl) (fun _ _ _ h => h) (by kernel_rfl) (fun W _ => ex_f_item_1 (p := ⟨w.heap.size, 0, none⟩) rfl (by kernel_rfl) W) hH1 ?_
      refine held_take (i := 8) (o := { dst := some 13, op := Op.fieldAddr 65 (Operand.tmp 12) 1, type := 0, pos := "live.go:63", after := #[{ on := 7, ground := Ground.data }, { on := 6, ground := Ground.guard }], guard := some (6, false) }) (v := .pointer (some ⟨w.heap.size, 0 + 4, none⟩)) (by kernel_rfl) (by kernel_rfl) (by kernel_rfl) (by kernel_rfl) (fun _ _ _ h => h) (by kernel_rfl) (fun W _ => ex_f_op_1 (p := ⟨w.heap.size, 0 + 3, none⟩) rfl (by kernel_rfl) W) hH1 ?_
      refine held_take (i := 9) (o := { dst := some 14, op := Op.load 24 (Operand.tmp 13), type := 24, pos := "live.go:63", after := #[{ on := 8, ground := Ground.data }, { on := 6, ground := Ground.guard }], guard := some (6, false) }) (v := .slice pa pn pc) (by kernel_rfl) (by kernel_rfl) (by kernel_rfl) (by kernel_rfl) (fun _ _ _ h => h) (by kernel_rfl) (fun _ h => ex_l1_strs (p := ⟨w.heap.size, 0 + 4, none⟩) rfl (by kernel_rfl) (h.px.c4)) hH1 ?_
      refine held_take (i := 10) (o := { dst := some 15, op := Op.load 24 (Operand.tmp 2), type := 24, pos := "live.go:63", after := #[{ on := 6, ground := Ground.guard }], guard := some (6, false) }) (v := .slice qa qn qc) (by kernel_rfl) (by kernel_rfl) (by kernel_rfl) (by kernel_rfl) (fun _ _ _ h => h) (by kernel_rfl) (fun _ h => ex_l1_strs (p := ⟨pb, 0, none⟩) rfl (by kernel_rfl) (h.pb)) hH1 ?_
      refine held_callX (i := 11) (o := { dst := some 16, op := Op.call { callee := Callee.value (Operand.func 77), args := #[Operand.tmp 14, Operand.tmp 15], argTypes := #[24, 24] }, type := 4, pos := "live.go:63", after := #[{ on := 9, ground := Ground.data }, { on := 10, ground := Ground.data }, { on := 6, ground := Ground.chain }, { on := 6, ground := Ground.guard }], guard := some (6, false) }) (F := 77) (vs := #[.slice pa pn pc, .slice qa qn qc]) (by kernel_rfl) (by kernel_rfl) (by kernel_rfl) (fun _ => by kernel_rfl) (HPs _ hH1.below) ?_
      rintro e w2 ⟨rfl, hb2⟩
      have hH2 := hH1.on hb2
      refine ⟨.bool true, rfl, hH2, ?_⟩
      refine held_take (i := 12) (o := { dst := some 17, op := Op.unOp UnOp.not 4 (Operand.tmp 16), type := 4, pos := "live.go:63", after := #[{ on := 11, ground := Ground.data }, { on := 6, ground := Ground.guard }], guard := some (6, false) }) (v := .bool false) (by kernel_rfl) (by kernel_rfl) (by kernel_rfl) (by kernel_rfl) (fun _ _ _ h => h) (by kernel_rfl) (fun W _ => exec_un rfl (by kernel_rfl) (not_of true) W) hH2 ?_
      refine held_take (i := 13) (o := { dst := some 18, op := Op.pick (Operand.tmp 11) (Operand.const (Value.bool true)) (Operand.tmp 17), type := 4, pos := "live.go:63", after := #[{ on := 6, ground := Ground.data }, { on := 12, ground := Ground.data }], guard := none }) (v := .bool false) (by kernel_rfl) (by kernel_rfl) (by kernel_rfl) (by kernel_rfl) (fun _ _ _ h => h) (by kernel_rfl) (fun _ _ => by kernel_rfl) hH2 ?_
      refine held_do (i := 14) (o := { dst := some 4, op := Op.assign (Operand.tmp 18), type := 4, pos := "live.go:63", after := #[{ on := 13, ground := Ground.data }, { on := 11, ground := Ground.chain }, { on := 0, ground := Ground.phase }, { on := 1, ground := Ground.phase }, { on := 2, ground := Ground.phase }, { on := 3, ground := Ground.phase }, { on := 4, ground := Ground.phase }, { on := 5, ground := Ground.phase }, { on := 6, ground := Ground.phase }, { on := 7, ground := Ground.phase }, { on := 8, ground := Ground.phase }, { on := 9, ground := Ground.phase }, { on := 10, ground := Ground.phase }, { on := 11, ground := Ground.phase }, { on := 12, ground := Ground.phase }, { on := 13, ground := Ground.phase }], guard := none }) (v := .bool false) (by kernel_rfl) (by kernel_rfl) (by kernel_rfl) (by kernel_rfl) hH2 ?_
      refine wpAnyH_done (by kernel_rfl) ?_ _
      simp only [Act.put, List.setIfInBounds_toArray, List.set_cons_zero, List.set_cons_succ]
      go_wp2
      go_ret
      exact ⟨rfl, bchain B0 hH2.below⟩
    · rw [decide_eq_false (fun q : Os.leaf it.o.k = leaf ∧ it.o.p = p => hsm q.2)]
      simp only [hsm, decide_false] at HPs
      go_enter Tryz.func153, Tryz.ntmps153
      go_wp2
      refine wp_region_held_drew (S := fun W => AtS w (w.alloc (.cells (icell (it, .slice pa pn pc, .slice sa sn sc)).toArray 76)) (it, .slice pa pn pc, .slice sa sn sc) lb leaf pb (.slice qa qn qc) W) (by kernel_rfl) (hAS) (fun hH0 => ?_)
      refine held_take (i := 0) (o := { dst := some 5, op := Op.fieldAddr 76 (Operand.tmp 3) 1, type := 0, pos := "live.go:63", after := #[], guard := none }) (v := .pointer (some ⟨w.heap.size, 0 + 3, none⟩)) (by kernel_rfl) (by kernel_rfl) (by kernel_rfl) (by kernel_rfl) (fun _ _ _ h => h) (by kernel_rfl) (fun W _ => ex_f_item_1 (p := ⟨w.heap.size, 0, none⟩) rfl (by kernel_rfl) W) hH0 ?_
      refine held_take (i := 1) (o := { dst := some 6, op := Op.fieldAddr 65 (Operand.tmp 5) 0, type := 0, pos := "live.go:63", after := #[{ on := 0, ground := Ground.data }], guard := none }) (v := .pointer (some ⟨w.heap.size, 0 + 3, none⟩)) (by kernel_rfl) (by kernel_rfl) (by kernel_rfl) (by kernel_rfl) (fun _ _ _ h => h) (by kernel_rfl) (fun W _ => ex_f_op_0 (p := ⟨w.heap.size, 0 + 3, none⟩) rfl (by kernel_rfl) W) hH0 ?_
      refine held_take (i := 2) (o := { dst := some 7, op := Op.load 3 (Operand.tmp 6), type := 3, pos := "live.go:63", after := #[{ on := 1, ground := Ground.data }], guard := none }) (v := .int .i64 it.o.k) (by kernel_rfl) (by kernel_rfl) (by kernel_rfl) (by kernel_rfl) (fun _ _ _ h => h) (by kernel_rfl) (fun _ h => ex_l1_int (p := ⟨w.heap.size, 0 + 3, none⟩) rfl (by kernel_rfl) (h.px.c3)) hH0 ?_
      refine held_take (i := 4) (o := { dst := some 9, op := Op.load 3 (Operand.tmp 1), type := 3, pos := "live.go:63", after := #[], guard := none }) (v := .int .i64 leaf) (by kernel_rfl) (by kernel_rfl) (by kernel_rfl) (by kernel_rfl) (fun _ _ _ h => h) (by kernel_rfl) (fun _ h => ex_l1_int (p := ⟨lb, 0, none⟩) rfl (by kernel_rfl) (h.lf)) hH0 ?_
      refine held_callX (i := 3) (o := { dst := some 8, op := Op.call { callee := Callee.value (Operand.func 72), args := #[Operand.tmp 7], argTypes := #[3] }, type := 3, pos := "live.go:63", after := #[{ on := 2, ground := Ground.data }], guard := none }) (F := 72) (vs := #[.int .i64 it.o.k]) (by kernel_rfl) (by kernel_rfl) (by kernel_rfl) (fun _ => by kernel_rfl) (HLf _) ?_
      rintro e w1 ⟨rfl, hb1⟩
      have hH1 := hH0.on hb1
      refine ⟨.int .i64 (Os.leaf it.o.k), rfl, hH1, ?_⟩
      refine held_take (i := 5) (o := { dst := some 10, op := Op.binOp BinOp.neq 3 (Operand.tmp 8) (Operand.tmp 9) 3, type := 4, pos := "live.go:63", after := #[{ on := 3, ground := Ground.data }, { on := 4, ground := Ground.data }], guard := none }) (v := .bool false) (by kernel_rfl) (by kernel_rfl) (by kernel_rfl) (by kernel_rfl) (fun _ _ _ h => h) (by kernel_rfl) (fun W _ => exec_bin rfl (by kernel_rfl) (by kernel_rfl) (fun _ => by kernel_rfl) (neqi_no hlf) W) hH1 ?_
      refine held_take (i := 6) (o := { dst := some 11, op := Op.move (Operand.tmp 10), type := 4, pos := "live.go:63", after := #[{ on := 5, ground := Ground.data }, { on := 3, ground := Ground.chain }], guard := none }) (v := .bool false) (by kernel_rfl) (by kernel_rfl) (by kernel_rfl) (by kernel_rfl) (fun _ _ _ h => h) (by kernel_rfl) (fun _ _ => by kernel_rfl) hH1 ?_
      refine held_take (i := 7) (o := { dst := some 12, op := Op.fieldAddr 76 (Operand.tmp 3) 1, type := 0, pos := "live.go:63", after := #[{ on := 6, ground := Ground.guard }], guard := some (6, false) }) (v := .pointer (some ⟨w.heap.size, 0 + 3, none⟩)) (by kernel_rfl) (by kernel_rfl) (by kernel_rfl) (by kernel_rfl) (fun _ _ _ h => h) (by kernel_rfl) (fun W _ => ex_f_item_1 (p := ⟨w.heap.size, 0, none⟩) rfl (by kernel_rfl) W) hH1 ?_
      refine held_take (i := 8) (o := { dst := some 13, op := Op.fieldAddr 65 (Operand.tmp 12) 1, type := 0, pos := "live.go:63", after := #[{ on := 7, ground := Ground.data }, { on := 6, ground := Ground.guard }], guard := some (6, false) }) (v := .pointer (some ⟨w.heap.size, 0 + 4, none⟩)) (by kernel_rfl) (by kernel_rfl) (by kernel_rfl) (by kernel_rfl) (fun _ _ _ h => h) (by kernel_rfl) (fun W _ => ex_f_op_1 (p := ⟨w.heap.size, 0 + 3, none⟩) rfl (by kernel_rfl) W) hH1 ?_
      refine held_take (i := 9) (o := { dst := some 14, op := Op.load 24 (Operand.tmp 13), type := 24, pos := "live.go:63", after := #[{ on := 8, ground := Ground.data }, { on := 6, ground := Ground.guard }], guard := some (6, false) }) (v := .slice pa pn pc) (by kernel_rfl) (by kernel_rfl) (by kernel_rfl) (by kernel_rfl) (fun _ _ _ h => h) (by kernel_rfl) (fun _ h => ex_l1_strs (p := ⟨w.heap.size, 0 + 4, none⟩) rfl (by kernel_rfl) (h.px.c4)) hH1 ?_
      refine held_take (i := 10) (o := { dst := some 15, op := Op.load 24 (Operand.tmp 2), type := 24, pos := "live.go:63", after := #[{ on := 6, ground := Ground.guard }], guard := some (6, false) }) (v := .slice qa qn qc) (by kernel_rfl) (by kernel_rfl) (by kernel_rfl) (by kernel_rfl) (fun _ _ _ h => h) (by kernel_rfl) (fun _ h => ex_l1_strs (p := ⟨pb, 0, none⟩) rfl (by kernel_rfl) (h.pb)) hH1 ?_
      refine held_callX (i := 11) (o := { dst := some 16, op := Op.call { callee := Callee.value (Operand.func 77), args := #[Operand.tmp 14, Operand.tmp 15], argTypes := #[24, 24] }, type := 4, pos := "live.go:63", after := #[{ on := 9, ground := Ground.data }, { on := 10, ground := Ground.data }, { on := 6, ground := Ground.chain }, { on := 6, ground := Ground.guard }], guard := some (6, false) }) (F := 77) (vs := #[.slice pa pn pc, .slice qa qn qc]) (by kernel_rfl) (by kernel_rfl) (by kernel_rfl) (fun _ => by kernel_rfl) (HPs _ hH1.below) ?_
      rintro e w2 ⟨rfl, hb2⟩
      have hH2 := hH1.on hb2
      refine ⟨.bool false, rfl, hH2, ?_⟩
      refine held_take (i := 12) (o := { dst := some 17, op := Op.unOp UnOp.not 4 (Operand.tmp 16), type := 4, pos := "live.go:63", after := #[{ on := 11, ground := Ground.data }, { on := 6, ground := Ground.guard }], guard := some (6, false) }) (v := .bool true) (by kernel_rfl) (by kernel_rfl) (by kernel_rfl) (by kernel_rfl) (fun _ _ _ h => h) (by kernel_rfl) (fun W _ => exec_un rfl (by kernel_rfl) (not_of false) W) hH2 ?_
      refine held_take (i := 13) (o := { dst := some 18, op := Op.pick (Operand.tmp 11) (Operand.const (Value.bool true)) (Operand.tmp 17), type := 4, pos := "live.go:63", after := #[{ on := 6, ground := Ground.data }, { on := 12, ground := Ground.data }], guard := none }) (v := .bool true) (by kernel_rfl) (by kernel_rfl) (by kernel_rfl) (by kernel_rfl) (fun _ _ _ h => h) (by kernel_rfl) (fun _ _ => by kernel_rfl) hH2 ?_
      refine held_do (i := 14) (o := { dst := some 4, op := Op.assign (Operand.tmp 18), type := 4, pos := "live.go:63", after := #[{ on := 13, ground := Ground.data }, { on := 11, ground := Ground.chain }, { on := 0, ground := Ground.phase }, { on := 1, ground := Ground.phase }, { on := 2, ground := Ground.phase }, { on := 3, ground := Ground.phase }, { on := 4, ground := Ground.phase }, { on := 5, ground := Ground.phase }, { on := 6, ground := Ground.phase }, { on := 7, ground := Ground.phase }, { on := 8, ground := Ground.phase }, { on := 9, ground := Ground.phase }, { on := 10, ground := Ground.phase }, { on := 11, ground := Ground.phase }, { on := 12, ground := Ground.phase }, { on := 13, ground := Ground.phase }], guard := none }) (v := .bool true) (by kernel_rfl) (by kernel_rfl) (by kernel_rfl) (by kernel_rfl) hH2 ?_
      refine wpAnyH_done (by kernel_rfl) ?_ _
      simp only [Act.put, List.setIfInBounds_toArray, List.set_cons_zero, List.set_cons_succ]
      go_wp2
      go_ret
      exact ⟨rfl, bchain B0 hH2.below⟩
  · rw [decide_eq_false (fun q : Os.leaf it.o.k = leaf ∧ it.o.p = p => hlf q.1)]
    go_enter Tryz.func153, Tryz.ntmps153
    go_wp2
    refine wp_region_held_drew (S := fun W => AtS w (w.alloc (.cells (icell (it, .slice pa pn pc, .slice sa sn sc)).toArray 76)) (it, .slice pa pn pc, .slice sa sn sc) lb leaf pb (.slice qa qn qc) W) (by kernel_rfl) (hAS) (fun hH0 => ?_)
    refine held_take (i := 0) (o := { dst := some 5, op := Op.fieldAddr 76 (Operand.tmp 3) 1, type := 0, pos := "live.go:63", after := #[], guard := none }) (v := .pointer (some ⟨w.heap.size, 0 + 3, none⟩)) (by kernel_rfl) (by kernel_rfl) (by kernel_rfl) (by kernel_rfl) (fun _ _ _ h => h) (by kernel_rfl) (fun W _ => ex_f_item_1 (p := ⟨w.heap.size, 0, none⟩) rfl (by kernel_rfl) W) hH0 ?_
    refine held_take (i := 1) (o := { dst := some 6, op := Op.fieldAddr 65 (Operand.tmp 5) 0, type := 0, pos := "live.go:63", after := #[{ on := 0, ground := Ground.data }], guard := none }) (v := .pointer (some ⟨w.heap.size, 0 + 3, none⟩)) (by kernel_rfl) (by kernel_rfl) (by kernel_rfl) (by kernel_rfl) (fun _ _ _ h => h) (by kernel_rfl) (fun W _ => ex_f_op_0 (p := ⟨w.heap.size, 0 + 3, none⟩) rfl (by kernel_rfl) W) hH0 ?_
    refine held_take (i := 2) (o := { dst := some 7, op := Op.load 3 (Operand.tmp 6), type := 3, pos := "live.go:63", after := #[{ on := 1, ground := Ground.data }], guard := none }) (v := .int .i64 it.o.k) (by kernel_rfl) (by kernel_rfl) (by kernel_rfl) (by kernel_rfl) (fun _ _ _ h => h) (by kernel_rfl) (fun _ h => ex_l1_int (p := ⟨w.heap.size, 0 + 3, none⟩) rfl (by kernel_rfl) (h.px.c3)) hH0 ?_
    refine held_take (i := 4) (o := { dst := some 9, op := Op.load 3 (Operand.tmp 1), type := 3, pos := "live.go:63", after := #[], guard := none }) (v := .int .i64 leaf) (by kernel_rfl) (by kernel_rfl) (by kernel_rfl) (by kernel_rfl) (fun _ _ _ h => h) (by kernel_rfl) (fun _ h => ex_l1_int (p := ⟨lb, 0, none⟩) rfl (by kernel_rfl) (h.lf)) hH0 ?_
    refine held_callX (i := 3) (o := { dst := some 8, op := Op.call { callee := Callee.value (Operand.func 72), args := #[Operand.tmp 7], argTypes := #[3] }, type := 3, pos := "live.go:63", after := #[{ on := 2, ground := Ground.data }], guard := none }) (F := 72) (vs := #[.int .i64 it.o.k]) (by kernel_rfl) (by kernel_rfl) (by kernel_rfl) (fun _ => by kernel_rfl) (HLf _) ?_
    rintro e w1 ⟨rfl, hb1⟩
    have hH1 := hH0.on hb1
    refine ⟨.int .i64 (Os.leaf it.o.k), rfl, hH1, ?_⟩
    refine held_take (i := 5) (o := { dst := some 10, op := Op.binOp BinOp.neq 3 (Operand.tmp 8) (Operand.tmp 9) 3, type := 4, pos := "live.go:63", after := #[{ on := 3, ground := Ground.data }, { on := 4, ground := Ground.data }], guard := none }) (v := .bool true) (by kernel_rfl) (by kernel_rfl) (by kernel_rfl) (by kernel_rfl) (fun _ _ _ h => h) (by kernel_rfl) (fun W _ => exec_bin rfl (by kernel_rfl) (by kernel_rfl) (fun _ => by kernel_rfl) (neqi_yes hlf) W) hH1 ?_
    refine held_take (i := 6) (o := { dst := some 11, op := Op.move (Operand.tmp 10), type := 4, pos := "live.go:63", after := #[{ on := 5, ground := Ground.data }, { on := 3, ground := Ground.chain }], guard := none }) (v := .bool true) (by kernel_rfl) (by kernel_rfl) (by kernel_rfl) (by kernel_rfl) (fun _ _ _ h => h) (by kernel_rfl) (fun _ _ => by kernel_rfl) hH1 ?_
    refine held_skip (i := 7) (o := { dst := some 12, op := Op.fieldAddr 76 (Operand.tmp 3) 1, type := 0, pos := "live.go:63", after := #[{ on := 6, ground := Ground.guard }], guard := some (6, false) }) (by kernel_rfl) (by kernel_rfl) (by kernel_rfl) (by kernel_rfl) (fun _ _ _ h => h) (by kernel_rfl) hH1 ?_
    refine held_skip (i := 8) (o := { dst := some 13, op := Op.fieldAddr 65 (Operand.tmp 12) 1, type := 0, pos := "live.go:63", after := #[{ on := 7, ground := Ground.data }, { on := 6, ground := Ground.guard }], guard := some (6, false) }) (by kernel_rfl) (by kernel_rfl) (by kernel_rfl) (by kernel_rfl) (fun _ _ _ h => h) (by kernel_rfl) hH1 ?_
    refine held_skip (i := 9) (o := { dst := some 14, op := Op.load 24 (Operand.tmp 13), type := 24, pos := "live.go:63", after := #[{ on := 8, ground := Ground.data }, { on := 6, ground := Ground.guard }], guard := some (6, false) }) (by kernel_rfl) (by kernel_rfl) (by kernel_rfl) (by kernel_rfl) (fun _ _ _ h => h) (by kernel_rfl) hH1 ?_
    refine held_skip (i := 10) (o := { dst := some 15, op := Op.load 24 (Operand.tmp 2), type := 24, pos := "live.go:63", after := #[{ on := 6, ground := Ground.guard }], guard := some (6, false) }) (by kernel_rfl) (by kernel_rfl) (by kernel_rfl) (by kernel_rfl) (fun _ _ _ h => h) (by kernel_rfl) hH1 ?_
    refine held_skip (i := 11) (o := { dst := some 16, op := Op.call { callee := Callee.value (Operand.func 77), args := #[Operand.tmp 14, Operand.tmp 15], argTypes := #[24, 24] }, type := 4, pos := "live.go:63", after := #[{ on := 9, ground := Ground.data }, { on := 10, ground := Ground.data }, { on := 6, ground := Ground.chain }, { on := 6, ground := Ground.guard }], guard := some (6, false) }) (by kernel_rfl) (by kernel_rfl) (by kernel_rfl) (by kernel_rfl) (fun _ _ _ h => h) (by kernel_rfl) hH1 ?_
    refine held_skip (i := 12) (o := { dst := some 17, op := Op.unOp UnOp.not 4 (Operand.tmp 16), type := 4, pos := "live.go:63", after := #[{ on := 11, ground := Ground.data }, { on := 6, ground := Ground.guard }], guard := some (6, false) }) (by kernel_rfl) (by kernel_rfl) (by kernel_rfl) (by kernel_rfl) (fun _ _ _ h => h) (by kernel_rfl) hH1 ?_
    refine held_take (i := 13) (o := { dst := some 18, op := Op.pick (Operand.tmp 11) (Operand.const (Value.bool true)) (Operand.tmp 17), type := 4, pos := "live.go:63", after := #[{ on := 6, ground := Ground.data }, { on := 12, ground := Ground.data }], guard := none }) (v := .bool true) (by kernel_rfl) (by kernel_rfl) (by kernel_rfl) (by kernel_rfl) (fun _ _ _ h => h) (by kernel_rfl) (fun _ _ => by kernel_rfl) hH1 ?_
    refine held_do (i := 14) (o := { dst := some 4, op := Op.assign (Operand.tmp 18), type := 4, pos := "live.go:63", after := #[{ on := 13, ground := Ground.data }, { on := 11, ground := Ground.chain }, { on := 0, ground := Ground.phase }, { on := 1, ground := Ground.phase }, { on := 2, ground := Ground.phase }, { on := 3, ground := Ground.phase }, { on := 4, ground := Ground.phase }, { on := 5, ground := Ground.phase }, { on := 6, ground := Ground.phase }, { on := 7, ground := Ground.phase }, { on := 8, ground := Ground.phase }, { on := 9, ground := Ground.phase }, { on := 10, ground := Ground.phase }, { on := 11, ground := Ground.phase }, { on := 12, ground := Ground.phase }, { on := 13, ground := Ground.phase }], guard := none }) (v := .bool true) (by kernel_rfl) (by kernel_rfl) (by kernel_rfl) (by kernel_rfl) hH1 ?_
    refine wpAnyH_done (by kernel_rfl) ?_ _
    simp only [Act.put, List.setIfInBounds_toArray, List.set_cons_zero, List.set_cons_succ]
    go_wp2
    go_ret
    exact ⟨rfl, bchain B0 hH1.below⟩

end Go.Proofs.YthlhopdlkkeohaaGreatDoor.O
/- The walks of slices.Clone over items, of live's At and Under. -/
namespace Go.Proofs.YthlhopdlkkeohaaGreatDoor.O
open Go.RowKit

theorem its_one {w : World} {xs : List IE} (h : ∀ x ∈ xs, IOk w x) : ∀ u ∈ xs.flatMap icell, u.oneCell' = true := by
  intro u hu
  obtain ⟨x, hx, hu⟩ := List.mem_flatMap.1 hu
  exact icell_one (h x hx) u hu
theorem itsE_none {w : World} {n cap : Nat} {xs : List IE} (h : itsE w (.slice none n cap) xs) : xs = [] ∧ n = 0 ∧ cap = 0 := by
  obtain ⟨⟨ao, c, e, hm, h0, _⟩, _⟩ := h
  cases e
  have := h0 rfl
  have hz : xs.length = 0 := by omega
  exact ⟨List.eq_nil_of_length_eq_zero hz, hz, by omega⟩
/-- Items of any slice are appended. -/
theorem append_its {ops : Array Oper} {rest : List Oper} {o : Oper} {a : Act} {w : World} {Q : Exit → Act → World → Prop} (hgd : o.guard = none) (s x : Operand)
    (ho : o.op = .call { callee := .builtin .append, args := #[s, x], argTypes := #[28, 28] }) (B : Nat) (hB : B ≤ w.heap.size) (r : Value) (acc : List IE) (hs : a.eval s = r) (hown : w.ownsRow B 76 11 r acc.length (acc.flatMap icell))
    (v : Value) (ys : List IE) (hx : a.eval x = v) (hv : itsE w v ys) (hn : acc.length + ys.length ≤ 1000000)
    (h : ∀ r' w', w'.ownsRow B 76 11 r' (acc ++ ys).length ((acc ++ ys).flatMap icell) → w.grownBy w' r.ownBlock → wpList Tryz.prog ops Q rest (a.put o.dst r') w') : wpList Tryz.prog ops Q (o :: rest) a w := by
  obtain ⟨i0, hi, hz, hz1, hz2⟩ := iinfo56
  obtain ⟨⟨ao, cap, rfl, hm, h0, hc⟩, hok⟩ := id hv
  cases ao with
  | none =>
    obtain ⟨rfl, _, rfl⟩ := itsE_none hv
    refine wpList_append_own_none hgd s x 28 ho B 76 i0 11 Tryz.underlying28 hi r _ _ hs hown hx ?_
    refine h r w ?_ ⟨rfl, rfl, rfl, Nat.le_refl _, fun _ _ _ => rfl⟩
    rw [List.append_nil]
    exact hown
  | some ad =>
    refine wpList_append_own w hgd s x 28 ho B 76 i0 _ 11 128 Tryz.underlying28 hi hz hz1 hz2 rfl (by decide) r _ _ hs hown ad ys.length cap (ys.flatMap icell) hx (flat_length icell_len ys) (fun j u hu => ?_) (its_one hok) (by unfold maxLen; omega) (by omega) hB ?_
    · obtain ⟨ad', e, h3⟩ := hc j u hu
      cases e
      exact h3
    · intro v' w1 hown' hg _
      refine h v' w1 ?_ hg
      rw [List.flatMap_append, List.length_append]
      exact hown'
theorem own_emptyI (w : World) : (w.alloc (.cells #[] 76)).ownsRow w.heap.size 76 11 (.slice (some ⟨w.heap.size, 0, none⟩) 0 0) ([] : List IE).length (([] : List IE).flatMap icell) :=
  ⟨rfl, Or.inr ⟨w.heap.size, 0, #[], rfl, Nat.le_refl _, heap_alloc_new w _, Nat.le_refl _, by unfold maxLen; omega, rfl, rfl⟩⟩
set_option maxRecDepth 20000 in
theorem iclone_any (v : Value) (xs : List IE) (w : World) (hv : itsE w v xs) (hn : xs.length ≤ 1000000) :
    Calls Tryz.prog 32 #[v] w fun e w' => ∃ r, e = .returned r ∧ w'.ownsRow w.heap.size 76 11 r xs.length (xs.flatMap icell) ∧ Below w.heap.size w w' := by
  obtain ⟨ao, c, rfl⟩ := hv.slice
  cases ao with
  | none =>
    obtain ⟨rfl, _, rfl⟩ := itsE_none hv
    have heq : ∀ w, (binOp .eql 28 (.slice none 0 0) (.slice none 0 0)).run Tryz.prog w = .ok (.bool true) w := fun w => by kernel_rfl
    go_enter Tryz.func32, Tryz.ntmps32
    go_wp2
    go_ret
    exact ⟨_, rfl, World.ownsRow_nil _ _ _ _, Below.refl _ _⟩
  | some ad =>
    have hB : w.heap.size ≤ (w.alloc (.cells #[] 76)).heap.size := by simp
    have own := own_emptyI w
    have f7 : ([] : List IE).length + xs.length ≤ 1000000 := by simp; omega
    have HL : Hid (itsE (w.alloc (.cells #[] 76)) (.slice (some ad) xs.length c) xs) := hv.on (below_new w _)
    clear hv
    obtain ⟨n, hn0⟩ : ∃ n, n = xs.length := ⟨_, rfl⟩
    have HN : Hid (n = xs.length) := hn0
    rw [← hn0] at HL ⊢
    clear hn0
    have heq : ∀ w, (binOp .eql 28 (.slice (some ad) n c) (.slice none 0 0)).run Tryz.prog w = .ok (.bool false) w := fun w => by kernel_rfl
    go_enter Tryz.func32, Tryz.ntmps32
    go_wp2_with (at_builtin; refine append_its rfl _ _ rfl w.heap.size hB _ [] rfl own _ xs rfl HL.out f7 ?_; intro r3 w4 own3 hg3)
    go_ret
    refine ⟨_, rfl, ?_, (below_new w (.cells #[] 76)).grown hg3 hB (fun g e => (own.lt g e).1)⟩
    rw [HN.out]
    exact own3
theorem itsE_filter {w : World} {g cap : Nat} {xs : List IE} (h : OwnR w g icell 11 xs) (hc : xs.length ≤ cap) (hok : ∀ x ∈ xs, IOk w x) : itsE w (.slice (some ⟨g, 0, none⟩) xs.length cap) xs := ⟨h.rows icell_len hc, hok⟩
theorem itsE_nil (w : World) : itsE w (.slice none 0 0) [] := ⟨⟨none, 0, rfl, Nat.le_refl _, fun _ => rfl, fun j u hu => by simp at hu⟩, by simp⟩

set_option maxRecDepth 20000 in
set_option maxHeartbeats 1000000 in
theorem at_any (v vp : Value) (xs : List IE) (p : List (List UInt8)) (leaf : Int) (w : World) (hv : itsE w v xs) (hp : U.strsAt w vp p) (hn : xs.length ≤ 1000000) (hs : ShortI xs) :
    Calls Tryz.prog 120 #[v, vp, .int .i64 leaf] w fun e w' => ∃ r, e = .returned r ∧ itsE w' r (xs.filter fun x => isAt p leaf x.1) ∧ Below w.heap.size w w' := by
  obtain ⟨qa, qn, qc, rfl⟩ := strs_slice hp
  obtain ⟨W0, hW0⟩ : ∃ W0, W0 = (w.alloc (.cells #[.slice qa qn qc] 24)).alloc (.cells #[.int .i64 leaf] 3) := ⟨_, rfl⟩
  have hB0 : Below w.heap.size w W0 := by rw [hW0]; exact below_new2 _ _ _
  have hbox : W0.cell? ⟨w.heap.size, 0, none⟩ = some (.slice qa qn qc) := by rw [hW0]; simp
  have hlbox : W0.cell? ⟨w.heap.size + 1, 0, none⟩ = some (.int .i64 leaf) := by
    have e : (w.alloc (.cells #[.slice qa qn qc] 24)).heap.size = w.heap.size + 1 := by simp
    rw [hW0, ← e]; simp
  have HC := iclone_any v xs W0 (hv.on hB0) hn
  have hok := (hv.on hB0).2
  have HA : iaAsks W0.heap.size W0 (.pointer (some ⟨w.heap.size + 1, 0, none⟩)) (.pointer (some ⟨w.heap.size, 0, none⟩)) xs (fun x => !isAt p leaf x.1) := fun W x hx hW =>
    notAt_any x (w.heap.size + 1) w.heap.size leaf p _ W (hs x hx) ((hok x hx).on hW) (keep_cell hW hlbox) (keep_cell hW hbox) (U.strsAt_below hp (bchain hB0 hW) (Nat.le_refl _))
  have HD : ∀ r w1, w1.ownsRow W0.heap.size 76 11 r xs.length (xs.flatMap icell) → Below W0.heap.size W0 w1 → Calls Tryz.prog 152 #[r, .func (.func 153) #[] #[.pointer (some ⟨w.heap.size + 1, 0, none⟩), .pointer (some ⟨w.heap.size, 0, none⟩)]] w1 fun e w' => ∃ r, e = .returned r ∧ itsE w' r (xs.filter fun x => isAt p leaf x.1) ∧ Below W0.heap.size W0 w' := fun r w1 own hb1 => by
    rcases id own.2 with ⟨rfl, h0⟩ | ⟨g, cap, cur, rfl, hbg, hg, r1, r2, r3, r4⟩
    · obtain rfl : xs = [] := List.eq_nil_of_length_eq_zero h0
      have HI := iaindex_any (.slice none 0 0) [] W0 w1 W0.heap.size _ _ _ hb1 hb1.size (itsE_nil w1).1 (by simp) HA
      have e9 : idxF (fun x : IE => !isAt p leaf x.1) [] = -1 := rfl
      rw [e9] at HI
      clear own HA HC hok
      go_enter Tryz.func152, Tryz.ntmps152
      go_wp2_with (go_at_call 179; refine HI.mono ?_; rintro e w2 ⟨rfl, hb2⟩)
      go_ret
      exact ⟨_, rfl, itsE_nil _, bchain hb1 hb2⟩
    · obtain ⟨hO, h1, h2, h3, _⟩ := OwnR.of (f := icell) (m := 11) icell_len own
      refine (iadelete_any g cap xs W0.heap.size W0 w1 _ _ (fun x => isAt p leaf x.1) hb1 hO (fun x hx => icell_one (hok x hx)) hn h1 h2 h3 HA).mono ?_
      rintro e w2 ⟨rfl, hO2, hb2⟩
      exact ⟨_, rfl, itsE_filter hO2 (Nat.le_trans (List.length_filter_le _ _) h1) fun x hx => (hok x (List.mem_filter.1 hx).1).on hb2, hb2⟩
  clear HA hbox hlbox hv hok hp
  go_enter Tryz.func120, Tryz.ntmps120
  go_wp2_with (first | (go_at_call 32; rw [← hW0]; refine HC.mono ?_; rintro e w1 ⟨r, rfl, own, hb1⟩) | (go_at_call 152; refine (HD r w1 own hb1).mono ?_; rintro e w2 ⟨r2, rfl, hr2, hb2⟩))
  go_ret
  exact ⟨_, rfl, hr2, bchain hB0 hb2⟩

end Go.Proofs.YthlhopdlkkeohaaGreatDoor.O
/- The calls of the library that the program makes and that lie proved over any program: the builder's String: laid at this program. -/
namespace Go.Proofs.YthlhopdlkkeohaaGreatDoor
open Go.Shelf Go.RowKit

/-- Which number the library's functions, types and variables have here. -/
def ren : Ren := ⟨fun | 169 => 52 | n => n, fun | 0 => 0 | 3 => 3 | 5 => 5 | 9 => 9 | 37 => 100 | 70 => 99 | 72 => 102 | 127 => 140 | n => n, fun | n => n⟩
theorem lay169 : Lays.n169 Tryz.prog ren := {
  mixed := by kernel_rfl
  f169 := Tryz.func52.trans (congrArg some (by kernel_rfl))
  t0 := Tryz.underlying0, a0 := Tryz.isAgg0, z0 := Tryz.sizeOf0, v0 := Tryz.zeroValue0
  t3 := Tryz.underlying3, a3 := Tryz.isAgg3, z3 := Tryz.sizeOf3, v3 := Tryz.zeroValue3
  t9 := Tryz.underlying9, a9 := Tryz.isAgg9, z9 := Tryz.sizeOf9, v9 := Tryz.zeroValue9
  t37 := Tryz.underlying100, a37 := Tryz.isAgg100, z37 := Tryz.sizeOf100, v37 := Tryz.zeroValue100
  t70 := Tryz.underlying99, a70 := Tryz.isAgg99, z70 := Tryz.sizeOf99, v70 := Tryz.zeroValue99
  t72 := Tryz.underlying102, a72 := Tryz.isAgg102, z72 := Tryz.sizeOf102, v72 := Tryz.zeroValue102
  t127 := Tryz.underlying140, a127 := Tryz.isAgg140, z127 := Tryz.sizeOf140, v127 := Tryz.zeroValue140 }
theorem layX : Builder.Extra Tryz.prog ren := {
  sizeBuilder := by kernel_rfl
  liesBuilder := by kernel_rfl
  t5 := Tryz.underlying5, a5 := Tryz.isAgg5, z5 := Tryz.sizeOf5, v5 := Tryz.zeroValue5
  infoByte := by kernel_rfl
  cellsByte := by kernel_rfl
  sizeByte := by kernel_rfl
  neB5 := by decide }

/-- The builder tells its text. -/
theorem bString (B b : Nat) (l : List UInt8) (w : World) (h : Lib.IsBuilderF 102 5 B b (Lib.byteCells l) w) (hBw : B ≤ w.heap.size) :
    Calls Tryz.prog 52 #[.pointer (some ⟨b, 0, none⟩)] w fun e w' => e = .returned (.string ⟨l.toArray⟩) ∧ (Lib.IsBuilderF 102 5 B b (Lib.byteCells l) w' ∧ Below B w w' ∧ Lib.OthersKept 5 (some b) w w') := Any.Builder_String_any_k lay169 layX B b l w h hBw

end Go.Proofs.YthlhopdlkkeohaaGreatDoor
