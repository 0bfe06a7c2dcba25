/- The walk of the document's At of a view: what is at a leaf · strconv.Itoa, FormatBool, the builder and utf8.AppendRune: laid at this program · The builder's WriteRune · Values' texts, as plain mathematics · The walks of the two 'Int's and the two 'Text's: a number's bytes, a text behind its length · The walk of the document's Digits. -/
import Derived.Test.YthlhopdlkkeohaaGreatDoorViewsAll
import Derived.Test.YthlhopdlkkeohaaGreatDoorVSortAll
import Derived.Test.YthlhopdlkkeohaaGreatDoorBItsAAll
import Derived.Shelf.Strconv.Itoa3
import Derived.Shelf.Small.Wraps
import Derived.Shelf.Small.Strs
import Derived.Shelf.Strings.BuilderRune
import Derived.Lib.AppendIntMem
import Derived.Test.YthlhopdlkkeohaaGreatDoorChecked
import Derived.WalkKit
import Derived.Test.YthlhopdlkkeohaaGreatDoorCompDAll
import Derived.Test.YthlhopdlkkeohaaGreatDoorPlainAll
import Derived.Lib.ItoaLen
import Derived.Lib.Small
import Derived.Lib.Strings
import Derived.Lib.RuneBytes
import Derived.Test.YthlhopdlkkeohaaGreatDoorOpsAll
import Derived.Laws.IdiomStrings
import Derived.Laws.BytesArg
import Derived.Deep.RegionWith
import Derived.WalkLawsBesides
import Derived.Deep.RegionHeld3
/- The walk of the document's At of a view: what is at a leaf. -/
namespace Go.Proofs.YthlhopdlkkeohaaGreatDoor.O
open Go.RowKit

theorem sum_up (its : List Lv.Item) (p : List (List UInt8)) : Vw.sum its p = C.upI its p - C.dnI its p := Li.sum_ups _
/-- A variable that holds an entry. -/
structure EVar (w : World) (b : Nat) (pv : Value) (k : Int) (lv : Value) (n : Int) : Prop where
  c0 : w.cell? ⟨b, 0, none⟩ = some pv
  c1 : w.cell? ⟨b, 1, none⟩ = some (.int .i64 k)
  c2 : w.cell? ⟨b, 2, none⟩ = some lv
  c3 : w.cell? ⟨b, 3, none⟩ = some (.int .i64 n)
  f0 : w.frozen? ⟨b, 0, none⟩ = false
  f1 : w.frozen? ⟨b, 1, none⟩ = false
  f2 : w.frozen? ⟨b, 2, none⟩ = false
  f3 : w.frozen? ⟨b, 3, none⟩ = false
abbrev entO (pv : Value) (k : Int) (lv : Value) (n : Int) (T : TypeId) : Obj := .cells #[pv, .int .i64 k, lv, .int .i64 n] T
theorem EVar.new (w : World) (pv : Value) (k : Int) (lv : Value) (n : Int) (T : TypeId) : EVar (w.alloc (entO pv k lv n T)) w.heap.size pv k lv n := ⟨by simp, by simp, by simp, by simp, by simp, by simp, by simp, by simp⟩
theorem EVar.lt {w : World} {b : Nat} {pv : Value} {k : Int} {lv : Value} {n : Int} (h : EVar w b pv k lv n) : b < w.heap.size := World.block_lt_of_cell? w ⟨b, 0, none⟩ h.c0
theorem EVar.blk {w w' : World} {b : Nat} {pv : Value} {k : Int} {lv : Value} {n : Int} (h : EVar w b pv k lv n) (hb : w'.heap[b]? = w.heap[b]?) : EVar w' b pv k lv n :=
  ⟨(World.cell?_of_block hb).trans h.c0, (World.cell?_of_block hb).trans h.c1, (World.cell?_of_block hb).trans h.c2, (World.cell?_of_block hb).trans h.c3, (World.frozen?_of_block hb).trans h.f0, (World.frozen?_of_block hb).trans h.f1, (World.frozen?_of_block hb).trans h.f2, (World.frozen?_of_block hb).trans h.f3⟩
theorem EVar.on {w w' : World} {b : Nat} {pv : Value} {k : Int} {lv : Value} {n : Int} (h : EVar w b pv k lv n) (hb : Below w.heap.size w w') : EVar w' b pv k lv n := h.blk (hb.block b h.lt)
theorem EVar.other {w : World} {b : Nat} {pv : Value} {k : Int} {lv : Value} {n : Int} (h : EVar w b pv k lv n) (o : Obj) : EVar (w.alloc o) b pv k lv n := h.on ((Below.refl _ _).alloc (Nat.le_refl _) _)
/-- The four cells of a result, stored one behind the other. -/
abbrev set4 (w : World) (b : Nat) (pv : Value) (k : Int) (lv : Value) (n : Int) : World := (((w.setCell ⟨b, 0, none⟩ pv).setCell ⟨b, 1, none⟩ (.int .i64 k)).setCell ⟨b, 2, none⟩ lv).setCell ⟨b, 3, none⟩ (.int .i64 n)
theorem set4_cells {w : World} {b : Nat} {pv' : Value} {k' : Int} {lv' : Value} {n' : Int} (h : EVar w b pv' k' lv' n') (pv : Value) (k : Int) (lv : Value) (n : Int) :
    (set4 w b pv k lv n).cell? ⟨b, 0, none⟩ = some pv ∧ (set4 w b pv k lv n).cell? ⟨b, 1, none⟩ = some (.int .i64 k) ∧ (set4 w b pv k lv n).cell? ⟨b, 2, none⟩ = some lv ∧ (set4 w b pv k lv n).cell? ⟨b, 3, none⟩ = some (.int .i64 n) := by
  have o : ∀ (W : World) (i j : Nat) (x : Value), i ≠ j → (W.setCell ⟨b, i, none⟩ x).cell? ⟨b, j, none⟩ = W.cell? ⟨b, j, none⟩ := fun W i j x hij => World.cell?_setCell_other _ _ _ _ (by simp <;> omega)
  have c3 := o ((w.setCell ⟨b, 0, none⟩ pv).setCell ⟨b, 1, none⟩ (.int .i64 k)) 2 3 lv (by decide)
  have d3 := o (w.setCell ⟨b, 0, none⟩ pv) 1 3 (.int .i64 k) (by decide)
  have e3 := o w 0 3 pv (by decide)
  have c2 := o (w.setCell ⟨b, 0, none⟩ pv) 1 2 (.int .i64 k) (by decide)
  have d2 := o w 0 2 pv (by decide)
  have c1 := o w 0 1 pv (by decide)
  refine ⟨?_, ?_, ?_, ?_⟩
  · rw [o _ 3 0 _ (by decide), o _ 2 0 _ (by decide), o _ 1 0 _ (by decide)]
    exact World.cell?_setCell_same _ _ _ h.c0
  · rw [o _ 3 1 _ (by decide), o _ 2 1 _ (by decide)]
    exact World.cell?_setCell_same _ _ _ (c1.trans h.c1)
  · rw [o _ 3 2 _ (by decide)]
    exact World.cell?_setCell_same _ _ _ (c2.trans (d2.trans h.c2))
  · exact World.cell?_setCell_same _ _ _ (c3.trans (d3.trans (e3.trans h.c3)))
theorem below_set4 {A w : World} {b : Nat} (h : Below A.heap.size A w) (hb : A.heap.size ≤ b) (pv : Value) (k : Int) (lv : Value) (n : Int) : Below A.heap.size A (set4 w b pv k lv n) := (((h.setCell hb _).setCell hb _).setCell hb _).setCell hb _
theorem EVar.setOther {w : World} {b : Nat} {pv : Value} {k : Int} {lv : Value} {n : Int} (h : EVar w b pv k lv n) {q : Addr} (hq : q.block ≠ b) (v : Value) : EVar (w.setCell q v) b pv k lv n :=
  h.blk (Below.heap_setCell w q v b (Ne.symm hq))
theorem set4_block (w : World) (b : Nat) (pv : Value) (k : Int) (lv : Value) (n : Int) {g : Nat} (hg : g ≠ b) : (set4 w b pv k lv n).heap[g]? = w.heap[g]? :=
  ((Below.heap_setCell _ _ _ g hg).trans (Below.heap_setCell _ _ _ g hg)).trans ((Below.heap_setCell _ _ _ g hg).trans (Below.heap_setCell _ _ _ g hg))
theorem ret_ent {pv lv : Value} {k n n' : Int} (h : n = n') : Ending.returned (entV pv k lv n) = .returned (entV pv k lv n') := by rw [h]

abbrev z0 : Value := .slice none 0 0
/-- The result and the variable, as they stand ahead of the calls, and behind one. -/
structure Two (w : World) (pv : Value) (k : Int) (W : World) : Prop where
  below : Below w.heap.size w W
  v6 : EVar W w.heap.size z0 0 z0 0
  v7 : EVar W (w.heap.size + 1) pv k z0 0
  h6 : W.heap[w.heap.size]? = some (entO z0 0 z0 0 42)
  h7 : W.heap[w.heap.size + 1]? = some (entO pv k z0 0 42)
theorem Two.new (w : World) (pv : Value) (k : Int) : Two w pv k ((w.alloc (entO z0 0 z0 0 42)).alloc (entO pv k z0 0 42)) := by
  have V7 := EVar.new (w.alloc (entO z0 0 z0 0 42)) pv k z0 0 42
  have H7 := heap_alloc_new (w.alloc (entO z0 0 z0 0 42)) (entO pv k z0 0 42)
  rw [World.size_alloc] at V7 H7
  exact ⟨below_new2 _ _ _, (EVar.new w z0 0 z0 0 42).other _, V7, ((below_new (w.alloc (entO z0 0 z0 0 42)) _).block _ (by rw [World.size_alloc]; omega)).trans (heap_alloc_new w _), H7⟩
theorem Two.on {w W W' : World} {pv : Value} {k : Int} (h : Two w pv k W) (hb : Below W.heap.size W W') : Two w pv k W' :=
  ⟨bchain h.below hb, h.v6.on hb, h.v7.on hb, (hb.block _ h.v6.lt).trans h.h6, (hb.block _ h.v7.lt).trans h.h7⟩
theorem own_keep {w w' : World} {B s n : Nat} {e : TypeId} {v : Value} {xs : List Value} (h : w.ownsRow B e s v n xs) (hk : ∀ g, v.ownBlock = some g → w'.heap[g]? = w.heap[g]?) : w'.ownsRow B e s v n xs := by
  refine ⟨h.1, ?_⟩
  rcases h.2 with hn | ⟨q, cap, cur, hv, hbq, hq, r⟩
  · exact Or.inl hn
  · exact Or.inr ⟨q, cap, cur, hv, hbq, (hk q (by rw [hv]; rfl)).trans hq, r⟩
end Go.Proofs.YthlhopdlkkeohaaGreatDoor.O
/- strconv.Itoa, FormatBool, the builder and utf8.AppendRune: laid at this program. -/
namespace Go.Proofs.YthlhopdlkkeohaaGreatDoor.N
open Go.Shelf Go.RowKit

/-- Which number the library's functions, types and variables have here. -/
def ren : Ren := ⟨fun | 106 => 124 | 121 => 130 | 122 => 123 | 129 => 116 | 169 => 52 | 171 => 44 | 213 => 163 | 214 => 166 | 215 => 162 | 242 => 185 | 243 => 90 | 246 => 131 | 265 => 183 | 278 => 194 | 283 => 167 | 284 => 168 | 285 => 169 | 286 => 170 | 317 => 186 | 318 => 187 | 319 => 188 | 320 => 189 | 337 => 195 | 338 => 196 | n => n, fun | 0 => 0 | 2 => 2 | 3 => 3 | 4 => 4 | 5 => 5 | 9 => 9 | 20 => 20 | 21 => 21 | 37 => 100 | 46 => 124 | 51 => 163 | 53 => 165 | 70 => 99 | 72 => 102 | 75 => 104 | 76 => 105 | 80 => 108 | 127 => 140 | 171 => 201 | 173 => 203 | 212 => 219 | 213 => 220 | 232 => 224 | 233 => 225 | n => n, fun | 17 => 1 | 18 => 2 | 19 => 3 | n => n⟩
theorem lay106 : Lays.n106 Tryz.prog ren := {
  mixed := by kernel_rfl
  f106 := Tryz.func124.trans (congrArg some (by kernel_rfl))
  f213 := Tryz.func163.trans (congrArg some (by kernel_rfl))
  f265 := Tryz.func183.trans (congrArg some (by kernel_rfl))
  t3 := Tryz.underlying3, a3 := Tryz.isAgg3, z3 := Tryz.sizeOf3, v3 := Tryz.zeroValue3
  t9 := Tryz.underlying9, a9 := Tryz.isAgg9, z9 := Tryz.sizeOf9, v9 := Tryz.zeroValue9 }
theorem lay121 : Lays.n121 Tryz.prog ren := {
  mixed := by kernel_rfl
  f121 := Tryz.func130.trans (congrArg some (by kernel_rfl))
  f214 := Tryz.func166.trans (congrArg some (by kernel_rfl))
  t4 := Tryz.underlying4, a4 := Tryz.isAgg4, z4 := Tryz.sizeOf4, v4 := Tryz.zeroValue4
  t9 := Tryz.underlying9, a9 := Tryz.isAgg9, z9 := Tryz.sizeOf9, v9 := Tryz.zeroValue9 }
theorem lay122 : Lays.n122 Tryz.prog ren := {
  mixed := by kernel_rfl
  f122 := Tryz.func123.trans (congrArg some (by kernel_rfl))
  f215 := Tryz.func162.trans (congrArg some (by kernel_rfl))
  t3 := Tryz.underlying3, a3 := Tryz.isAgg3, z3 := Tryz.sizeOf3, v3 := Tryz.zeroValue3
  t4 := Tryz.underlying4, a4 := Tryz.isAgg4, z4 := Tryz.sizeOf4, v4 := Tryz.zeroValue4 }
theorem lay171 : LaysM.n171 Tryz.prog ren := {
  mixed := by kernel_rfl
  f129 := Tryz.func116.trans (congrArg some (by kernel_rfl))
  f171 := Tryz.func44.trans (congrArg some (by kernel_rfl))
  f243 := Tryz.func90.trans (congrArg some (by kernel_rfl))
  f246 := Tryz.func131.trans (congrArg some (by kernel_rfl))
  f283 := Tryz.func167.trans (congrArg some (by kernel_rfl))
  f284 := Tryz.func168.trans (congrArg some (by kernel_rfl))
  f285 := Tryz.func169.trans (congrArg some (by kernel_rfl))
  f286 := Tryz.func170.trans (congrArg some (by kernel_rfl))
  f317 := Tryz.func186.trans (congrArg some (by kernel_rfl))
  f318 := Tryz.func187.trans (congrArg some (by kernel_rfl))
  f319 := Tryz.func188.trans (congrArg some (by kernel_rfl))
  f320 := Tryz.func189.trans (congrArg some (by kernel_rfl))
  f337 := Tryz.func195.trans (congrArg some (by kernel_rfl))
  f338 := Tryz.func196.trans (congrArg some (by kernel_rfl))
  t0 := Tryz.underlying0, a0 := Tryz.isAgg0, z0 := Tryz.sizeOf0, v0 := Tryz.zeroValue0
  t2 := Tryz.underlying2, a2 := Tryz.isAgg2, z2 := Tryz.sizeOf2, v2 := Tryz.zeroValue2
  t3 := Tryz.underlying3, a3 := Tryz.isAgg3, z3 := Tryz.sizeOf3, v3 := Tryz.zeroValue3
  t4 := Tryz.underlying4, a4 := Tryz.isAgg4, z4 := Tryz.sizeOf4, v4 := Tryz.zeroValue4
  t5 := Tryz.underlying5, a5 := Tryz.isAgg5, z5 := Tryz.sizeOf5, v5 := Tryz.zeroValue5
  t9 := Tryz.underlying9, a9 := Tryz.isAgg9, z9 := Tryz.sizeOf9, v9 := Tryz.zeroValue9
  t20 := Tryz.underlying20, a20 := Tryz.isAgg20, z20 := Tryz.sizeOf20, v20 := Tryz.zeroValue20
  t37 := Tryz.underlying100, a37 := Tryz.isAgg100, z37 := Tryz.sizeOf100, v37 := Tryz.zeroValue100
  t46 := Tryz.underlying124, a46 := Tryz.isAgg124, z46 := Tryz.sizeOf124, v46 := Tryz.zeroValue124
  t51 := Tryz.underlying163, a51 := Tryz.isAgg163, z51 := Tryz.sizeOf163, v51 := Tryz.zeroValue163
  t53 := Tryz.underlying165, a53 := Tryz.isAgg165, z53 := Tryz.sizeOf165, v53 := Tryz.zeroValue165
  t171 := Tryz.underlying201, a171 := Tryz.isAgg201, z171 := Tryz.sizeOf201, v171 := Tryz.zeroValue201
  t173 := Tryz.underlying203, a173 := Tryz.isAgg203, z173 := Tryz.sizeOf203, v173 := Tryz.zeroValue203
  t212 := Tryz.underlying219, a212 := Tryz.isAgg219, z212 := Tryz.sizeOf219, v212 := Tryz.zeroValue219
  t213 := Tryz.underlying220, a213 := Tryz.isAgg220, z213 := Tryz.sizeOf220
  t232 := Tryz.underlying224, a232 := Tryz.isAgg224, z232 := Tryz.sizeOf224, v232 := Tryz.zeroValue224
  t233 := Tryz.underlying225, a233 := Tryz.isAgg225, z233 := Tryz.sizeOf225, v233 := Tryz.zeroValue225
  g17 := by kernel_rfl
  g18 := by kernel_rfl
  g19 := by kernel_rfl
  i0 := by kernel_rfl
  i2 := by kernel_rfl
  i3 := by kernel_rfl
  i4 := by kernel_rfl
  i5 := by kernel_rfl
  i9 := by kernel_rfl
  i20 := by kernel_rfl
  i37 := by kernel_rfl
  i46 := by kernel_rfl
  i51 := by kernel_rfl
  i53 := by kernel_rfl
  i171 := by kernel_rfl
  i173 := by kernel_rfl
  i212 := by kernel_rfl
  i232 := by kernel_rfl
  i233 := by kernel_rfl
  m17 := by kernel_rfl
  m18 := by kernel_rfl
  m19 := by kernel_rfl }
theorem lay169 : Lays.n169 Tryz.prog ren := {
  mixed := by kernel_rfl
  f169 := Tryz.func52.trans (congrArg some (by kernel_rfl))
  t0 := Tryz.underlying0, a0 := Tryz.isAgg0, z0 := Tryz.sizeOf0, v0 := Tryz.zeroValue0
  t3 := Tryz.underlying3, a3 := Tryz.isAgg3, z3 := Tryz.sizeOf3, v3 := Tryz.zeroValue3
  t9 := Tryz.underlying9, a9 := Tryz.isAgg9, z9 := Tryz.sizeOf9, v9 := Tryz.zeroValue9
  t37 := Tryz.underlying100, a37 := Tryz.isAgg100, z37 := Tryz.sizeOf100, v37 := Tryz.zeroValue100
  t70 := Tryz.underlying99, a70 := Tryz.isAgg99, z70 := Tryz.sizeOf99, v70 := Tryz.zeroValue99
  t72 := Tryz.underlying102, a72 := Tryz.isAgg102, z72 := Tryz.sizeOf102, v72 := Tryz.zeroValue102
  t127 := Tryz.underlying140, a127 := Tryz.isAgg140, z127 := Tryz.sizeOf140, v127 := Tryz.zeroValue140 }
theorem layX : Builder.Extra Tryz.prog ren := {
  sizeBuilder := by kernel_rfl
  liesBuilder := by kernel_rfl
  t5 := Tryz.underlying5, a5 := Tryz.isAgg5, z5 := Tryz.sizeOf5, v5 := Tryz.zeroValue5
  infoByte := by kernel_rfl
  cellsByte := by kernel_rfl
  sizeByte := by kernel_rfl
  neB5 := by decide }
theorem lay242 : Lays.n242 Tryz.prog ren := {
  mixed := by kernel_rfl
  f242 := Tryz.func185.trans (congrArg some (by kernel_rfl))
  f278 := Tryz.func194.trans (congrArg some (by kernel_rfl))
  t4 := Tryz.underlying4, a4 := Tryz.isAgg4, z4 := Tryz.sizeOf4, v4 := Tryz.zeroValue4
  t5 := Tryz.underlying5, a5 := Tryz.isAgg5, z5 := Tryz.sizeOf5, v5 := Tryz.zeroValue5
  t21 := Tryz.underlying21, a21 := Tryz.isAgg21, z21 := Tryz.sizeOf21, v21 := Tryz.zeroValue21
  t37 := Tryz.underlying100, a37 := Tryz.isAgg100, z37 := Tryz.sizeOf100, v37 := Tryz.zeroValue100
  t46 := Tryz.underlying124, a46 := Tryz.isAgg124, z46 := Tryz.sizeOf124, v46 := Tryz.zeroValue124
  t51 := Tryz.underlying163, a51 := Tryz.isAgg163, z51 := Tryz.sizeOf163, v51 := Tryz.zeroValue163 }

/-- What the listed variable holds: the table of tens. -/
structure Keeps (w : World) : Prop where
  tab : Lib.TabIs Tryz.prog w "internal/strconv.uint64pow10" .u64 Lib.pow10Tab
theorem Keeps.on {w w' : World} (h : Keeps w) (hb : Below w.heap.size w w') : Keeps w' := ⟨Lib.tabBelow_of_tabIs h.tab w' hb⟩

theorem itoa_any (n : Int) (w : World) (hk : Keeps w) (h0 : -9223372036854775808 ≤ n) (h1 : n ≤ 9223372036854775807) :
    Calls Tryz.prog 44 #[.int .i64 n] w fun e w' => e = .returned (.string ⟨(Lib.itoa n).toArray⟩) ∧ Below w.heap.size w w' := by
  refine (Any.strconv_Itoa lay171 n h0 h1 w hk.tab).mono ?_
  rintro e w' ⟨rfl, k, os, rfl⟩
  exact ⟨rfl, Lib.below_grow _ w (Nat.le_refl _) k os⟩
theorem cmp_any (x y : Int) (w : World) : Calls Tryz.prog 123 #[.int .i64 x, .int .i64 y] w fun e w' => e = .returned (.int .i64 (Lib.compareInt x y)) ∧ w' = w := Any.cmp_Compare_int lay122 x y w
theorem cmpS_any (a b : ByteArray) (w : World) : Calls Tryz.prog 124 #[.string a, .string b] w fun e w' => e = .returned (.int .i64 (Lib.compareBytes a.data.toList b.data.toList)) ∧ w' = w := Any.strings_Compare lay106 a b w
theorem formatBool_any (b : Bool) (w : World) : Calls Tryz.prog 130 #[.bool b] w fun e w' => e = .returned (.string ⟨(Lib.formatBool b).toArray⟩) ∧ w' = w := Any.strconv_FormatBool lay121 b w
/-- The builder tells its text. -/
theorem bString (B b : Nat) (l : List UInt8) (w : World) (h : Lib.IsBuilderF 102 5 B b (Lib.byteCells l) w) (hBw : B ≤ w.heap.size) :
    Calls Tryz.prog 52 #[.pointer (some ⟨b, 0, none⟩)] w fun e w' => e = .returned (.string ⟨l.toArray⟩) ∧ (Lib.IsBuilderF 102 5 B b (Lib.byteCells l) w' ∧ Below B w w' ∧ Lib.OthersKept 5 (some b) w w') := Any.Builder_String_any_k lay169 layX B b l w h hBw
theorem appendRune_any (B : Nat) (v : Value) (n : Nat) (xs : List Value) (r : Int) (hr0 : -2147483648 ≤ r) (hr1 : r ≤ 2147483647) (w : World) (hown : w.ownsRowF B 5 1 v n xs) (hlen : n + 4 ≤ 140737488355328) (hBw : B ≤ w.heap.size) :
    Calls Tryz.prog 185 #[v, .int .i32 r] w fun e w' => ∃ v', e = .returned v' ∧ w'.ownsRowF B 5 1 v' (n + (Lib.runeCells r).length) (xs ++ Lib.runeCells r) ∧ ∃ o, (w.alloc o).grownBy w' v.ownBlock := Any.utf8_AppendRune_own lay242 layX B v n xs r hr0 hr1 w hown hlen hBw

end Go.Proofs.YthlhopdlkkeohaaGreatDoor.N
/- The builder's WriteRune. -/
namespace Go.Proofs.YthlhopdlkkeohaaGreatDoor.U
open Go.RowKit
open N (appendRune_any)

set_option maxHeartbeats 4000000 in
set_option maxRecDepth 100000 in
theorem writeRune_any (B b : Nat) (bs : List Value) (r : Int) (hr0 : -2147483648 ≤ r) (hr1 : r ≤ 2147483647) (w : World) (h : Lib.IsBuilderF 102 5 B b bs w) (hlen : bs.length + 4 ≤ 140737488355328) (hBw : B ≤ w.heap.size) :
    Calls Tryz.prog 165 #[at0 b, .int .i32 r] w fun e w' => e = .returned (.tuple #[.int .i64 (Lib.runeCells r).length, .nilIface]) ∧ Left B b (bs ++ Lib.runeCells r) w w' := by
  have hk4 := Lib.runeCells_le r
  go_enter Tryz.func165, Tryz.ntmps165
  go_wp2_with (go_at_call 92; refine (copyCheck_any B b bs _ h).mono ?_)
  rintro e w1 ⟨rfl, hA, b1, k1⟩
  obtain ⟨u, c0, c1, _, _, hu⟩ := two_cells hA
  obtain ⟨au, cu, rfl⟩ := slice_form hu
  have hs1 := b1.size
  go_wp2_with (go_at_call 185; refine (appendRune_any B _ bs.length bs r hr0 hr1 _ hu hlen (by omega)).mono ?_)
  rintro e w2 ⟨v', rfl, hown, o, hg⟩
  obtain ⟨d0, d1, f1, R1, R2, R3⟩ := stored (v' := v') (bs' := bs ++ Lib.runeCells r) (hA.alloc o) ((World.cell?_of_block (Lib.alloc_old w1 _ b hA.lt)).trans c1) hg (by simpa using hown) (by simp; omega)
  obtain ⟨ao, cap, rfl⟩ := slice_form hown
  go_wp2
  go_ret2
  refine ⟨?_, .inr R1, b1.trans (((Below.refl B w1).alloc (by omega) _).trans R2), k1.trans (((Lib.OthersKept.refl _ _ w1).alloc _).trans R3)⟩
  simp [sub_same]


end Go.Proofs.YthlhopdlkkeohaaGreatDoor.U
/- Values' texts, as plain mathematics. -/
namespace Go.Proofs.YthlhopdlkkeohaaGreatDoor
namespace Nq
/-- A value is quoted so. -/
def isQ (b : UInt8) : Bool := b == 34 || b == 92
def quote (l : List UInt8) : List UInt8 := l.flatMap fun b => if isQ b = true then [92, b] else [b]
theorem quote_nil : quote [] = [] := rfl
theorem quote_cons (b : UInt8) (l : List UInt8) : quote (b :: l) = (if isQ b = true then [92, b] else [b]) ++ quote l := rfl
theorem quote_append (a b : List UInt8) : quote (a ++ b) = quote a ++ quote b := by simp [quote]
theorem isQ_high {b : UInt8} (h : 128 ≤ b.toNat) : isQ b = false := by
  simp only [isQ, Bool.or_eq_false_iff, beq_eq_false_iff_ne]
  constructor <;> (intro e; subst e; simp at h)
theorem quote_high {l : List UInt8} (h : ∀ x ∈ l, isQ x = false) : quote l = l := by
  induction l with
  | nil => rfl
  | cons b l ih =>
    rw [quote_cons, h b (by simp), ih (fun x hx => h x (by simp [hx]))]
    simp
theorem quote_length (l : List UInt8) : (quote l).length ≤ 2 * l.length := by
  induction l with
  | nil => simp [quote_nil]
  | cons b l ih =>
    rw [quote_cons, List.length_append, List.length_cons]
    split <;> simp <;> omega

/-- Is a character quoted? -/
def isQN (c : Nat) : Bool := c == 34 || c == 92
end Nq
namespace Vl
open Go.Lib

def tru : List UInt8 := [116, 114, 117, 101]
def fls : List UInt8 := [102, 97, 108, 115, 101]
theorem formatBool_eq (b : Bool) : formatBool b = if b then tru else fls := by cases b <;> decide +kernel
def quoted (l : List UInt8) : List UInt8 := 34 :: (Nq.quote l ++ [34])
/-- A right value's text. -/
def text (k n : Int) (l : List UInt8) : List UInt8 := if k = 1 then itoa n else if k = 2 then quoted l else if n = 1 then tru else fls
theorem text_str (l : List UInt8) : text 2 0 l = quoted l := rfl
theorem text_int (n : Int) : text 1 n [] = itoa n := rfl
theorem quoted_len (l : List UInt8) : (quoted l).length ≤ 2 * l.length + 2 := by
  have := Nq.quote_length l
  simp [quoted]; omega
theorem text_len {k n : Int} {l : List UInt8} (h : Right k n l) : (text k n l).length ≤ 130 := by
  have := h.len
  have := h.amount
  have := quoted_len l
  unfold text
  split
  · have := itoa_length_le n (by omega) (by omega); omega
  · split
    · omega
    · split <;> simp [tru, fls]


theorem decode_one (b : UInt8) (l : List UInt8) (h : b.toNat < 128) : decodeL (b :: l) = (b.toNat, 1) := by
  rcases Nm.chunk (b :: l) (by simp) with ⟨_, h2⟩ | ⟨h2, _⟩
  · simpa using h2
  · simp only [List.getD_cons_zero] at h2; omega
theorem rest_one (b : UInt8) (l : List UInt8) (h : b.toNat < 128) : Nm.rest (b :: l) = l := by
  unfold Nm.rest; rw [decode_one b l h]; rfl
theorem enc_one (b : UInt8) (h : b.toNat < 128) : encodeRune (b.toNat : Int) = [b] := by
  unfold encodeRune
  rw [encodeRuneZ_one (by omega) (by omega)]
  simp
theorem runes_some {l : List UInt8} (hne : l ≠ []) (h : utf l = true) : Nm.isBad l = false ∧ utf (Nm.rest l) = true := by
  unfold utf at *
  cases hb : Nm.isBad l with
  | true => rw [Nm.runes_bad hne hb] at h; cases h
  | false =>
    rw [Nm.runes_step hne hb] at h
    exact ⟨rfl, by simpa using h⟩

end Vl
end Go.Proofs.YthlhopdlkkeohaaGreatDoor
/- The walks of the two 'Int's and the two 'Text's: a number's bytes, a text behind its length. -/
namespace Go.Proofs.YthlhopdlkkeohaaGreatDoor
open Go.RowKit

/-- Bytes as cells. -/
def cellsOf (l : List UInt8) : List Value := l.map fun b => .int .u8 (b.toNat : Int)
theorem cellsOf_snoc (l : List UInt8) (b : UInt8) : cellsOf (l ++ [b]) = cellsOf l ++ [.int .u8 (b.toNat : Int)] := by simp [cellsOf]
theorem Tryz.info5 : (Tryz.prog.info? 5).map (fun i => (i.zero, i.size, i.bytes)) = some (some (.int .u8 0), 1, 1) := by kernel_rfl

theorem one_new (wr : World) (x : Value) : ∀ j u, [x][j]? = some u → (wr.alloc (.cells #[x] 5)).cell? ((⟨wr.heap.size, 0, none⟩ : Addr).add j) = some u := by
  intro j u hj
  match j, hj with
  | 0, hj => simp at hj; subst hj; simp [Addr.add]
theorem one_cell (n : Int) : ∀ u ∈ [Value.int .u8 n], u.oneCell' = true := by intro u hu; simp at hu; subst hu; rfl
theorem len_one {l : List UInt8} {k : Nat} (h : Hid (l.length ≤ k)) (hk : k ≤ 1000000) : l.length + 1 ≤ maxLen := by have := h.out; unfold maxLen; omega
theorem len_bytes {l : List UInt8} {k : Nat} (h : Hid (l.length ≤ k)) (hk : k ≤ 1000000) : (l.length + 1) * 1 ≤ 140737488355328 := by have := h.out; omega

theorem wrap_i64 {e : Int} (h : -9223372036854775808 ≤ e) (h' : e < 9223372036854775808) : IntKind.i64.wrap e = e := by
  simp [IntKind.wrap, IntKind.signed, IntKind.bits]; try split
  all_goals omega
theorem wrap_u8 {e : Int} (h : 0 ≤ e) (h' : e < 256) : IntKind.u8.wrap e = e := by
  simp [IntKind.wrap, IntKind.signed, IntKind.bits]; omega
theorem below_ahead {w w1 : World} (hb : Below w.drew.heap.size w.drew w1) (o : Obj) : Below w.heap.size w (w1.alloc o) :=
  ((Below.refl _ w).drew.trans hb).alloc hb.size o
theorem ret_str {a b : ByteArray} (h : a = b) : Ending.returned (.string a) = .returned (.string b) := by rw [h]
theorem cons_str (x : UInt8) (l : List UInt8) : (⟨#[x]⟩ : ByteArray) ++ ⟨l.toArray⟩ = ⟨(x :: l).toArray⟩ := by
  apply ByteArray.ext; simp

/-- A text behind its length. -/
def textL (l : List UInt8) : List UInt8 := Pk.enc l.length ++ l
theorem append_mk (l : List UInt8) (s : ByteArray) : (⟨l.toArray⟩ : ByteArray) ++ s = ⟨(l ++ s.data.toList).toArray⟩ := by
  apply ByteArray.ext; simp

end Go.Proofs.YthlhopdlkkeohaaGreatDoor
/- The walk of the document's Digits. -/
namespace Go.Proofs.YthlhopdlkkeohaaGreatDoor.N
open Go.RowKit

theorem bchain {a b c : World} (h : Below a.heap.size a b) (k : Below b.heap.size b c) : Below a.heap.size a c := h.trans (k.mono h.size)
theorem below_new (w : World) (o : Obj) : Below w.heap.size w (w.alloc o) := (Below.refl _ _).alloc (Nat.le_refl _) _
theorem below_new2 (w : World) (o p : Obj) : Below w.heap.size w ((w.alloc o).alloc p) := bchain (below_new w o) (below_new _ p)

/-- What a cell holds, it holds behind a call that leaves all that was there. -/
theorem keep_cell {W w1 : World} {a : Addr} {v : Value} (hb : Below W.heap.size W w1) (h : W.cell? a = some v) : w1.cell? a = some v := (hb.cell (World.block_lt_of_cell? W a h)).trans h

theorem dec_len {n : Nat} (h : n < 9223372036854775808) : (Lib.decDigits n).length ≤ 21 := by
  have := Lib.itoa_length_le (n : Int) (by omega) (by omega)
  rwa [Lib.itoa_nonneg] at this
theorem cat_lists (a b : List UInt8) : (⟨a.toArray⟩ : ByteArray) ++ ⟨b.toArray⟩ = ⟨(a ++ b).toArray⟩ := by apply ByteArray.ext; simp

theorem itoa_len {n : Int} (h0 : -9223372036854775808 ≤ n) (h1 : n ≤ 9223372036854775807) : (Lib.itoa n).length ≤ 21 := Lib.itoa_length_le n h0 h1
end Go.Proofs.YthlhopdlkkeohaaGreatDoor.N
